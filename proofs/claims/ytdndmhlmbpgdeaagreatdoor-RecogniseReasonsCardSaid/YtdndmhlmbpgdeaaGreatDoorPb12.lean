/- The fields of the formats of a table by their IDs. Conditions: the table lies in memory, its numbers are ints, the variable of the error of package format holds a pointer. adder; an entry of a map's literal. No condition of its own. A writer is made. Conditions: the table and the values lie in memory, the table is valid. newReader of what is not valid; the whole stream as one of a format. Conditions: as for newReader. The whole stream is written. Conditions: the writer lies in memory, the values are short. -/
import Derived.Test.YtdndmhlmbpgdeaaGreatDoorPb11
import Derived.Test.YtdndmhlmbpgdeaaGreatDoorPb01
import Derived.Laws.IdiomStrings
namespace Go.Proofs.YtdndmhlmbpgdeaaGreatDoor
section RecQ
open Go.RowKit Fx Rec Go.Maps

theorem FmsAt.slice2 {B : Nat → Prop} {w : World} {v : Value} {l : List Fm} (h : FmsAt B w v l) : ∃ a c, v = .slice a l.length c ∧ (l.length = 0 ∨ (l.length ≤ c ∧ c ≤ maxLen)) := by
  rcases h with ⟨a, c, rfl, rfl⟩ | ⟨b, off, cap, rfl, h1, h2, h3, _⟩
  · exact ⟨a, c, rfl, .inl rfl⟩
  · exact ⟨_, _, rfl, .inr ⟨h2, h3⟩⟩
theorem FmsAt.get {B : Nat → Prop} {w : World} {a : Option Addr} {n c : Nat} {l : List Fm} (h : FmsAt B w (.slice a n c) l) (h1 : 1 ≤ l.length) : ∃ b off, a = some ⟨b, off, none⟩ ∧ B b ∧ b < w.heap.size ∧ ∀ i, i < l.length → ∃ u, FmAt B w b (off + i * 2) (l.getD i zm) u := by
  rcases h with ⟨a, c, _, rfl⟩ | ⟨b, off, cap, h0, h2, h3, h4, h5, h6, h7⟩
  · simp at h1
  · cases h0
    exact ⟨b, off, rfl, h5, h6, h7⟩
theorem fieldsE_snoc {L : List Fm} {us : List Value} {k : Nat} (hk : k < L.length) (hu : us.length = k) (u : Value) : fieldsE (L.take (k + 1)) (us ++ [u]) = fieldsE (L.take k) us ++ [((L.getD k zm).id, u)] := by
  have e : L.take (k + 1) = L.take k ++ [L.getD k zm] := by
    rw [List.take_succ_eq_append_getElem hk]
    simp [List.getD, hk]
  unfold fieldsE
  rw [e, List.zip_append (by simp; omega), List.map_append]
  rfl
theorem fieldsE_no {L : List Fm} (h : Ok L) {us : List Value} {k : Nat} (hk : k < L.length) : lkV (fieldsE (L.take k) us) (L.getD k zm).id = none := by
  unfold lkV
  rw [Option.map_eq_none_iff, List.find?_eq_none]
  intro p hp
  unfold fieldsE at hp
  rw [List.mem_map] at hp
  obtain ⟨q, hq, rfl⟩ := hp
  have h1 := (List.of_mem_zip hq).1
  obtain ⟨j, hj, e⟩ := List.getElem_of_mem h1
  rw [List.length_take] at hj
  have h2 := asc_lt h.asc (show j < k by omega) hk
  have e2 : (L.getD j zm) = q.1 := by
    rw [← e]
    simp [List.getD, show j < L.length by omega]
  rw [e2] at h2
  simp only [decide_eq_true_eq]
  omega
/-- The fields of formats of a table that lies in old memory. -/
structure UsAt (w : World) (B : Nat) (L : List Fm) (us : List Value) (k : Nat) : Prop where
  len : us.length = k
  flds : ∀ i, i < k → FldsAt w (us.getD i undef) (L.getD i zm).fs
  old : ∀ i b, i < k → (us.getD i undef).ownBlock = some b → b < B
theorem UsAt.snoc {w : World} {B : Nat} {L : List Fm} {us : List Value} {k : Nat} (h : UsAt w B L us k) {u : Value} (hf : FldsAt w u (L.getD k zm).fs) (ho : ∀ b, u.ownBlock = some b → b < B) : UsAt w B L (us ++ [u]) (k + 1) := by
  have g1 : ∀ i, i < k → (us ++ [u]).getD i undef = us.getD i undef := fun i hi => by
    rw [List.getD_eq_getElem?_getD, List.getElem?_append_left (by rw [h.len]; exact hi), ← List.getD_eq_getElem?_getD]
  have g2 : (us ++ [u]).getD k undef = u := by
    rw [List.getD_eq_getElem?_getD, List.getElem?_append_right (by rw [h.len]; exact Nat.le_refl _), h.len, Nat.sub_self]; rfl
  refine ⟨by simp [h.len], fun i hi => ?_, fun i b hi hb => ?_⟩
  · rcases Nat.lt_or_ge i k with h1 | h1
    · rw [g1 i h1]; exact h.flds i h1
    · obtain rfl : i = k := by omega
      rw [g2]; exact hf
  · rcases Nat.lt_or_ge i k with h1 | h1
    · rw [g1 i h1] at hb; exact h.old i b h1 hb
    · obtain rfl : i = k := by omega
      rw [g2] at hb; exact ho b hb

set_option maxRecDepth 20000 in
set_option maxHeartbeats 4000000 in
theorem fieldsOf_no (v : Value) (L : List Fm) (er : Addr) (w : World) (hE : ErrAt w er) (hV : FmsAt (· < w.heap.size) w v L) (hI : IntsL L) (hb : vd L = false) :
    Calls Tryz.prog 64 #[v] w fun e w' => e = Stops zRf ∧ Below w.heap.size w w' := by
  have HV := Lib.hid (Valid_any v L false er w hE hV hI hb)
  clear hE hV hI hb
  go_enter Tryz.func64, Tryz.ntmps64
  go_wp2_with fail
  refine HV.out.mono ?_
  rintro e w1 ⟨rfl, hB⟩
  have HB := Lib.hid hB
  clear hB
  go_wp2_with fail
  refine (require_no _).mono ?_
  rintro e w2 ⟨rfl, rfl⟩
  exact ⟨rfl, rfl, HB.out⟩
set_option maxRecDepth 20000 in
set_option maxHeartbeats 4000000 in
theorem fieldsOf_yes (v : Value) (L : List Fm) (er : Addr) (w : World) (B0 : Nat) (hB0 : B0 ≤ w.heap.size) (hE : ErrAt w er) (hV : FmsAt (· < B0) w v L) (hI : IntsL L) (hb : vd L = true) :
    Calls Tryz.prog 64 #[v] w fun e w' => ∃ fb us, e = .returned (.map (some fb)) ∧ Below w.heap.size w w' ∧ MapE w' fb (fieldsE L us) ∧ UsAt w B0 L us L.length ∧ w.heap.size ≤ fb := by
  obtain ⟨va, vc, rfl, hvl⟩ := hV.slice2
  obtain ⟨n, hn⟩ : ∃ n, n = L.length := ⟨_, rfl⟩
  have hok := vd_iff.1 hb
  have HV := Lib.hid (Valid_any _ L true er w hE (hV.mono fun k hk => Nat.lt_of_lt_of_le hk hB0) hI hb)
  have HT := Lib.hid (And.intro hV (And.intro hok hn))
  have hfew := hok.few
  rw [← hn] at HV hvl hfew ⊢
  clear hE hV hI hb hok hn hB0
  unfold maxLen at hvl
  go_enter Tryz.func64, Tryz.ntmps64
  go_wp2_with fail
  refine HV.out.mono ?_
  rintro e w1 ⟨rfl, hB⟩
  have HB := Lib.hid hB
  clear hB
  go_wp2_with fail
  refine (require_yes _).mono ?_
  rintro e w2 ⟨rfl, rfl⟩
  have hmm := @run_makeMap Tryz.prog
  go_wp2_with fail
  have hI0 : Below w.heap.size w (w2.alloc (.map #[] 0)) ∧ MapE (w2.alloc (.map #[] 0)) w2.heap.size (fieldsE (L.take 0) []) ∧ UsAt w B0 L [] 0 :=
    ⟨HB.out.alloc HB.out.size _, MapE.made _, ⟨rfl, fun i h => absurd h (by omega), fun i b h => absurd h (by omega)⟩⟩
  have HI0 := Lib.hid hI0
  have hs2 := HB.out.size
  clear hI0
  go_loopw [12] (fun i wr => ∃ (k : Nat) (us : List Value), k ≤ n ∧ i = .int .i64 k ∧ Hid (Below w.heap.size w wr ∧ MapE wr w2.heap.size (fieldsE (L.take k) us) ∧ UsAt w B0 L us k)) (fun i _ => n - (intOf i).toNat)
  case atStart => exact ⟨0, [], Nat.zero_le _, rfl, HI0⟩
  case round =>
    obtain ⟨k, us, hk, rfl, HJ⟩ := hrel
    obtain ⟨wq, rfl⟩ : ∃ wq, wq = wr := ⟨_, rfl⟩
    by_cases hlt : k < n
    · have hV' := HT.out.1
      obtain ⟨b, off, rfl, hB, hbl, hfm⟩ := hV'.get (by rw [← HT.out.2.2]; omega)
      obtain ⟨u, hu⟩ := hfm k (by rw [← HT.out.2.2]; exact hlt)
      obtain ⟨ua, uc, rfl, -⟩ := hu.fs.slice_
      obtain ⟨ul, hul⟩ : ∃ ul, ul = (L.getD k zm).fs.length := ⟨_, rfl⟩
      obtain ⟨id, hid⟩ : ∃ id, id = (L.getD k zm).id := ⟨_, rfl⟩
      have c0 : wq.cell? ⟨b, off + k * 2, none⟩ = some (.int .i64 id) := by rw [hid]; exact (HJ.out.1.cell (p := ⟨b, off + k * 2, none⟩) hbl).trans hu.c0
      have c1 : wq.cell? ⟨b, off + k * 2 + 1, none⟩ = some (.slice ua ul uc) := by rw [hul]; exact (HJ.out.1.cell (p := ⟨b, off + k * 2 + 1, none⟩) hbl).trans hu.c1
      have hno : lkV (fieldsE (L.take k) us) id = none := by rw [hid]; exact fieldsE_no HT.out.2.1 (by rw [← HT.out.2.2]; exact hlt)
      have hki : (0 : Int) ≤ (k : Int) ∧ (k : Int) < (n : Int) := by omega
      have hM1 : MapE (wq.alloc (.cells #[.int .i64 id, .slice ua ul uc] 52)) w2.heap.size (fieldsE (L.take k) us) := HJ.out.2.1.of_block ((bx _).block _ HJ.out.2.1.lt)
      have HN : Hid (UsAt w B0 L (us ++ [.slice ua ul uc]) (k + 1) ∧ fieldsE (L.take (k + 1)) (us ++ [.slice ua ul uc]) = fieldsE (L.take k) us ++ [(id, .slice ua ul uc)]) := Lib.hid ⟨HJ.out.2.2.snoc (by rw [hul]; exact hu.fs) (fun q hq => hu.own q (by rw [← hul]; exact hq)), by rw [hid]; exact fieldsE_snoc (by rw [← HT.out.2.2]; exact hlt) HJ.out.2.2.len _⟩
      have HM1 := Lib.hid hM1
      have Hno := Lib.hid hno
      clear hV' hfm hu hul hid hno hM1
      go_wp2_with (at_mapUpdate; refine wpList_mapUpdate_E _ rfl _ _ _ 108 rfl 3 50 Tryz.underlying108 Tryz.underlying3 w2.heap.size _ rfl HM1.out id (.slice ua ul uc) rfl rfl Hno.out ?_; intro w5 hM5 hG5)
      have HE : Hid (Below w.heap.size w w5 ∧ MapE w5 w2.heap.size (fieldsE (L.take (k + 1)) (us ++ [.slice ua ul uc])) ∧ UsAt w B0 L (us ++ [.slice ua ul uc]) (k + 1)) := Lib.hid ⟨(HJ.out.1.alloc HJ.out.1.size _).grown hG5 (by have := HJ.out.1.size; simp; omega) (fun q hq => by cases hq; exact hs2), by rw [HN.out.2]; exact hM5, HN.out.1⟩
      clear hM5 hG5
      go_wp2_with fail
      exact ⟨⟨k + 1, _, by omega, by go_num, HE⟩, by simp [intOf]; omega⟩
    · obtain rfl : k = n := by omega
      go_wp2_with fail
      go_ret
      exact ⟨_, us, rfl, HJ.out.1, by have := HJ.out.2.1; rwa [HT.out.2.2, List.take_length] at this, HJ.out.2.2, hs2⟩
end RecQ
section RecR
open Go.RowKit Fx Rec Go.Maps

theorem wpList_insert_E {P : Program} (w : World) {ops : Array Oper} {rest : List Oper} {o : Oper} {a : Act} {Q : Exit → Act → World → Prop}
    (hg : o.guard = none) (m x v : Operand) (t : TypeId) (hop : o.op = Op.insert t m x v) (k e : TypeId) (ht : P.underlying t = some (.map k e)) (hk : P.underlying k = some (.int .i64))
    (mb : Nat) (es : List (Int × Value)) (hm : a.eval m = .map (some mb)) (h : MapE w mb es) (id : Int) (val : Value) (hx : a.eval x = .int .i64 id) (hv : a.eval v = val) (hno : lkV es id = none)
    (hK : ∀ w', MapE w' mb (es ++ [(id, val)]) → w.grownBy w' (some mb) → wpList P ops Q rest (a.put o.dst undef) w') :
    wpList P ops Q (o :: rest) a w := by
  refine wpList_plain hg fun K' hK' => ?_
  obtain ⟨w', hrun, r1, r2⟩ := h.put_ ht hk hno val
  unfold Oper.wp
  simp [execOp, hop, hm, hx, hv, hrun, Result.andThen]
  exact hK' _ _ (hK w' r1 r2)

theorem adder_any (fn : FuncId) (cap : Array Value) (σ : Nat → Int) (h0 : σ 0 = 0) (w : World) :
    Calls Tryz.prog 65 #[.func (.func fn) #[] cap] w fun e w' => ∃ sb ab vs, e = .returned (.func (.func 93) #[] #[ptr sb, ptr ab]) ∧ Below w.heap.size w w' ∧
      SumsAt w' sb ab (.func (.func fn) #[] cap) σ 0 vs ∧ w.heap.size ≤ sb ∧ w.heap.size ≤ ab ∧ ∀ g, vs.ownBlock = some g → w.heap.size ≤ g := by
  have hmf : ∀ (fn : Fn) (first cap : Array Value) (w : World), (Instr.makeFunc fn first cap).run Tryz.prog w = .ok (.func fn first cap) w := fun _ _ _ _ => rfl
  go_enter Tryz.func65, Tryz.ntmps65
  go_wp2
  go_ret
  refine ⟨w.heap.size + 1 + 1, w.heap.size, .slice (some ⟨w.heap.size + 1, 0, none⟩) 1 1, rfl, (((Below.refl _ _).alloc (Nat.le_refl _) _).alloc (by simp) _).alloc (by simp; omega) _, ⟨?_, ((Blk.new w _ _).alloc_ _).alloc_ _, ⟨rfl, .inr ⟨w.heap.size + 1, 1, #[.int .i64 0], rfl, Nat.zero_le _, ?_, Nat.le_refl _, by unfold maxLen; omega, rfl, ?_⟩⟩⟩, by omega, Nat.le_refl _, fun g hg => ?_⟩
  · have := Blk.new ((w.alloc (.cells #[.func (.func fn) #[] cap] 114)).alloc (.cells #[.int .i64 0] 3)) 24 #[.slice (some ⟨w.heap.size + 1, 0, none⟩) 1 1]
    simpa using this
  · have := (Blk.new (w.alloc (.cells #[.func (.func fn) #[] cap] 114)) 3 #[.int .i64 0]).alloc_ (.cells #[.slice (some ⟨w.heap.size + 1, 0, none⟩) 1 1] 24)
    simpa [Blk] using this
  · simp [h0]
  · simp only [Value.ownBlock, Option.some.injEq] at hg
    omega
/-- The blocks that a reader only looks at: old ones, and four of its own. -/
def Held (B : Nat) (o : Ro) (k : Nat) : Prop := k < B ∨ k = o.fb ∨ k = o.kb ∨ k = o.ab ∨ k = o.tb
theorem rd_made {w W1 w6 w8 w9 : World} {B0 : Nat} {L : List Fm} {s : ByteArray} {fb sb ab rb : Nat} {us : List Value} {vs : Value} (hB0 : B0 ≤ w.heap.size) (h1 : Below w.heap.size w W1) (s1 : W1.heap.size = w.heap.size + 1) (ht : Blk W1 w.heap.size 9 #[.string s]) (hok : Ok L) (hs : s.size ≤ 65536) (h6 : Below W1.heap.size W1 w6) (hf : MapE w6 fb (fieldsE L us))
    (hU : UsAt W1.drew B0 L us L.length) (hfb : W1.drew.heap.size ≤ fb) (h8 : Below w6.heap.size w6 w8) (hS : SumsAt w8 sb ab (atF w.heap.size) (sumTo s) 0 vs) (hsb : rb + 1 ≤ sb) (hab : rb + 1 ≤ ab) (hvs : ∀ g, vs.ownBlock = some g → rb + 1 ≤ g) (hrb : rb = w6.heap.size)
    (hk : MapE w9 w8.heap.size (kindsR rb)) (h9 : Kept (fun k => k < w8.heap.size ∧ k ≠ rb) w8 w9)
    (hblk : Blk w9 rb 112 #[.map (some fb), .map (some w8.heap.size), .string s, sumF ⟨fb, w8.heap.size, sb, ab, w.heap.size, us⟩, .slice none 0 0]) :
    Below w.heap.size w w9 ∧ Rd w9 (Held w.heap.size ⟨fb, w8.heap.size, sb, ab, w.heap.size, us⟩) ⟨fb, w8.heap.size, sb, ab, w.heap.size, us⟩ rb L s [] := by
  have e6 := h6.size
  have e8 := h8.size
  have e9 := h9.size
  have lfb := hf.lt
  have hfb' : W1.heap.size ≤ fb := hfb
  have lsb := hS.sb.lt
  have lab := hS.ab.lt
  have to9 : ∀ k, k < W1.heap.size → w9.heap[k]? = W1.heap[k]? := fun k hk => (h9.block k ⟨by omega, by omega⟩).trans ((h8.block k (by omega)).trans (h6.block k hk))
  have hsa : sb ≠ ab := fun e => Blk.ne_ hS.sb hS.ab (by decide) e
  have e89 : ∀ k, k < w8.heap.size → k ≠ rb → w9.heap[k]? = w8.heap[k]? := fun k h1 h2 => h9.block k ⟨h1, h2⟩
  have hb : Below w.heap.size w w9 := ⟨h9.os.trans (h8.os.trans (h6.os.trans h1.os)), h9.tape.trans (h8.tape.trans (h6.tape.trans h1.tape)), h9.output.trans (h8.output.trans (h6.output.trans h1.output)), by omega, fun k hk => (to9 k (by omega)).trans (h1.block k hk)⟩
  refine ⟨hb, { ab := (e89 ab lab (by omega)).trans hS.ab, tb := (to9 w.heap.size (by omega)).trans ht, kinds := hk, fields := hf.of_block ((e89 fb (by omega) (by omega)).trans (h8.block fb lfb)), ul := hU.len, flds := fun i hi => (hU.flds i hi).keep (by show W1.heap.size ≤ _; omega) fun b hb => to9 b (by have := hU.old i b hi hb; omega), pin := ?_, pa := .inr (.inr (.inr (.inl rfl))), pt := .inr (.inr (.inr (.inr rfl))), pk := .inr (.inr (.inl rfl)), pf := .inr (.inl rfl), pu := fun i b hi hb => ?_, nr := ?_, ns := ?_, max := hs, ok := hok }, .slice none 0 0, 0, vs, { blk := hblk, sums := hS.keep (e89 sb lsb (by omega)) (e89 ab lab (by omega)) fun g hg => e89 g (own_lt hS.row hg) (by have := hvs g hg; omega), kle := Nat.zero_le _, row := ⟨rfl, .inl ⟨rfl, rfl⟩⟩, len := by simp, nS := fun g hg => ?_, nP := fun g hg => by simp [Value.ownBlock] at hg }⟩
  · rintro k (h | h | h | h | h)
    · omega
    · rw [h]; show fb < _; omega
    · rw [h]; exact hk.lt
    · rw [h]; show ab < _; omega
    · rw [h]; show w.heap.size < _; omega
  · exact .inl (by have := hU.old i b hi hb; omega)
  · rintro (h | h | h | h | h)
    · omega
    · have : rb = fb := h; omega
    · have : rb = w8.heap.size := h; omega
    · have : rb = ab := h; omega
    · have : rb = w.heap.size := h; omega
  · rintro (h | h | h | h | h)
    · have : sb < w.heap.size := h; omega
    · have : sb = fb := h; omega
    · have : sb = w8.heap.size := h; omega
    · exact hsa h
    · have : sb = w.heap.size := h; omega
  · have hg1 := hvs g hg
    have hg2 := own_lt hS.row hg
    rintro (h | h | h | h | h)
    · omega
    · have : g = fb := h; omega
    · have : g = w8.heap.size := h; omega
    · exact own_ne hS.row hS.ab (by decide) hg h
    · have : g = w.heap.size := h; omega

set_option maxRecDepth 20000 in
set_option maxHeartbeats 4000000 in
theorem newReader_yes (v : Value) (L : List Fm) (s : ByteArray) (er : Addr) (w : World) (B0 : Nat) (hBB : B0 ≤ w.heap.size) (hE : ErrAt w er) (hV : FmsAt (· < B0) w v L) (hI : IntsL L) (hb : vd L = true) (hs : s.size ≤ 65536) :
    Calls Tryz.prog 39 #[v, .string s] w fun e w' => ∃ o rb, e = .returned (ptr rb) ∧ Below w.heap.size w w' ∧ Rd w' (Held w.heap.size o) o rb L s [] ∧ ∀ i b, i < L.length → (o.us.getD i undef).ownBlock = some b → b < B0 := by
  have hmf : ∀ (fn : Fn) (first cap : Array Value) (w : World), (Instr.makeFunc fn first cap).run Tryz.prog w = .ok (.func fn first cap) w := fun _ _ _ _ => rfl
  have hd : decide ((s.size : Int) ≤ 65536) = true := by rw [decide_eq_true_eq]; omega
  have hB0 := bx (w := w) (.cells #[.string s] 9)
  have c0 : (w.alloc (.cells #[.string s] 9)).cell? ⟨w.heap.size, 0, none⟩ = some (.string s) := cell_of_row _ _ 0 _ _ _ (heap_alloc_new w _)
  have htb := Blk.new w 9 #[.string s]
  have HFO := Lib.hid (fieldsOf_yes v L er (w.alloc (.cells #[.string s] 9)).drew B0 (Nat.le_trans hBB hB0.size) (hE.below hB0.drew) (hV.kept (Kept.of_below hB0.drew fun k hk => Nat.lt_of_lt_of_le hk hBB)) hI hb)
  have HT := Lib.hid (And.intro hB0 (And.intro htb (And.intro (vd_iff.1 hb) hs)))
  clear hE hV hI hb hs hB0 htb
  go_enter Tryz.func39, Tryz.ntmps39
  go_wp2_with fail
  refine (require_yes _).mono ?_
  rintro e w5 ⟨rfl, rfl⟩
  generalize hW1 : w.alloc (.cells #[.string s] 9) = W1 at *
  have ltb := World.block_lt_of_cell? (h := c0)
  have HF : Hid (∀ W, Below W1.heap.size W1 W → W.cell? ⟨w.heap.size, 0, none⟩ = some (.string s)) := Lib.hid fun W hb => (hb.cell (p := ⟨w.heap.size, 0, none⟩) ltb).trans c0
  clear c0
  go_wp2_with fail
  refine wp_region_T 4 (fun w' : World => Below W1.heap.size W1 w') (by kernel_rfl) (Below.refl _ _).drew (fun hHeld => ?_)
  refine anyT 0 (h := ?_)
  (try simp only [pA, pB, pC, pD])
  refine takeT 2 (y := by intro wS hSw; have s0 := HF.out _ hSw; go_simp; (try with_reducible rfl)) (h := ?_)
  (try simp only [pA, pB, pC, pD])
  refine wpAnyT_ready (rs := [1]) (by kernel_rfl) (by simp) ?_
  refine AllReadyT.cons (o := ?oB3) ?hB3 ?kB3 AllReadyT.nil
  case hB3 => (simp only [List.getElem?_toArray, List.getElem?_cons_zero, List.getElem?_cons_succ]; rfl)
  case kB3 =>
    intro K hK
    go_simp
    refine HFO.out.mono ?_
    rintro e w6 ⟨fb, us, rfl, hB6, hM6, hU6, hfb⟩
    have hB6' : Below W1.heap.size W1 w6 := (Below.refl _ _).drew.trans hB6
    refine hK.out _ _ (fun _ => hB6') ?_
    clear hK K
    (try simp only [pA, pB, pC, pD])
    refine anyT 3 (h := ?_)
    (try simp only [pA, pB, pC, pD])
    refine wpAnyT_ready (rs := [4]) (by kernel_rfl) (by simp) ?_
    refine AllReadyT.cons (o := ?oB5) ?hB5 ?kB5 AllReadyT.nil
    case hB5 => (simp only [List.getElem?_toArray, List.getElem?_cons_zero, List.getElem?_cons_succ]; rfl)
    case kB5 =>
      intro K hK
      go_simp
      refine hK.out _ _ (no_more (by kernel_rfl)) ?_
      clear hK K
      (try simp only [pA, pB, pC, pD])
      refine anyT 5 (S := by exact no_more (by kernel_rfl)) (h := ?_)
      (try simp only [pA, pB, pC, pD])
      refine wpAnyT_done (by kernel_rfl) ?_ _
      have hb7 := Blk.new w6 112 #[.map (some fb), .map none, .string s, .nilFunc, .slice none 0 0]
      have HB6 := Lib.hid (And.intro hB6' (And.intro hM6 (And.intro hU6 (And.intro hfb hb7))))
      clear hB6 hM6 hU6 hfb hb7 hB6'
      go_wp2_with fail
      refine (adder_any 66 #[ptr w.heap.size] (sumTo s) (sumTo_zero s) _).mono ?_
      rintro e w8 ⟨sb, ab, vs, rfl, hB8, hS8, hsb, hab, hvs⟩
      obtain ⟨rb, hrb⟩ : ∃ rb, rb = w6.heap.size := ⟨_, rfl⟩
      rw [← hrb] at HB6 ⊢
      have hsz7 : (w6.alloc (.cells #[.map (some fb), .map none, .string s, .nilFunc, .slice none 0 0] 112)).heap.size = rb + 1 := by rw [hrb]; simp
      have hb8 : Blk w8 rb 112 #[.map (some fb), .map none, .string s, .nilFunc, .slice none 0 0] := (hB8.block rb (by omega)).trans HB6.out.2.2.2.2
      have c3 := hb8.cell 3
      have y3 := hb8.frozen 3
      simp only [List.getElem?_toArray, List.getElem?_cons_zero, List.getElem?_cons_succ] at c3
      have hB68 : Below w6.heap.size w6 w8 := (bx _).trans (hB8.mono (by simp))
      have lrb := hb8.lt
      rw [hsz7] at hsb hab hvs
      have H8 := Lib.hid (And.intro hB68 (And.intro hS8 (And.intro hsb (And.intro hab (And.intro hvs (And.intro hb8 (And.intro hrb lrb)))))))
      clear hB8 hS8 hsb hab hvs hb8 hB68 hsz7 hrb
      have hmm := @run_makeMap Tryz.prog
      go_wp2_with fail
      obtain ⟨X, hX⟩ : ∃ X, X = w8.setCell ⟨rb, 3, none⟩ (.func (.func 93) #[] #[ptr sb, ptr ab]) := ⟨_, rfl⟩
      rw [← hX]
      have hXs : X.heap.size = w8.heap.size := by rw [hX]; simp [World.setCell]
      have hM0 : MapE (X.alloc (.map #[] 0)) w8.heap.size [] := by have := MapE.made X; rwa [hXs] at this
      have hk0 : Kept (· < w8.heap.size) X (X.alloc (.map #[] 0)) := (Kept.refl _ _).alloc (fun k hk => by rw [hXs]; exact hk) _
      obtain ⟨x1, hr1, hM1, hG1⟩ := hM0.put_ Tryz.underlying110 Tryz.underlying3 (id := 1) rfl (.func (.func 67) #[ptr rb] #[])
      have HM1 := Lib.hid (And.intro hM1 (hk0.grown hG1 (fun k hk => Nat.lt_of_lt_of_le hk (by have := hk0.size; rw [hXs] at this; exact this)) (fun q hq => by cases hq; exact Nat.lt_irrefl _)))
      rw [hr1]
      clear hr1 hM1 hG1 hM0 hk0
      go_wp2_with fail
      obtain ⟨hM1, hk1⟩ := HM1.out
      obtain ⟨x2, hr2, hM2, hG2⟩ := hM1.put_ Tryz.underlying110 Tryz.underlying3 (id := 2) rfl (.func (.func 68) #[ptr rb] #[])
      have HM2 := Lib.hid (And.intro hM2 (hk1.grown hG2 (fun k hk => Nat.lt_of_lt_of_le hk (by rw [← hXs]; exact hk1.size)) (fun q hq => by cases hq; exact Nat.lt_irrefl _)))
      rw [hr2]
      clear hr2 hM2 hG2 hM1 hk1
      go_wp2_with fail
      obtain ⟨hM2, hk2⟩ := HM2.out
      obtain ⟨x3, hr3, hM3, hG3⟩ := hM2.put_ Tryz.underlying110 Tryz.underlying3 (id := 3) rfl (.func (.func 69) #[ptr rb] #[])
      have HM3 := Lib.hid (And.intro hM3 (hk2.grown hG3 (fun k hk => Nat.lt_of_lt_of_le hk (by rw [← hXs]; exact hk2.size)) (fun q hq => by cases hq; exact Nat.lt_irrefl _)))
      rw [hr3]
      clear hr3 hM3 hG3 hM2 hk2
      go_wp2_with fail
      obtain ⟨hM3, hk3⟩ := HM3.out
      obtain ⟨x4, hr4, hM4, hG4⟩ := hM3.put_ Tryz.underlying110 Tryz.underlying3 (id := 4) rfl (.func (.func 70) #[ptr rb] #[])
      have HM4 := Lib.hid (And.intro hM4 (hk3.grown hG4 (fun k hk => Nat.lt_of_lt_of_le hk (by rw [← hXs]; exact hk3.size)) (fun q hq => by cases hq; exact Nat.lt_irrefl _)))
      rw [hr4]
      clear hr4 hM4 hG4 hM3 hk3
      go_wp2_with fail
      obtain ⟨hM4, hk4⟩ := HM4.out
      obtain ⟨x5, hr5, hM5, hG5⟩ := hM4.put_ Tryz.underlying110 Tryz.underlying3 (id := 5) rfl (.func (.func 71) #[ptr rb] #[])
      have HM5 := Lib.hid (And.intro hM5 (hk4.grown hG5 (fun k hk => Nat.lt_of_lt_of_le hk (by rw [← hXs]; exact hk4.size)) (fun q hq => by cases hq; exact Nat.lt_irrefl _)))
      rw [hr5]
      clear hr5 hM5 hG5 hM4 hk4
      go_wp2_with fail
      obtain ⟨hM5, hk5⟩ := HM5.out
      obtain ⟨x6, hr6, hM6, hG6⟩ := hM5.put_ Tryz.underlying110 Tryz.underlying3 (id := 6) rfl (.func (.func 72) #[ptr rb] #[])
      have HM6 := Lib.hid (And.intro hM6 (hk5.grown hG6 (fun k hk => Nat.lt_of_lt_of_le hk (by rw [← hXs]; exact hk5.size)) (fun q hq => by cases hq; exact Nat.lt_irrefl _)))
      rw [hr6]
      clear hr6 hM6 hG6 hM5 hk5
      have hbX : Blk X rb 112 #[.map (some fb), .map none, .string s, .func (.func 93) #[] #[ptr sb, ptr ab], .slice none 0 0] := by rw [hX]; exact H8.out.2.2.2.2.2.1.set_ 3 _
      have hb14 : Blk x6 rb 112 #[.map (some fb), .map none, .string s, .func (.func 93) #[] #[ptr sb, ptr ab], .slice none 0 0] := (HM6.out.2.block rb H8.out.2.2.2.2.2.2.2).trans hbX
      have c1 := hb14.cell 1
      have y1 := hb14.frozen 1
      simp only [List.getElem?_toArray, List.getElem?_cons_zero, List.getElem?_cons_succ] at c1
      have HX := Lib.hid (And.intro hX (And.intro hXs hb14))
      clear hX hXs hbX hb14
      go_wp2_with fail
      go_ret
      have hU := HB6.out.2.2.1
      refine ⟨⟨fb, w8.heap.size, sb, ab, w.heap.size, us⟩, rb, rfl, ?_⟩
      rw [← and_assoc]
      refine ⟨?_, fun i b hi hb => hU.old i b hi hb⟩
      have hs1 : W1.heap.size = w.heap.size + 1 := by rw [← hW1]; simp
      refine rd_made hBB HT.out.1 hs1 HT.out.2.1 HT.out.2.2.1 HT.out.2.2.2 HB6.out.1 HB6.out.2.1 hU HB6.out.2.2.2.1 H8.out.1 H8.out.2.1 H8.out.2.2.1 H8.out.2.2.2.1 H8.out.2.2.2.2.1 H8.out.2.2.2.2.2.2.1 ?_ ?_ ?_
      · exact HM6.out.1.of_block (Below.heap_setCell _ _ _ _ (by have := H8.out.2.2.2.2.2.2.2; show w8.heap.size ≠ rb; omega))
      · have k1 : Kept (fun k => k < w8.heap.size ∧ k ≠ rb) w8 X := by rw [HX.out.1]; exact (Kept.refl _ _).setCell (fun h => h.2 rfl) _
        exact (k1.trans (HM6.out.2.mono fun k h => h.1)).setCell (fun h => h.2 rfl) _
      · exact HX.out.2.2.set_ 1 _
end RecR
section WrS
open Go.RowKit Fx Rec Go.Maps

theorem wr_made {w w6 W7 w8 w9 : World} {B0 rb fb sb ab : Nat} {L : List Fm} {us : List Value} {vs vv : Value} {vals : List ByteArray} (hBB : B0 ≤ w.heap.size) (hok : Ok L)
    (h6 : Below w.heap.size w w6) (hM : MapE w6 fb (fieldsE L us)) (hU : UsAt w B0 L us L.length) (hfb : w.heap.size ≤ fb) (h7 : Below rb w6 W7) (s7 : W7.heap.size = rb + 2) (hx : Blk W7 (rb + 1) 90 #[ptr rb]) (hwr : w.heap.size ≤ rb) (hfr : fb < rb)
    (h8 : Below W7.heap.size W7 w8) (hS : SumsAt w8 sb ab (atW (rb + 1)) (sumTo (bytesOf [])) 0 vs) (hsb : rb + 2 ≤ sb) (hab : rb + 2 ≤ ab) (hvs : ∀ g, vs.ownBlock = some g → rb + 2 ≤ g)
    (h9 : Kept (fun k => k < w8.heap.size ∧ k ≠ rb) w8 w9) (hk : MapE w9 w8.heap.size (kindsW rb))
    (hblk : Blk w9 rb 122 #[.map (some fb), .map (some w8.heap.size), vv, .int .i64 0, .slice none 0 0, .func (.func 93) #[] #[ptr sb, ptr ab], .slice none 0 0])
    (hV : StrsV w vv vals) (hO : ∀ b, vv.ownBlock = some b → vals ≠ [] → b < w.heap.size) :
    Below w.heap.size w w9 ∧ WrAt w9 ⟨fb, w8.heap.size, sb, ab, rb + 1, rb, us⟩ w9.heap.size L ⟨[], vals, 0, []⟩ 0 ∧ ∀ q, q < w.heap.size → Safe w9 ⟨fb, w8.heap.size, sb, ab, rb + 1, rb, us⟩ q := by
  have e6 := h6.size
  have e7 := h7.size
  have e8 := h8.size
  have e9 := h9.size
  have lfb := hM.lt
  have lsb := hS.sb.lt
  have lab := hS.ab.lt
  have lk := hk.lt
  have e89 : ∀ k, k < w8.heap.size → k ≠ rb → w9.heap[k]? = w8.heap[k]? := fun k h1 h2 => h9.block k ⟨h1, h2⟩
  have to6 : ∀ k, k < rb → w9.heap[k]? = w6.heap[k]? := fun k hk => (e89 k (by omega) (by omega)).trans ((h8.block k (by omega)).trans (h7.block k (by omega)))
  have hb : Below w.heap.size w w9 := ⟨h9.os.trans (h8.os.trans (h7.os.trans h6.os)), h9.tape.trans (h8.tape.trans (h7.tape.trans h6.tape)), h9.output.trans (h8.output.trans (h7.output.trans h6.output)), by omega, fun k hk => (to6 k (by omega)).trans (h6.block k hk)⟩
  have hS9 : SumsAt w9 sb ab (atW (rb + 1)) (sumTo (bytesOf [])) 0 vs := hS.keep (e89 sb lsb (by omega)) (e89 ab lab (by omega)) fun g hg => e89 g (own_lt hS.row hg) (by have := hvs g hg; omega)
  have own : ∀ q, q < w9.heap.size → q ≠ rb → q ≠ sb → vs.ownBlock ≠ some q → Safe w9 ⟨fb, w8.heap.size, sb, ab, rb + 1, rb, us⟩ q := fun q h1 h2 h3 h4 => ⟨h1, fun h => by
    rcases (own_iff (o := ⟨fb, w8.heap.size, sb, ab, rb + 1, rb, us⟩) hblk hS9.sb q).1 h with h | h | h | h | h
    · exact h2 h
    · exact h3 h
    · cases h
    · cases h
    · exact h4 h⟩
  have old : ∀ q, q < w.heap.size → Safe w9 ⟨fb, w8.heap.size, sb, ab, rb + 1, rb, us⟩ q := fun q hq => own q (by omega) (by omega) (by omega) fun h => by have := hvs q h; omega
  have hfx : fb ≠ rb := by omega
  refine ⟨hb, ⟨{ ab := (e89 ab lab (by omega)).trans hS.ab, xb := (e89 (rb + 1) (by omega) (by omega)).trans ((h8.block _ (by omega)).trans hx), kinds := hk, fields := hM.of_block (to6 fb (by omega)), ul := hU.len, flds := fun i hi => (hU.flds i hi).below hb, sa := ⟨own ab (by omega) (by omega) (fun e => Blk.ne_ hS.sb hS.ab (by decide) e.symm) (fun h => own_ne hS.row hS.ab (by decide) h rfl), by show ab < _; omega⟩, sx := ⟨own (rb + 1) (by omega) (by omega) (by omega) (fun h => by have := hvs _ h; omega), by show rb + 1 < _; omega⟩, sk := ⟨own w8.heap.size (by omega) (by omega) (by omega) (fun h => by have := own_lt hS.row h; omega), by show w8.heap.size < _; omega⟩, sf := ⟨own fb (by omega) hfx (by omega) (fun h => by have := hvs _ h; omega), by show fb < _; omega⟩, su := fun i b hi hb => ⟨old b (by have := hU.old i b hi hb; omega), by have := hU.old i b hi hb; omega⟩, tp := Nat.le_refl _, ok := hok }, vv, .slice none 0 0, .slice none 0 0, vs, [], ?_⟩, old⟩
  exact { blk := hblk, vals := hV.step fun b h1 h2 => hb.block b (hO b h1 h2), sv := fun b h1 h2 => ⟨old b (hO b h1 h2), by have := hO b h1 h2; omega⟩, st := ⟨rfl, .inl ⟨rfl, rfl⟩⟩, sums := hS9, kle := Nat.le_refl _, ch := ⟨rfl, .inl ⟨rfl, rfl⟩⟩, chks := fun i hi => absurd hi (Nat.not_lt_zero i), len := by simp, pl := by simp }
set_option maxRecDepth 20000 in
set_option maxHeartbeats 4000000 in
theorem newWriter_yes (v vv : Value) (L : List Fm) (vals : List ByteArray) (er : Addr) (w : World) (B0 : Nat) (hBB : B0 ≤ w.heap.size) (hE : ErrAt w er) (hV : FmsAt (· < B0) w v L) (hI : IntsL L) (hb : vd L = true) (hS : StrsV w vv vals) (hO : ∀ b, vv.ownBlock = some b → vals ≠ [] → b < w.heap.size) :
    Calls Tryz.prog 48 #[v, vv] w fun e w' => ∃ o, e = .returned (ptr o.wb) ∧ Below w.heap.size w w' ∧ WrAt w' o w'.heap.size L ⟨[], vals, 0, []⟩ 0 ∧ ∀ q, q < w.heap.size → Safe w' o q := by
  have hmf : ∀ (fn : Fn) (first cap : Array Value) (w : World), (Instr.makeFunc fn first cap).run Tryz.prog w = .ok (.func fn first cap) w := fun _ _ _ _ => rfl
  have HFO := Lib.hid (fieldsOf_yes v L er w B0 hBB hE hV hI hb)
  obtain ⟨va, vc, hvv, hv1, hv2, hcells⟩ := hS
  subst hvv
  obtain ⟨n, hn⟩ : ∃ n, n = vals.length := ⟨_, rfl⟩
  rw [← hn] at hv1 hcells hO ⊢
  have HT := Lib.hid (And.intro (vd_iff.1 hb) (And.intro hn (And.intro hv1 (And.intro hv2 (And.intro hcells hO)))))
  clear hE hV hI hb hn hv1 hv2 hcells hO
  go_enter Tryz.func48, Tryz.ntmps48
  go_wp2_with fail
  refine HFO.out.mono ?_
  rintro e w6 ⟨fb, us, rfl, hB6, hM6, hU6, hfb⟩
  obtain ⟨rb, hrb⟩ : ∃ rb, rb = w6.heap.size := ⟨_, rfl⟩
  have hb7 := (Blk.new w6 122 #[.map (some fb), .map none, .slice va n vc, .int .i64 0, .slice none 0 0, .nilFunc, .slice none 0 0]).alloc_ (.cells #[ptr w6.heap.size] 90)
  have hx7 := Blk.new (w6.alloc (.cells #[.map (some fb), .map none, .slice va n vc, .int .i64 0, .slice none 0 0, .nilFunc, .slice none 0 0] 122)) 90 #[ptr w6.heap.size]
  have hs7 : ((w6.alloc (.cells #[.map (some fb), .map none, .slice va n vc, .int .i64 0, .slice none 0 0, .nilFunc, .slice none 0 0] 122)).alloc (.cells #[ptr w6.heap.size] 90)).heap.size = rb + 2 := by rw [hrb]; simp
  have hB7 : Below w6.heap.size w6 ((w6.alloc (.cells #[.map (some fb), .map none, .slice va n vc, .int .i64 0, .slice none 0 0, .nilFunc, .slice none 0 0] 122)).alloc (.cells #[ptr w6.heap.size] 90)) := (bx _).trans ((bx _).mono (by simp))
  rw [World.size_alloc] at hx7
  have HB6 := Lib.hid (And.intro hB6 (And.intro hM6 (And.intro hU6 hfb)))
  clear hB6 hM6 hU6 hfb
  go_wp2_with fail
  generalize hW7 : (w6.alloc (.cells #[.map (some fb), .map none, .slice va n vc, .int .i64 0, .slice none 0 0, .nilFunc, .slice none 0 0] 122)).alloc (.cells #[ptr w6.heap.size] 90) = W7 at *
  have hwr : w.heap.size ≤ w6.heap.size := HB6.out.1.size
  have hfr : fb < w6.heap.size := HB6.out.2.1.lt
  rw [← hrb] at *
  have c0 := hx7.cell 0
  simp only [List.getElem?_toArray, List.getElem?_cons_zero] at c0
  have HF : Hid (∀ W, Below W7.heap.size W7 W → W.cell? ⟨rb + 1, 0, none⟩ = some (ptr rb)) := Lib.hid fun W hb => (hb.cell (p := ⟨rb + 1, 0, none⟩) hx7.lt).trans c0
  have H7 := Lib.hid (And.intro hB7 (And.intro hs7 (And.intro hb7 (And.intro hx7 (And.intro hwr hfr)))))
  clear hB7 hs7 hb7 hx7 c0 hW7 hwr hfr
  refine wp_region_T 5 (fun w' : World => Below W7.heap.size W7 w') (by kernel_rfl) (Below.refl _ _).drew (fun hHeld => ?_)
  refine takeT 0 (y := by intro wS hSw; have s0 := HF.out _ hSw; go_simp; (try with_reducible rfl)) (h := ?_)
  (try simp only [pA, pB, pC, pD])
  refine anyT 1 (h := ?_)
  (try simp only [pA, pB, pC, pD])
  refine wpAnyT_ready (rs := [2]) (by kernel_rfl) (by simp) ?_
  refine AllReadyT.cons (o := ?oB3) ?hB3 ?kB3 AllReadyT.nil
  case hB3 => (simp only [List.getElem?_toArray, List.getElem?_cons_zero, List.getElem?_cons_succ]; rfl)
  case kB3 =>
    intro K hK
    go_simp
    refine (adder_any 76 #[ptr (rb + 1)] (sumTo (bytesOf [])) (sumTo_zero _) _).mono ?_
    rintro e w8 ⟨sb, ab, vs, rfl, hB8, hS8, hsb, hab, hvs⟩
    have hB8' : Below W7.heap.size W7 w8 := (Below.refl _ _).drew.trans hB8
    refine hK.out _ _ (fun _ => hB8') ?_
    clear hK K
    (try simp only [pA, pB, pC, pD])
    have hb8 : Blk w8 rb 122 #[.map (some fb), .map none, .slice va n vc, .int .i64 0, .slice none 0 0, .nilFunc, .slice none 0 0] := (hB8'.block rb H7.out.2.2.1.lt).trans H7.out.2.2.1
    have c5 := hb8.cell 5
    have y5 := hb8.frozen 5
    simp only [List.getElem?_toArray, List.getElem?_cons_zero, List.getElem?_cons_succ] at c5
    refine anyT 3 (h := ?_)
    (try simp only [pA, pB, pC, pD])
    refine anyT 4 (h := ?_)
    (try simp only [pA, pB, pC, pD])
    refine wpAnyT_ready (rs := [5]) (by kernel_rfl) (by simp) ?_
    refine AllReadyT.cons (o := ?oB6) ?hB6 ?kB6 AllReadyT.nil
    case hB6 => (simp only [List.getElem?_toArray, List.getElem?_cons_zero, List.getElem?_cons_succ]; rfl)
    case kB6 =>
      intro K hK
      go_simp
      refine hK.out _ _ (no_more (by kernel_rfl)) ?_
      clear hK K
      (try simp only [pA, pB, pC, pD])
      refine wpAnyT_done (by kernel_rfl) ?_ _
      have e7 : W7.drew.heap.size = rb + 2 := H7.out.2.1
      rw [e7] at hsb hab hvs
      have hx8 : Blk w8 (rb + 1) 90 #[ptr rb] := (hB8'.block _ H7.out.2.2.2.1.lt).trans H7.out.2.2.2.1
      have lrb := hb8.lt
      have lxb := hx8.lt
      obtain ⟨X, hX⟩ : ∃ X, X = w8.setCell ⟨rb, 5, none⟩ (.func (.func 93) #[] #[ptr sb, ptr ab]) := ⟨_, rfl⟩
      have hbX : Blk X rb 122 #[.map (some fb), .map none, .slice va n vc, .int .i64 0, .slice none 0 0, .func (.func 93) #[] #[ptr sb, ptr ab], .slice none 0 0] := by rw [hX]; exact hb8.set_ 5 _
      have hxX : Blk X (rb + 1) 90 #[ptr rb] := by rw [hX]; exact (Below.heap_setCell _ _ _ _ (show rb + 1 ≠ rb by omega)).trans hx8
      have hXs : X.heap.size = w8.heap.size := by rw [hX]; simp [World.setCell]
      have hk8 : Kept (fun k => k ≠ rb) w8 X := by rw [hX]; exact (Kept.refl _ _).setCell (fun h => h rfl) _
      have H8 := Lib.hid (And.intro hB8' (And.intro hS8 (And.intro hsb (And.intro hab (And.intro hvs (And.intro lrb lxb))))))
      have HX := Lib.hid (And.intro hX (And.intro hXs (And.intro hk8 (And.intro hbX hxX))))
      clear hB8 hB8' hS8 hsb hab hvs hb8 e7 hx8 c5 y5 hXs hk8 hHeld
      rw [← hX]
      have cx0 := hxX.cell 0
      simp only [List.getElem?_toArray, List.getElem?_cons_zero] at cx0
      have hmm := @run_makeMap Tryz.prog
      have lxX : rb + 1 < X.heap.size := by rw [HX.out.2.1]; exact H8.out.2.2.2.2.2.2
      clear hX
      go_wp2_with fail
      have hXs := HX.out.2.1
      rw [hXs]
      have hM0 : MapE (X.alloc (.map #[] 0)) w8.heap.size [] := by have := MapE.made X; rwa [hXs] at this
      have hk0 : Kept (· < w8.heap.size) X (X.alloc (.map #[] 0)) := (Kept.refl _ _).alloc (fun k hk => by rw [hXs]; exact hk) _
      obtain ⟨x1, hr1, hM1, hG1⟩ := hM0.put_ Tryz.underlying119 Tryz.underlying3 (id := 1) rfl (.func (.func 77) #[ptr rb] #[])
      have HM1 := Lib.hid (And.intro hM1 (hk0.grown hG1 (fun k hk => Nat.lt_of_lt_of_le hk (by rw [← hXs]; exact hk0.size)) (fun q hq => by cases hq; exact Nat.lt_irrefl _)))
      have cx1 : x1.cell? ⟨rb + 1, 0, none⟩ = some (ptr rb) := by rw [World.cell?_of_block (w := X) (HM1.out.2.block _ H8.out.2.2.2.2.2.2)]; exact cx0
      rw [hr1]
      clear hr1 hM1 hG1 hM0 hk0 hXs
      go_wp2_with fail
      obtain ⟨hM1, hk1⟩ := HM1.out
      have hXs := HX.out.2.1
      obtain ⟨x2, hr2, hM2, hG2⟩ := hM1.put_ Tryz.underlying119 Tryz.underlying3 (id := 2) rfl (.func (.func 78) #[ptr rb] #[])
      have HM2 := Lib.hid (And.intro hM2 (hk1.grown hG2 (fun k hk => Nat.lt_of_lt_of_le hk (by rw [← hXs]; exact hk1.size)) (fun q hq => by cases hq; exact Nat.lt_irrefl _)))
      have cx2 : x2.cell? ⟨rb + 1, 0, none⟩ = some (ptr rb) := by rw [World.cell?_of_block (w := X) (HM2.out.2.block _ H8.out.2.2.2.2.2.2)]; exact cx0
      rw [hr2]
      clear hr2 hM2 hG2 hM1 hk1 hXs
      go_wp2_with fail
      obtain ⟨hM2, hk2⟩ := HM2.out
      have hXs := HX.out.2.1
      obtain ⟨x3, hr3, hM3, hG3⟩ := hM2.put_ Tryz.underlying119 Tryz.underlying3 (id := 3) rfl (.func (.func 79) #[ptr rb] #[])
      have HM3 := Lib.hid (And.intro hM3 (hk2.grown hG3 (fun k hk => Nat.lt_of_lt_of_le hk (by rw [← hXs]; exact hk2.size)) (fun q hq => by cases hq; exact Nat.lt_irrefl _)))
      have cx3 : x3.cell? ⟨rb + 1, 0, none⟩ = some (ptr rb) := by rw [World.cell?_of_block (w := X) (HM3.out.2.block _ H8.out.2.2.2.2.2.2)]; exact cx0
      rw [hr3]
      clear hr3 hM3 hG3 hM2 hk2 hXs
      go_wp2_with fail
      obtain ⟨hM3, hk3⟩ := HM3.out
      have hXs := HX.out.2.1
      obtain ⟨x4, hr4, hM4, hG4⟩ := hM3.put_ Tryz.underlying119 Tryz.underlying3 (id := 4) rfl (.func (.func 80) #[ptr rb] #[])
      have HM4 := Lib.hid (And.intro hM4 (hk3.grown hG4 (fun k hk => Nat.lt_of_lt_of_le hk (by rw [← hXs]; exact hk3.size)) (fun q hq => by cases hq; exact Nat.lt_irrefl _)))
      have cx4 : x4.cell? ⟨rb + 1, 0, none⟩ = some (ptr rb) := by rw [World.cell?_of_block (w := X) (HM4.out.2.block _ H8.out.2.2.2.2.2.2)]; exact cx0
      rw [hr4]
      clear hr4 hM4 hG4 hM3 hk3 hXs
      go_wp2_with fail
      obtain ⟨hM4, hk4⟩ := HM4.out
      have hXs := HX.out.2.1
      obtain ⟨x5, hr5, hM5, hG5⟩ := hM4.put_ Tryz.underlying119 Tryz.underlying3 (id := 5) rfl (.func (.func 81) #[ptr rb] #[])
      have HM5 := Lib.hid (And.intro hM5 (hk4.grown hG5 (fun k hk => Nat.lt_of_lt_of_le hk (by rw [← hXs]; exact hk4.size)) (fun q hq => by cases hq; exact Nat.lt_irrefl _)))
      have cx5 : x5.cell? ⟨rb + 1, 0, none⟩ = some (ptr rb) := by rw [World.cell?_of_block (w := X) (HM5.out.2.block _ H8.out.2.2.2.2.2.2)]; exact cx0
      rw [hr5]
      clear hr5 hM5 hG5 hM4 hk4 hXs
      go_wp2_with fail
      obtain ⟨hM5, hk5⟩ := HM5.out
      have hXs := HX.out.2.1
      obtain ⟨x6, hr6, hM6, hG6⟩ := hM5.put_ Tryz.underlying119 Tryz.underlying3 (id := 6) rfl (.func (.func 82) #[ptr rb] #[])
      have HM6 := Lib.hid (And.intro hM6 (hk5.grown hG6 (fun k hk => Nat.lt_of_lt_of_le hk (by rw [← hXs]; exact hk5.size)) (fun q hq => by cases hq; exact Nat.lt_irrefl _)))
      have cx6 : x6.cell? ⟨rb + 1, 0, none⟩ = some (ptr rb) := by rw [World.cell?_of_block (w := X) (HM6.out.2.block _ H8.out.2.2.2.2.2.2)]; exact cx0
      rw [hr6]
      clear hr6 hM6 hG6 hM5 hk5 hXs
      have hb14 : Blk x6 rb 122 #[.map (some fb), .map none, .slice va n vc, .int .i64 0, .slice none 0 0, .func (.func 93) #[] #[ptr sb, ptr ab], .slice none 0 0] := (HM6.out.2.block rb H8.out.2.2.2.2.2.1).trans hbX
      have c1 := hb14.cell 1
      have y1 := hb14.frozen 1
      simp only [List.getElem?_toArray, List.getElem?_cons_zero, List.getElem?_cons_succ] at c1
      have hxne : (rb + 1 : Nat) ≠ rb := by omega
      have cx7 : (x6.setCell ⟨rb, 1, none⟩ (.map (some w8.heap.size))).cell? ⟨rb + 1, 0, none⟩ = some (ptr rb) := by rw [World.cell?_of_block (w := x6) (Below.heap_setCell _ _ _ _ hxne)]; exact cx6
      have H14 := Lib.hid hb14
      clear hb14 hbX hxX
      go_wp2_with fail
      first | go_end0 | go_ret
      refine ⟨⟨fb, w8.heap.size, sb, ab, rb + 1, rb, us⟩, rfl, ?_⟩
      have hT := HT.out
      refine wr_made hBB hT.1 HB6.out.1 HB6.out.2.1 HB6.out.2.2.1 HB6.out.2.2.2 H7.out.1 H7.out.2.1 H7.out.2.2.2.1 H7.out.2.2.2.2.1 H7.out.2.2.2.2.2 H8.out.1 H8.out.2.1 H8.out.2.2.1 H8.out.2.2.2.1 H8.out.2.2.2.2.1 ?_ ?_ (H14.out.set_ 1 _) ⟨va, vc, by rw [hT.2.1], by rw [← hT.2.1]; exact hT.2.2.1, hT.2.2.2.1, by rw [← hT.2.1]; exact hT.2.2.2.2.1⟩ hT.2.2.2.2.2
      · exact (HX.out.2.2.1.mono (fun k h => h.2) |>.trans (HM6.out.2.mono fun k h => h.1)).setCell (fun h => h.2 rfl) _
      · exact HM6.out.1.of_block (Below.heap_setCell _ _ _ _ (show w8.heap.size ≠ rb by have := H8.out.2.2.2.2.2.1; omega))
end WrS
section RecS
open Go.RowKit Fx Rec Go.Maps

theorem newReader_long (v : Value) (s : ByteArray) (w : World) (hs : ¬ s.size ≤ 65536) :
    Calls Tryz.prog 39 #[v, .string s] w fun e w' => e = Stops zRf ∧ Below w.heap.size w w' := by
  have hd : decide ((s.size : Int) ≤ 65536) = false := by rw [decide_eq_false_iff_not]; omega
  have c0 : (w.alloc (.cells #[.string s] 9)).cell? ⟨w.heap.size, 0, none⟩ = some (.string s) := cell_of_row _ _ 0 _ _ _ (heap_alloc_new w _)
  go_enter Tryz.func39, Tryz.ntmps39
  go_wp2_with fail
  refine (require_no _).mono ?_
  rintro e w5 ⟨rfl, rfl⟩
  exact ⟨rfl, rfl, bx _⟩
set_option maxRecDepth 20000 in
set_option maxHeartbeats 4000000 in
theorem newReader_no (v : Value) (L : List Fm) (s : ByteArray) (er : Addr) (w : World) (hE : ErrAt w er) (hV : FmsAt (· < w.heap.size) w v L) (hI : IntsL L) (hb : vd L = false) (hs : s.size ≤ 65536) :
    Calls Tryz.prog 39 #[v, .string s] w fun e w' => e = Stops zRf ∧ Below w.heap.size w w' := by
  have hd : decide ((s.size : Int) ≤ 65536) = true := by rw [decide_eq_true_eq]; omega
  have hB0 := bx (w := w) (.cells #[.string s] 9)
  have c0 : (w.alloc (.cells #[.string s] 9)).cell? ⟨w.heap.size, 0, none⟩ = some (.string s) := cell_of_row _ _ 0 _ _ _ (heap_alloc_new w _)
  have HFO := Lib.hid (fieldsOf_no v L er (w.alloc (.cells #[.string s] 9)).drew (hE.below hB0.drew) ((hV.kept (Kept.of_below hB0.drew fun _ h => h)).mono fun k hk => Nat.lt_of_lt_of_le hk hB0.size) hI hb)
  have HT := Lib.hid hB0
  clear hE hV hI hb hs hB0
  go_enter Tryz.func39, Tryz.ntmps39
  go_wp2_with fail
  refine (require_yes _).mono ?_
  rintro e w5 ⟨rfl, rfl⟩
  generalize hW1 : w.alloc (.cells #[.string s] 9) = W1 at *
  have ltb := World.block_lt_of_cell? (h := c0)
  have HF : Hid (∀ W, Below W1.heap.size W1 W → W.cell? ⟨w.heap.size, 0, none⟩ = some (.string s)) := Lib.hid fun W hb => (hb.cell (p := ⟨w.heap.size, 0, none⟩) ltb).trans c0
  clear c0
  go_wp2_with fail
  refine wp_region_T 4 (fun w' : World => Below W1.heap.size W1 w') (by kernel_rfl) (Below.refl _ _).drew (fun hHeld => ?_)
  refine wpAnyT_any (i := 0) (oi := ?o1) (v := ?v1) ?h1 ?a1 ?b1 ?c1 ?d1 ?e1 ?j1 ?q1 (Or.inl ⟨?g1, ?y1⟩) ?s1 ?r1
  case h1 => (simp only [List.getElem?_toArray, List.getElem?_cons_zero]; rfl)
  case a1 => kernel_rfl
  case b1 => kernel_rfl
  case c1 => kernel_rfl
  case d1 => kernel_rfl
  case e1 => kernel_rfl
  case j1 => kernel_rfl
  case q1 => exact fun _ _ _ h => h
  case g1 => rfl
  case y1 => (intro wS _; go_simp; (try with_reducible rfl))
  case s1 => exact fun _ => by assumption
  (try simp only [Act.put, List.setIfInBounds_toArray, List.set_cons_zero, List.set_cons_succ])
  refine wpAnyT_take (i := 2) (oi := ?o2) (v := ?v2) ?h2 ?a2 ?b2 ?c2 ?d2 ?e2 ?f2 ?j2 ?q2 (Or.inl ⟨?g2, ?y2⟩) ?s2 ?r2
  case h2 => (simp only [List.getElem?_toArray, List.getElem?_cons_zero, List.getElem?_cons_succ]; rfl)
  case a2 => kernel_rfl
  case b2 => kernel_rfl
  case c2 => kernel_rfl
  case d2 => kernel_rfl
  case e2 => kernel_rfl
  case f2 => kernel_rfl
  case j2 => kernel_rfl
  case q2 => exact fun _ _ _ h => h
  case g2 => rfl
  case y2 => (intro wS hSw; have s0 := HF.out _ hSw; go_simp; (try with_reducible rfl))
  case s2 => assumption
  (try simp only [Act.put, List.setIfInBounds_toArray, List.set_cons_zero, List.set_cons_succ])
  refine wpAnyT_ready (rs := [1]) (by kernel_rfl) (by simp) ?_
  refine AllReadyT.cons (o := ?oB3) ?hB3 ?kB3 AllReadyT.nil
  case hB3 => (simp only [List.getElem?_toArray, List.getElem?_cons_zero, List.getElem?_cons_succ]; rfl)
  case kB3 =>
    intro K hK
    go_simp
    refine HFO.out.mono ?_
    rintro e w6 ⟨rfl, hB6⟩
    exact ⟨rfl, rfl, HT.out.trans ((Below.refl _ _).drew.trans hB6 |>.mono HT.out.size)⟩

theorem Rd.reset {w : World} {P : Nat → Prop} {o : Ro} {rb : Nat} {L : List Fm} {s : ByteArray} {ps : List Pt} (h : Rd w P o rb L s ps) :
    (w.frozen? ⟨rb, 4, none⟩ = false ∧ (w.cell? ⟨rb, 4, none⟩).isSome = true) ∧ Kept P w (w.setCell ⟨rb, 4, none⟩ (.slice none 0 0)) ∧ Rd (w.setCell ⟨rb, 4, none⟩ (.slice none 0 0)) P o rb L s [] := by
  obtain ⟨hf, vp, k, vs, hm⟩ := h
  have hk : Kept P w (w.setCell ⟨rb, 4, none⟩ (.slice none 0 0)) := (Kept.refl _ _).setCell hf.nr _
  have oth : ∀ q, q ≠ rb → (w.setCell ⟨rb, 4, none⟩ (.slice none 0 0)).heap[q]? = w.heap[q]? := fun q hq => Below.heap_setCell _ _ _ _ hq
  refine ⟨⟨hm.blk.frozen 4, by rw [hm.blk.cell]; rfl⟩, hk, hf.kept hk, .slice none 0 0, k, vs, ⟨hm.blk.set_ 4 _, hm.sums.keep (oth _ ?_) (oth _ ?_) (fun q hq => oth q ?_), hm.kle, ⟨rfl, .inl ⟨rfl, rfl⟩⟩, by simp, hm.nS, fun g hg => by simp [Value.ownBlock] at hg⟩⟩
  · exact fun e => Blk.ne_ hm.sums.sb hm.blk (by decide) e
  · exact fun e => Blk.ne_ hm.sums.ab hm.blk (by decide) e
  · exact fun e => own_ne hm.sums.row hm.blk (by decide) hq e
theorem zero_flds (w : World) : (zeroValue 50).run Tryz.prog w = .ok (.slice none 0 0) w := by kernel_rfl
theorem fieldsE_none {L : List Fm} {us : List Value} {id : Int} (h : Rec.has L id = false) : lkV (fieldsE L us) id = none := by
  unfold lkV
  rw [Option.map_eq_none_iff, List.find?_eq_none]
  intro p hp
  unfold fieldsE at hp
  rw [List.mem_map] at hp
  obtain ⟨q, hq, rfl⟩ := hp
  have h1 := (List.of_mem_zip hq).1
  unfold Rec.has at h
  rw [List.any_eq_false] at h
  exact h _ h1

/-- What comes of a whole stream. -/
def WhPost (w : World) (P : Nat → Prop) (o : Ro) (rb : Nat) (L : List Fm) (s : ByteArray) (r : Except Rf (List Pt)) (e : Ending) (w' : World) : Prop :=
  Kept P w w' ∧ match r with
  | .ok ps => ∃ vp, e = .returned vp ∧ Rd w' P o rb L s ps ∧ PartsAt w' P rb ps vp
  | .error f => e = Stops f ∧ ∃ ps', Rd w' P o rb L s ps'
set_option maxRecDepth 20000 in
set_option maxHeartbeats 4000000 in
theorem whole_any (o : Ro) (rb : Nat) (L : List Fm) (s : ByteArray) (P : Nat → Prop) (ps : List Pt) (id : Int) (w : World) (h : Rd w P o rb L s ps) :
    Calls Tryz.prog 40 #[ptr rb, .int .i64 id] w fun e w' => WhPost w P o rb L s (whole L s id) e w' := by
  have c0 := h.fields_
  have cs := h.stream
  obtain ⟨⟨y4, c4⟩, hk, hr⟩ := h.reset
  obtain ⟨u4, hu4⟩ := Option.isSome_iff_exists.1 c4
  have hmax := h.1.max
  have hfew := h.1.ok.few
  obtain ⟨RR, hRR⟩ : ∃ RR, RR = whole L s id := ⟨_, rfl⟩
  rw [← hRR]
  cases hh : Rec.has L id with
  | false =>
    have hlk := fieldsE_none (us := o.us) hh
    have hlook := h.1.fields.look_no Tryz.underlying108 Tryz.underlying3 hlk (zero_flds w) true
    simp only [if_true] at hlook
    have HR := Lib.hid (show RR = .error zRf by rw [hRR, whole, hh]; rfl)
    have HH := Lib.hid h
    clear h hlk hRR hh hk hr
    go_enter Tryz.func40, Tryz.ntmps40
    go_wp2_with fail
    refine (require_no _).mono ?_
    rintro e w5 ⟨rfl, rfl⟩
    refine ⟨rfl, Kept.refl _ _, ?_⟩
    rw [HR.out]
    exact ⟨rfl, ps, HH.out⟩
  | true =>
    obtain ⟨i, hat⟩ := has_iff.1 hh
    have hlk := fieldsE_at h.1.ok h.1.ul hat
    obtain ⟨u, hu⟩ : ∃ u, u = o.us.getD i undef := ⟨_, rfl⟩
    rw [← hu] at hlk
    have hfs := h.1.flds i hat.1
    rw [← hu] at hfs
    obtain ⟨ua, uc, rfl, -⟩ := hfs.slice_
    obtain ⟨fl, hfl⟩ : ∃ fl, fl = (L.getD i zm).fs.length := ⟨_, rfl⟩
    rw [← hfl] at hlk
    have hlook := h.1.fields.look_ Tryz.underlying108 Tryz.underlying3 hlk true
    simp only [if_true] at hlook
    have hfo : (fieldsOf L id).length = fl := by rw [hfl, fieldsOf_at h.1.ok hat]
    have HR := Lib.hid (show RR = match val L s 61 id 0 0 s.size 0 with
      | .error r => .error r
      | .ok (e, ps) => if e < s.size then .error ⟨e, id, fl, 4⟩ else .ok ps by rw [hRR, whole, hh, ← hfo]; rfl)
    have HH := Lib.hid (And.intro h (And.intro hk hr))
    have HAT := Lib.hid hat
    clear h hlk hRR hh hk hr hu hfs hfl hfo hat
    go_enter Tryz.func40, Tryz.ntmps40
    go_wp2_with fail
    refine (require_yes _).mono ?_
    rintro e w5 ⟨rfl, rfl⟩
    go_wp2_with fail
    have hV := valC o rb L s 61 _ P [] id 0 i 0 s.size HH.out.2.2 HAT.out (by have := HAT.out.1; omega) (by decide) (by decide) (Nat.zero_le _) (Nat.le_refl _)
    cases hv : val L s 61 id 0 0 s.size 0 with
    | error rf =>
      rw [show ([] : List Pt).length = 0 from rfl, hv] at hV
      refine hV.mono ?_
      rintro e w6 ⟨hk6, rfl, ps', hr6⟩
      refine ⟨rfl, HH.out.2.1.trans hk6, ?_⟩
      rw [HR.out, hv]
      exact ⟨rfl, ps', hr6⟩
    | ok x =>
      obtain ⟨E, qs⟩ := x
      rw [show ([] : List Pt).length = 0 from rfl, hv] at hV
      refine hV.mono ?_
      rintro e w6 ⟨hk6, rfl, hr6⟩
      have cs6 := hr6.stream
      rw [List.nil_append] at hr6
      obtain ⟨vp, hp⟩ := hr6.parts
      have c6 := hp.cell
      have HE := Lib.hid (And.intro (HH.out.2.1.trans hk6) (And.intro hr6 hp))
      clear hV hk6 hr6 hp
      by_cases hlt : E < s.size
      · have hlt' : (E : Int) < (s.size : Int) := by omega
        go_wp2_with fail
        refine (refuse_any _ _ _ _ _).mono ?_
        rintro e w7 ⟨rfl, n7, rfl⟩
        refine ⟨rfl, HE.out.1.trans (Kept.of_below (drewN_below _ n7) HE.out.2.1.1.pin), ?_⟩
        rw [HR.out, hv]
        show (match (if E < s.size then Except.error _ else Except.ok _ : Except Rf (List Pt)) with | .ok _ => _ | .error _ => _)
        rw [if_pos hlt]
        exact ⟨rfl, qs, HE.out.2.1.keptN n7⟩
      · have hlt' : ¬ (E : Int) < (s.size : Int) := by omega
        go_wp2_with fail
        go_ret
        refine ⟨HE.out.1, ?_⟩
        rw [HR.out, hv]
        show (match (if E < s.size then Except.error _ else Except.ok _ : Except Rf (List Pt)) with | .ok _ => _ | .error _ => _)
        rw [if_neg hlt]
        exact ⟨vp, rfl, HE.out.2.1, HE.out.2.2⟩
end RecS
section WrT
open Go.RowKit Fx Rec

set_option maxRecDepth 20000 in
set_option maxHeartbeats 4000000 in
theorem newWriter_no (v vv : Value) (L : List Fm) (er : Addr) (w : World) (hE : ErrAt w er) (hV : FmsAt (· < w.heap.size) w v L) (hI : IntsL L) (hb : vd L = false) :
    Calls Tryz.prog 48 #[v, vv] w fun e w' => e = Stops zRf ∧ Below w.heap.size w w' := by
  have HFO := Lib.hid (fieldsOf_no v L er w hE hV hI hb)
  clear hE hV hI hb
  go_enter Tryz.func48, Tryz.ntmps48
  go_wp2_with fail
  refine HFO.out.mono ?_
  rintro e w6 ⟨rfl, hB⟩
  exact ⟨rfl, rfl, hB⟩
theorem conv_st {w : World} {B : Nat} {v : Value} {l : List UInt8} {n : Nat} (h : w.ownsRow B 5 1 v n (bytesV l)) (hn : n = l.length) : (convert 64 9 v).run Tryz.prog w = .ok (.string (bytesOf l)) w := by
  subst hn
  rcases h.2 with ⟨rfl, h0⟩ | ⟨g, cap, cur, rfl, hg, hh, hl, hm, hs, ht⟩
  · obtain rfl : l = [] := List.eq_nil_of_length_eq_zero h0
    exact run_convert_bytes_nil (P := Tryz.prog) (w := w) 64 5 Tryz.underlying64 Tryz.underlying5 0 0 9 Tryz.underlying9
  · refine run_convert_bytes_back w 64 9 5 ⟨g, 0, none⟩ cap l Tryz.underlying64 Tryz.underlying5 Tryz.underlying9 fun j hj => ?_
    have hadd : (⟨g, 0, none⟩ : Addr).add j = ⟨g, j, none⟩ := by unfold Addr.add; split <;> simp_all
    rw [hadd, (own_cell h rfl (i := j) (by omega)).1]
    simp [bytesV, List.getElem?_eq_getElem hj]
section
variable {w w' : World} {o : Wo} {top : Nat} {L : List Fm} {σ : Ws} {k : Nat}
theorem WrAt.vals_ (h : WrAt w o top L σ k) : ∃ a c, w.cell? ⟨o.wb, 2, none⟩ = some (.slice a σ.vals.length c) := by
  obtain ⟨hf, vv, vst, vch, vs, chs, hm⟩ := h
  obtain ⟨a, c, rfl, _⟩ := hm.vals
  exact ⟨a, c, by rw [hm.blk.cell]; rfl⟩
theorem WrAt.checks_ (h : WrAt w o top L σ k) : ∃ a c, w.cell? ⟨o.wb, 6, none⟩ = some (.slice a σ.checks.length c) := by
  obtain ⟨hf, vv, vst, vch, vs, chs, hm⟩ := h
  rcases hm.ch.2 with ⟨rfl, h0⟩ | ⟨g, cap, cur, rfl, _⟩
  · exact ⟨none, 0, by rw [hm.blk.cell, h0]; rfl⟩
  · exact ⟨_, _, by rw [hm.blk.cell]; rfl⟩
/-- The function of a checksum, where the writer has it. -/
theorem WrAt.check_ (h : WrAt w o top L σ k) {a : Option Addr} {n c j : Nat} (h6 : w.cell? ⟨o.wb, 6, none⟩ = some (.slice a n c)) (hj : j < σ.checks.length) : n = σ.checks.length ∧ n ≤ c ∧ c ≤ maxLen ∧ ∃ g v, a = some ⟨g, 0, none⟩ ∧ w.cell? ⟨g, j, none⟩ = some v ∧ ChkAt w o v (σ.checks.getD j (0, 0, 0)) := by
  obtain ⟨hf, vv, vst, vch, vs, chs, hm⟩ := h
  rw [hm.blk.cell] at h6
  have e : vch = .slice a n c := by simpa using h6
  subst e
  have hcl : chs.length = σ.checks.length := by simpa using hm.ch.1
  rcases hm.ch.2 with ⟨_, h0⟩ | ⟨g, cap, cur, e, _, hh, h1, h2, _⟩
  · omega
  · cases e
    refine ⟨rfl, h1, h2, g, chs.getD j undef, rfl, ?_, hm.chks j hj⟩
    rw [(own_cell hm.ch rfl (i := j) (by omega)).1, List.getElem?_eq_getElem (by omega), List.getD_eq_getElem?_getD, List.getElem?_eq_getElem (by omega)]
    rfl
theorem WrAt.conv_ (h : WrAt w o top L σ k) : ∃ a c, w.cell? ⟨o.wb, 4, none⟩ = some (.slice a σ.st.length c) ∧ (convert 64 9 (.slice a σ.st.length c)).run Tryz.prog w = .ok (.string (bytesOf σ.st)) w := by
  obtain ⟨hf, vv, vst, vch, vs, chs, hm⟩ := h
  obtain ⟨a, c, rfl, _⟩ := hm.slice_
  exact ⟨a, c, by rw [hm.blk.cell]; rfl, conv_st hm.st rfl⟩
theorem lay1_len {st : List UInt8} {c : Nat × Nat × Nat} (h : c.2.1 + c.2.2 ≤ st.length) : (lay1 st c).length = st.length := patch_len _ _ _ (by rw [nbytes_len]; exact h)
theorem layAll_take {st : List UInt8} {cs : List (Nat × Nat × Nat)} {j : Nat} (h : j < cs.length) : layAll st (cs.take (j + 1)) = lay1 (layAll st (cs.take j)) (cs.getD j (0, 0, 0)) := by
  unfold layAll
  rw [List.take_succ_eq_append_getElem h, List.foldl_append]
  simp [List.getD, List.getElem?_eq_getElem h]
end
/-- What comes of the whole stream. -/
def WwPost (o : Wo) (w : World) (r : Option ByteArray) (e : Ending) (w' : World) : Prop :=
  StepW o NoX w w' ∧ match r with
  | some b => e = .returned (.string b)
  | none => e = Stops zRf
theorem WwPost.no {o : Wo} {w w' : World} {r : Option ByteArray} (hr : r = none) (hs : StepW o NoX w w') : WwPost o w r (Stops zRf) w' := by
  subst hr
  exact ⟨hs, rfl⟩
theorem WwPost.yes {o : Wo} {w w' : World} {r : Option ByteArray} {b : ByteArray} (hr : r = some b) (hs : StepW o NoX w w') : WwPost o w r (.returned (.string b)) w' := by
  subst hr
  exact ⟨hs, rfl⟩
set_option maxRecDepth 20000 in
set_option maxHeartbeats 4000000 in
theorem wwhole_any {w : World} {o : Wo} {top : Nat} {L : List Fm} {vs : List ByteArray} (h : WrAt w o top L ⟨[], vs, 0, []⟩ 0) (hsh : Short vs) (id : Int) :
    Calls Tryz.prog 49 #[ptr o.wb, .int .i64 id] w fun e w' => WwPost o w (wwhole L id vs) e w' := by
  obtain ⟨c0, -⟩ := h.maps_
  have hfew := h.1.ok.few
  obtain ⟨RR, hRR⟩ : ∃ RR, RR = wwhole L id vs := ⟨_, rfl⟩
  rw [← hRR]
  have hrefl : StepW o NoX w w := (h.below (Below.refl _ _)).1
  cases hh : Rec.has L id with
  | false =>
    have hlk := fieldsE_none (us := o.us) hh
    have hlook := h.1.fields.look_no Tryz.underlying108 Tryz.underlying3 hlk (zero_flds w) true
    simp only [if_true] at hlook
    have HR := Lib.hid (WwPost.no (show RR = none by rw [hRR, wwhole, hh]; rfl) hrefl)
    clear h hlk hRR hh hrefl
    go_enter Tryz.func49, Tryz.ntmps49
    go_wp2_with fail
    refine (require_no _).mono ?_
    rintro e w5 ⟨rfl, rfl⟩
    exact ⟨rfl, HR.out⟩
  | true =>
    obtain ⟨i, hat⟩ := has_iff.1 hh
    have hlk := fieldsE_at h.1.ok h.1.ul hat
    obtain ⟨u, hu⟩ : ∃ u, u = o.us.getD i undef := ⟨_, rfl⟩
    rw [← hu] at hlk
    have hfs := h.1.flds i hat.1
    rw [← hu] at hfs
    obtain ⟨ua, uc, rfl, -⟩ := hfs.slice_
    obtain ⟨fl, hfl⟩ : ∃ fl, fl = (L.getD i zm).fs.length := ⟨_, rfl⟩
    rw [← hfl] at hlk
    have hlook := h.1.fields.look_ Tryz.underlying108 Tryz.underlying3 hlk true
    simp only [if_true] at hlook
    have HR := Lib.hid (show RR = (wval L 61 id ⟨[], vs, 0, []⟩).bind fun σ => if σ.vals = [] then some (bytesOf (layAll σ.st σ.checks)) else none by rw [hRR, wwhole, hh]; rfl)
    have ht : Tame ⟨[], vs, 0, []⟩ := ⟨hsh, Nat.le_refl _, fun c hc => by simp at hc, List.Pairwise.nil⟩
    have hV := wvalC o top L h.1.ok 61 id i hat (by have := hat.1; omega)
    have HV := Lib.hid (And.intro hV (And.intro h ht))
    clear h hlk hRR hh hu hfs hfl hat hV ht hrefl
    go_enter Tryz.func49, Tryz.ntmps49
    go_wp2_with fail
    refine (require_yes _).mono ?_
    rintro e w5 ⟨rfl, rfl⟩
    go_wp2_with fail
    refine (HV.out.1.run _ _ HV.out.2.1 HV.out.2.2).mono ?_
    rcases hv : wval L 61 id ⟨[], vs, 0, []⟩ with _ | σ1
    · rintro e w6 ⟨hs6, rfl⟩
      exact ⟨rfl, WwPost.no (by rw [HR.out, hv]; rfl) hs6⟩
    · rintro e w6 ⟨hs6, rfl, hw6⟩
      obtain ⟨-, ht1⟩ := HV.out.1.grows _ _ hv HV.out.2.2
      obtain ⟨va, vc, c2⟩ := hw6.vals_
      obtain ⟨ca, cc, c6⟩ := hw6.checks_
      obtain ⟨m, hm⟩ : ∃ m, m = σ1.checks.length := ⟨_, rfl⟩
      obtain ⟨q, hq⟩ : ∃ q, q = σ1.vals.length := ⟨_, rfl⟩
      have hpl := hw6.parts_.2.2
      have hmm : m ≤ 5000 := by have := ht1.cnt; omega
      rw [← hm] at c6
      rw [← hq] at c2
      have H6 := Lib.hid (And.intro hs6 (And.intro hw6 (And.intro ht1 (And.intro hv (And.intro hm (And.intro hq c6))))))
      clear hs6 hw6 ht1 hv hm hq hpl hlook c0
      by_cases hq0 : q = 0
      · have hd : ((q : Int) == 0) = true := by simp [hq0]
        have HR2 : Hid (RR = some (bytesOf (layAll σ1.st σ1.checks))) := Lib.hid (by rw [HR.out, H6.out.2.2.2.1]; exact if_pos (List.eq_nil_of_length_eq_zero (by rw [← H6.out.2.2.2.2.2.1]; exact hq0)))
        clear hq0
        go_wp2_with fail
        refine (require_yes _).mono ?_
        rintro e w7 ⟨rfl, rfl⟩
        go_wp2_with fail
        clear hd
        go_loopw [35] (fun i wr => ∃ (j k : Nat) (st : List UInt8), j ≤ m ∧ i = .int .i64 j ∧ wr.cell? ⟨o.wb, 6, none⟩ = some (.slice ca m cc) ∧ Hid (StepW o NoX w5 wr ∧ WrAt wr o top L { σ1 with st := st } k ∧ st = layAll σ1.st (σ1.checks.take j) ∧ st.length = σ1.st.length ∧ (j < m → k ≤ (σ1.checks.getD j (0, 0, 0)).2.1))) (fun i _ => m - (intOf i).toNat)
        case atStart => exact ⟨0, 0, σ1.st, Nat.zero_le _, rfl, c6, Lib.hid ⟨H6.out.1, H6.out.2.1, rfl, rfl, fun _ => Nat.zero_le _⟩⟩
        case round =>
          obtain ⟨j, k, st, hjm, rfl, c6r, HJ⟩ := hrel
          obtain ⟨wq, rfl⟩ : ∃ wq, wq = wr := ⟨_, rfl⟩
          by_cases hlt : j < m
          · have hjc : j < σ1.checks.length := by rw [← H6.out.2.2.2.2.1]; exact hlt
            obtain ⟨-, hcm, hcx, g, v, rfl, cg, hck⟩ := HJ.out.2.1.check_ c6r (j := j) hjc
            have hck' : ChkAt wq o v (σ1.checks.getD j (0, 0, 0)) := hck
            obtain ⟨c, hc⟩ : ∃ c, c = σ1.checks.getD j (0, 0, 0) := ⟨_, rfl⟩
            have hmem : c ∈ σ1.checks := by rw [hc, List.getD_eq_getElem?_getD, List.getElem?_eq_getElem hjc]; exact List.getElem_mem hjc
            have hce := H6.out.2.2.1.each c hmem
            rw [← hc] at hck'
            obtain ⟨x, y, z⟩ := c
            have HCK := Lib.hid (And.intro hck' (And.intro hc hce))
            obtain ⟨g0, g1, g2, g3, g4, db, u9, f9, rfl, -⟩ := hck'
            have hki : (0 : Int) ≤ (j : Int) ∧ (j : Int) < (m : Int) := by omega
            unfold maxLen at hcx
            clear hck hc hmem hce hjc
            go_wp2_with fail
            have hcl := HCK.out.2.2
            have hle := HJ.out.2.2.2.1
            have hk := HJ.out.2.2.2.2 hlt
            rw [← HCK.out.2.1] at hk
            refine (chk_any HJ.out.2.1 HCK.out.1 hcl.1 hcl.2.1 hcl.2.2.1 (by show y + z ≤ st.length; rw [hle]; exact hcl.2.2.2) hk).mono ?_
            rintro e w8 ⟨rfl, hs8, ⟨k8, hk8, hw8⟩, h68⟩
            have HE : Hid (w8.cell? ⟨o.wb, 6, none⟩ = some (.slice (some ⟨g, 0, none⟩) m cc) ∧ StepW o NoX w5 w8 ∧ WrAt w8 o top L { σ1 with st := lay1 st (x, y, z) } k8 ∧ lay1 st (x, y, z) = layAll σ1.st (σ1.checks.take (j + 1)) ∧ (lay1 st (x, y, z)).length = σ1.st.length ∧ (j + 1 < m → k8 ≤ (σ1.checks.getD (j + 1) (0, 0, 0)).2.1)) := Lib.hid (by
              refine ⟨h68.trans c6r, HJ.out.1.trans hs8, hw8, ?_, ?_, fun hj1 => ?_⟩
              · rw [layAll_take (by rw [← H6.out.2.2.2.2.1]; exact hlt), ← HCK.out.2.1, ← HJ.out.2.2.1]
              · rw [lay1_len (show y + z ≤ st.length by rw [hle]; exact hcl.2.2.2)]; exact hle
              · have ho := List.pairwise_iff_getElem.1 H6.out.2.2.1.ord j (j + 1) (by rw [← H6.out.2.2.2.2.1]; exact hlt) (by rw [← H6.out.2.2.2.2.1]; exact hj1) (by omega)
                have e1 := HCK.out.2.1
                rw [List.getD_eq_getElem?_getD, List.getElem?_eq_getElem (by rw [← H6.out.2.2.2.2.1]; exact hlt), Option.getD_some] at e1
                rw [List.getD_eq_getElem?_getD, List.getElem?_eq_getElem (by rw [← H6.out.2.2.2.2.1]; exact hj1), Option.getD_some]
                rw [← e1] at ho
                exact Nat.le_trans hk8 ho)
            clear hs8 hw8 h68 hk8 hcl hle hk cg c6r
            go_wp2_with fail
            exact ⟨⟨j + 1, k8, _, by omega, by go_num, HE.out.1, Lib.hid ⟨HE.out.2.1, HE.out.2.2.1, HE.out.2.2.2.1, HE.out.2.2.2.2.1, HE.out.2.2.2.2.2⟩⟩, by simp [intOf]; omega⟩
          · obtain rfl : j = m := by omega
            obtain ⟨sa, sc, c4, hcv⟩ := HJ.out.2.1.conv_
            obtain ⟨S, hS⟩ : ∃ S, S = bytesOf st := ⟨_, rfl⟩
            have hcv' : (convert 64 9 (.slice sa st.length sc)).run Tryz.prog wq = .ok (.string S) wq := by rw [hS]; exact hcv
            have c4' : wq.cell? ⟨o.wb, 4, none⟩ = some (.slice sa st.length sc) := c4
            obtain ⟨n5, hn5⟩ : ∃ n5, n5 = st.length := ⟨_, rfl⟩
            rw [← hn5] at hcv' c4'
            have HY : Hid (WwPost o w5 RR (.returned (.string S)) wq) := Lib.hid (WwPost.yes (by rw [HR2.out, hS, HJ.out.2.2.1, H6.out.2.2.2.2.1, List.take_length]) HJ.out.1)
            clear hcv c4 hS hn5
            go_wp2_with fail
            first | go_end0 | go_ret
            exact HY.out
      · have hd : ((q : Int) == 0) = false := by simp [hq0]
        have HY : Hid (WwPost o w5 RR (Stops zRf) w6) := Lib.hid (WwPost.no (by rw [HR.out, H6.out.2.2.2.1]; exact if_neg (fun e => hq0 (by rw [H6.out.2.2.2.2.2.1, e]; rfl))) H6.out.1)
        clear hq0
        go_wp2_with fail
        refine (require_no _).mono ?_
        rintro e w7 ⟨rfl, rfl⟩
        exact ⟨rfl, HY.out⟩
end WrT
end Go.Proofs.YtdndmhlmbpgdeaaGreatDoor
