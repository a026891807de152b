/- Find. Conditions: the list is readable; its numbers are ints; texts of limited length. -/
import Derived.Test.YtcnokccgdiodlaaGreatDoorFmtZb
import Derived.Laws.ResultCell
namespace Go.Proofs.YtcnokccgdiodlaaGreatDoor
open Go.RowKit Go.Shelf Fx Go.Sort

/-- Where the library's Clone lies in this program. -/
def cloneRen : Go.Shelf.Ren := { f := fun x => if x = 25 then 54 else x, t := fun x => if x = 0 then 0 else if x = 3 then 3 else if x = 4 then 4 else if x = 5 then 5 else if x = 9 then 9 else if x = 37 then 44 else if x = 47 then 111 else x, g := fun x => x }
theorem cloneLays : LaysPu.n25 Tryz.prog cloneRen where
  mixed := by kernel_rfl
  f25 := by kernel_rfl
  t0 := by kernel_rfl
  a0 := fun w => by kernel_rfl
  z0 := fun w => by kernel_rfl
  v0 := fun w => by kernel_rfl
  i0 := by kernel_rfl
  t3 := by kernel_rfl
  a3 := fun w => by kernel_rfl
  z3 := fun w => by kernel_rfl
  v3 := fun w => by kernel_rfl
  i3 := by kernel_rfl
  t4 := by kernel_rfl
  a4 := fun w => by kernel_rfl
  z4 := fun w => by kernel_rfl
  v4 := fun w => by kernel_rfl
  i4 := by kernel_rfl
  t5 := by kernel_rfl
  a5 := fun w => by kernel_rfl
  z5 := fun w => by kernel_rfl
  v5 := fun w => by kernel_rfl
  i5 := by kernel_rfl
  t9 := by kernel_rfl
  a9 := fun w => by kernel_rfl
  z9 := fun w => by kernel_rfl
  v9 := fun w => by kernel_rfl
  i9 := by kernel_rfl
  t37 := by kernel_rfl
  a37 := fun w => by kernel_rfl
  z37 := fun w => by kernel_rfl
  v37 := fun w => by kernel_rfl
  i37 := by kernel_rfl
  t47 := by kernel_rfl
  a47 := fun w => by kernel_rfl
  z47 := fun w => by kernel_rfl
  v47 := fun w => by kernel_rfl
  i47 := by kernel_rfl
theorem clone0_any (s : ByteArray) (w : World) (hlim : s.size ≤ 281474976710656) :
    Calls Tryz.prog 54 #[.string s] w fun e w' => e = .returned (.string s) ∧ Below w.heap.size w w' :=
  AnyPu.stringslite_Clone cloneLays s w hlim
theorem clone_any (s : ByteArray) (w : World) (hlim : s.size ≤ 281474976710656) :
    Calls Tryz.prog 33 #[.string s] w fun e w' => e = .returned (.string s) ∧ Below w.heap.size w w' := by
  go_enter Tryz.func33, Tryz.ntmps33
  go_wp2_with fail
  refine (clone0_any _ _ hlim).mono ?_; rintro e w' ⟨rfl, hB⟩
  go_wp2_with fail
  go_ret
  exact ⟨rfl, hB⟩
theorem infoFmt2 : (Tryz.prog.info? 34).map (·.size) = some 2 := by kernel_rfl
theorem results_ct_fmt {fn : Func} {p u : Tmp} (h : fn.results = #[.cell p 34, .tmp u]) (tmps : Array Value) (w : World) (g : Nat) (cs : Array Value)
    (hp : tmps.getD p undef = .pointer (some ⟨g, 0, none⟩)) (hg : w.heap[g]? = some (.cells cs 34 (0, 0))) (hs : cs.size = 2) :
    (results fn tmps).run Tryz.prog w = .ok (.tuple #[.agg cs, tmps.getD u undef]) w := by
  have h1 := run_loadVar_row (P := Tryz.prog) w g 34 34 cs (0, 0) _ hg Tryz.underlying34 rfl (infoFmt2.trans (by rw [hs]))
  rw [results_cell_tmp h, hp]
  simp [asAddr, h1, Result.andThen]
theorem wpList_append_fld {ops : Array Oper} {rest : List Oper} {o : Oper} {a : Act} {w : World} {Q : Exit → Act → World → Prop}
    (hg : o.guard = none) (s x : Operand) (hop : o.op = Op.call { callee := Callee.builtin Builtin.append, args := #[s, x], argTypes := #[32, 32] })
    (v : Value) (n : Nat) (xs : List Value) (hs : a.eval s = v) (hown : w.ownsRow 0 56 4 v n xs) (hn : n ≤ 1000) (g : Nat) (f : Fld) (hx : a.eval x = .slice (some ⟨g, 0, none⟩) 1 1)
    (hb : w.heap[g]? = some (.cells (fldC f).toArray 56 (0, 0)))
    (hK : ∀ v' w', Grew w w' 0 56 4 v v' (n + 1) (xs ++ fldC f) → wpList Tryz.prog ops Q rest (a.put o.dst v') w') : wpList Tryz.prog ops Q (o :: rest) a w :=
  wpList_plain hg fun _ hK' => by
    obtain ⟨v', w', hr, h2⟩ := run_append_fld w o.type v n xs hown hn g f hb
    unfold Oper.wp
    simp [execOp, hop, resolve, invoke, builtin, hs, hx, hr, Result.andThen]
    exact hK' _ _ (hK _ _ h2)
/-- What a search gives. -/
def findO (l : List Fm) (id : Int) : Option Fm := l.find? fun f => decide (f.id = id)
theorem idxM_lt : ∀ {l : List Fm} {id : Int} {k : Nat}, (idxM l id k = -1 ∧ findO l id = none) ∨ ∃ i, i < l.length ∧ idxM l id k = ((k + i : Nat) : Int) ∧ findO l id = some (l.getD i zm)
  | [], _, _ => .inl ⟨rfl, rfl⟩
  | f :: t, id, k => by
    by_cases h : f.id = id
    · right
      refine ⟨0, by simp, ?_, ?_⟩
      · rw [idxM, if_pos h]; rfl
      · unfold findO; rw [List.find?_cons_of_pos (by simpa using h)]; rfl
    · rcases idxM_lt (l := t) (id := id) (k := k + 1) with ⟨h1, h2⟩ | ⟨i, h1, h2, h3⟩
      · left
        refine ⟨by rw [idxM, if_neg h]; exact h1, ?_⟩
        unfold findO at h2 ⊢; rw [List.find?_cons_of_neg (by simpa using h)]; exact h2
      · right
        refine ⟨i + 1, by simp; omega, ?_, ?_⟩
        · rw [idxM, if_neg h, h2]; congr 1; omega
        · unfold findO at h3 ⊢; rw [List.find?_cons_of_neg (by simpa using h), h3]; simp
/-- What Find ends in. -/
def FindPost (o : Option Fm) (id : Int) (w : World) (e : Ending) (w' : World) : Prop :=
  (match o with
  | some f => ∃ v, e = .returned (.tuple #[.agg #[.int .i64 id, v], .bool true]) ∧ FldsAt w' v f.fs
  | none => e = .returned (.tuple #[.agg #[.int .i64 (0), .slice none 0 0], .bool false])) ∧ Below w.heap.size w w'
set_option maxRecDepth 100000 in
set_option maxHeartbeats 2000000 in
theorem Find_any (v : Value) (l : List Fm) (id : Int) (w : World) (hV : FmsAt (· < w.heap.size) w v l) (hS : ∀ f ∈ l, f.fs.length ≤ 1000 ∧ ∀ i, i < f.fs.length → (f.fs.getD i zf).text.size ≤ 100000000) :
    Calls Tryz.prog 16 #[v, .int .i64 id] w (FindPost (findO l id) id w) := by
  have hmf : ∀ (fn : Fn) (first cap : Array Value) (w : World), (Instr.makeFunc fn first cap).run Tryz.prog w = .ok (.func fn first cap) w := fun _ _ _ _ => rfl
  obtain ⟨a, c, rfl, hlc⟩ := hV.slice_
  obtain ⟨n, hn⟩ : ∃ n, n = l.length := ⟨_, rfl⟩
  rw [← hn] at hV hlc ⊢
  have HV := Lib.hid (And.intro hV (And.intro hn hS))
  clear hV hS hn
  go_enter Tryz.func16, Tryz.ntmps16
  go_wp2_with fail
  obtain ⟨w0, hw0⟩ : ∃ w0, w0 = (w.alloc (.cells #[.int .i64 id] 3)).alloc (.cells #[.int .i64 0, .slice none 0 0] 34) := ⟨_, rfl⟩
  rw [← hw0]
  have hb0 : Below w.heap.size w w0 := by rw [hw0]; exact (bx _).alloc (by simp) _
  have s0 : w0.heap.size = w.heap.size + 2 := by rw [hw0]; simp
  have h0 : w0.heap[w.heap.size]? = some (.cells #[.int .i64 id] 3 (0, 0)) := by rw [hw0]; exact heap_alloc2_old _ _ _
  have h1 : w0.heap[w.heap.size + 1]? = some (.cells #[.int .i64 0, .slice none 0 0] 34 (0, 0)) := by rw [hw0]; exact heap_alloc2_new _ _ _
  have HI := Lib.hid (indexM_any (.slice a n c) l id w.heap.size w0 ((HV.out.1.kept (Kept.of_below hb0 fun _ h => h)).mono fun g hg => by show g < _; omega) (cell_of_row _ _ _ _ _ _ h0))
  have H0 := Lib.hid (And.intro hb0 (And.intro s0 (And.intro h0 h1)))
  clear hw0 hb0 s0 h0 h1
  refine HI.out.mono ?_
  rintro e w1 ⟨rfl, hb1⟩
  obtain ⟨hb0, s0, h0, h1⟩ := H0.out
  have H1 : Hid (Below w.heap.size w w1 ∧ w1.heap[w.heap.size]? = some (.cells #[.int .i64 id] 3 (0, 0)) ∧ w1.heap[w.heap.size + 1]? = some (.cells #[.int .i64 0, .slice none 0 0] 34 (0, 0)) ∧ w.heap.size + 2 ≤ w1.heap.size) := Lib.hid
    ⟨hb0.trans (hb1.mono hb0.size), (hb1.block _ (by omega)).trans h0, (hb1.block _ (by omega)).trans h1, by have := hb1.size; omega⟩
  clear hb0 s0 h0 h1 hb1 HI H0
  rcases idxM_lt (l := l) (id := id) (k := 0) with ⟨e1, e2⟩ | ⟨i, hi, e1, e2⟩
  · rw [e1]
    have HE := Lib.hid e2
    clear e1 e2
    go_wp2_with (first | (refine wpList_store_row rfl 34 _ _ rfl (w.heap.size + 1) #[.int .i64 0, .slice none 0 0] rfl rfl 34 _ H1.out.2.2.1 (infoFmt2.trans rfl) rfl (by simp [Value.oneCell']) ?_))
    refine bodyPost_ret (v := .tuple #[.agg #[.int .i64 0, .slice none 0 0], .bool false]) (results_ct_fmt (p := 4) (u := 5) rfl _ _ (w.heap.size + 1) #[.int .i64 0, .slice none 0 0] rfl (setRow_heap _ _ _ _ _ _ H1.out.2.2.1) rfl) rfl ?_
    rw [HE.out]
    refine ⟨rfl, H1.out.1.trans ⟨rfl, rfl, rfl, by simp, fun k hk => ?_⟩⟩
    simp only [World.setRow, Array.getElem?_modify]
    rw [if_neg (by omega)]
  · rw [e1]
    have hin : i < n := by have := HV.out.2.1; omega
    obtain ⟨b, off, rfl, -, hbl, -, m1, m2, hfm⟩ := HV.out.1.at_ (by omega)
    obtain ⟨f, hf⟩ : ∃ f, f = l.getD i zm := ⟨_, rfl⟩
    obtain ⟨u, hu⟩ := hfm i hi
    rw [← hf] at hu e2
    have hmem : f ∈ l := by rw [hf]; simp [List.getD, List.getElem?_eq_getElem hi]
    have hu1 := hu.kept (Kept.of_below H1.out.1 fun _ h => h) hbl
    have c0 := hu1.c0
    have c1 := hu1.c1
    obtain ⟨ua, uc, rfl, hucl⟩ := hu1.fs.slice_
    obtain ⟨m, hm⟩ : ∃ m, m = f.fs.length := ⟨_, rfl⟩
    rw [← hm] at hucl hu hu1 c1
    have lb := World.block_lt_of_cell? (h := c0)
    have hmn : m ≤ 1000 := by rw [hm]; exact (HV.out.2.2 f hmem).1
    have HF := Lib.hid (And.intro hu.fs (And.intro hu.own (And.intro hm (And.intro e2 (HV.out.2.2 f hmem).2))))
    have g0 : w1.cell? ⟨w.heap.size, 0, none⟩ = some (.int .i64 id) := cell_of_row _ _ _ _ _ _ H1.out.2.1
    have lw : w.heap.size < w1.heap.size := by have := H1.out.2.2.2; omega
    unfold maxLen at m2
    have d0 : ¬ ((0 + i : Nat) : Int) < 0 := by omega
    have d1 : ((0 + i : Nat) : Int) = (i : Int) := by omega
    rw [d1]
    clear hf hfm hmem hu hu1 hm e1 e2 d0 d1
    go_wp2_with fail
    obtain ⟨W, hW⟩ : ∃ W, W = w1.alloc (.cells #[.int .i64 id, .slice none 0 0] 34) := ⟨_, rfl⟩
    rw [← hW]
    have hbW : Below w.heap.size w W := by rw [hW]; exact H1.out.1.alloc H1.out.1.size _
    have hW0 : W.heap[w1.heap.size]? = some (.cells #[.int .i64 id, .slice none 0 0] 34 (0, 0)) := by rw [hW]; exact heap_alloc_new _ _
    have hW1 : W.heap[w.heap.size + 1]? = some (.cells #[.int .i64 0, .slice none 0 0] 34 (0, 0)) := by rw [hW, Below.heap_alloc _ _ _ (by have := H1.out.2.2.2; omega)]; exact H1.out.2.2.1
    obtain ⟨G, hG⟩ : ∃ G, G = w1.heap.size := ⟨_, rfl⟩
    have hGw : w.heap.size + 2 ≤ G := by rw [hG]; exact H1.out.2.2.2
    rw [← hG] at hW0 ⊢
    have HW : Hid (Below w.heap.size w W ∧ W.heap[w.heap.size + 1]? = some (.cells #[.int .i64 0, .slice none 0 0] 34 (0, 0)) ∧ ∃ v, W.heap[G]? = some (.cells #[.int .i64 id, v] 34 (0, 0)) ∧
        W.ownsRow 0 56 4 v 0 (flat (f.fs.take 0)) ∧ ∀ g, v.ownBlock = some g → w.heap.size ≤ g) := Lib.hid ⟨hbW, hW1, _, hW0, World.ownsRow_nil _ _ _ _, by simp [Value.ownBlock]⟩
    clear hW hbW hW0 hW1 H1 c0 c1 g0 lw lb hG
    go_loopw [24] (fun i wr => ∃ j : Nat, j ≤ m ∧ i = .int .i64 j ∧ Hid (Below w.heap.size w wr ∧ wr.heap[w.heap.size + 1]? = some (.cells #[.int .i64 0, .slice none 0 0] 34 (0, 0)) ∧ ∃ v, wr.heap[G]? = some (.cells #[.int .i64 id, v] 34 (0, 0)) ∧
        wr.ownsRow 0 56 4 v j (flat (f.fs.take j)) ∧ ∀ g, v.ownBlock = some g → w.heap.size ≤ g)) (fun i _ => m - (intOf i).toNat)
    case atStart => exact ⟨0, Nat.zero_le _, rfl, HW⟩
    case round =>
      obtain ⟨j, hj, rfl, HJ⟩ := hrel
      by_cases hjm : j < m
      · have hjl : j < f.fs.length := by have := HF.out.2.2.1; omega
        obtain ⟨fb, fo, rfl, -, -, n1, n2, hfl⟩ := HF.out.1.at_ (by omega)
        have hPf : fb < w.heap.size := HF.out.2.1 fb rfl
        obtain ⟨⟨gk, gn, gf, gt⟩, hg⟩ : ∃ g, g = f.fs.getD j zf := ⟨_, rfl⟩
        have hgt := HF.out.2.2.2.2 j hjl
        rw [← hg] at hgt
        obtain ⟨hbJ, hr1, v, hv, hown, hob⟩ := HJ.out
        have hgA := (hfl j hjl).of_block (w' := wr) (hbJ.block fb hPf)
        rw [← hg] at hgA
        obtain ⟨g0, g1, g2, g3⟩ := hgA
        have lgb := World.block_lt_of_cell? (h := g0)
        obtain ⟨va, vc, rfl, hvc⟩ := own_slice hown
        have HO := Lib.hid (And.intro hown (And.intro hob (And.intro hv (And.intro hbJ hr1))))
        have HG := Lib.hid hg
        obtain ⟨wc, hwc⟩ : ∃ wc, wc = wr.alloc (.cells #[.int .i64 gk, .int .i64 gn, .int .i64 gf, .string gt] 56) := ⟨_, rfl⟩
        have hBc : Below wr.heap.size wr wc := by rw [hwc]; exact bx _
        have hc0 : wc.heap[wr.heap.size]? = some (.cells #[.int .i64 gk, .int .i64 gn, .int .i64 gf, .string gt] 56 (0, 0)) := by rw [hwc]; exact heap_alloc_new _ _
        have HC := Lib.hid (And.intro hBc hc0)
        have k3 : wc.cell? ⟨wr.heap.size, 3, none⟩ = some (.string gt) := cell_of_row _ _ _ _ _ _ hc0
        unfold maxLen at n2
        clear hfl hg hv hown hob hbJ hr1 hBc hc0 HJ hvc
        go_wp2_with fail
        rw [← hwc]
        clear hwc
        refine (clone_any gt wc (by omega)).mono ?_
        rintro e w2 ⟨rfl, hb2⟩
        obtain ⟨hown, hob, hv, hbJ, hr1⟩ := HO.out
        obtain ⟨hBc, hc0⟩ := HC.out
        have lG : G < wr.heap.size := lt_of_heap hv
        have l1 : w.heap.size + 1 < wr.heap.size := lt_of_heap hr1
        have sJ := hbJ.size
        have sc := lt_of_heap hc0
        have b02 : Below wr.heap.size wr w2 := hBc.trans (hb2.mono hBc.size)
        have hG2 : w2.heap[G]? = some (.cells #[.int .i64 id, .slice va j vc] 34 (0, 0)) := (b02.block _ lG).trans hv
        have hX2 : w2.heap[wr.heap.size]? = some (.cells #[.int .i64 gk, .int .i64 gn, .int .i64 gf, .string gt] 56 (0, 0)) := (hb2.block _ sc).trans hc0
        have k0 : w2.cell? ⟨wr.heap.size, 0, none⟩ = some (.int .i64 gk) := cell_of_row _ _ _ _ _ _ hX2
        have k1 : w2.cell? ⟨wr.heap.size, 1, none⟩ = some (.int .i64 gn) := cell_of_row _ _ _ _ _ _ hX2
        have k2 : w2.cell? ⟨wr.heap.size, 2, none⟩ = some (.int .i64 gf) := cell_of_row _ _ _ _ _ _ hX2
        have k3 : w2.cell? ⟨wr.heap.size, 3, none⟩ = some (.string gt) := cell_of_row _ _ _ _ _ _ hX2
        have z3 : w2.frozen? ⟨wr.heap.size, 3, none⟩ = false := Blk.frozen (w := w2) hX2 3
        have q1 : w2.cell? ⟨G, 1, none⟩ = some (.slice va j vc) := cell_of_row _ _ _ _ _ _ hG2
        have z1 : w2.frozen? ⟨G, 1, none⟩ = false := Blk.frozen (w := w2) hG2 1
        have neG : G ≠ wr.heap.size := by omega
        have lG2 : G < w2.heap.size := lt_of_heap hG2
        have ne : ∀ g, g ≠ wr.heap.size → (w2.setCell ⟨wr.heap.size, 3, none⟩ (.string gt)).heap[g]? = w2.heap[g]? := fun g hg => Below.heap_setCell _ _ _ _ hg
        have ao : ∀ o : Obj, Below (w2.setCell ⟨wr.heap.size, 3, none⟩ (.string gt)).heap.size (w2.setCell ⟨wr.heap.size, 3, none⟩ (.string gt)) ((w2.setCell ⟨wr.heap.size, 3, none⟩ (.string gt)).alloc o) := fun o => bx o
        have es : (w2.setCell ⟨wr.heap.size, 3, none⟩ (.string gt)).heap.size = w2.heap.size := by simp [World.setCell]
        have HOA : Hid (((w2.setCell ⟨wr.heap.size, 3, none⟩ (.string gt)).alloc (.cells #[.int .i64 gk, .int .i64 gn, .int .i64 gf, .string gt] 56)).ownsRow 0 56 4 (.slice va j vc) j (flat (f.fs.take j))) := Lib.hid (ownsRow_below (own_keep hown fun g cur hg hh => (ne g (by have := lt_of_heap hh; omega)).trans (b02.block g (lt_of_heap hh))) (ao _))
        have HBA : Hid (((w2.setCell ⟨wr.heap.size, 3, none⟩ (.string gt)).alloc (.cells #[.int .i64 gk, .int .i64 gn, .int .i64 gf, .string gt] 56)).heap[w2.heap.size]? = some (.cells #[.int .i64 gk, .int .i64 gn, .int .i64 gf, .string gt] 56 (0, 0))) := Lib.hid (by
          have h := heap_alloc_new (w2.setCell ⟨wr.heap.size, 3, none⟩ (.string gt)) (.cells #[.int .i64 gk, .int .i64 gn, .int .i64 gf, .string gt] 56)
          rw [es] at h; exact h)
        have hW2 : Below w.heap.size w (w2.setCell ⟨wr.heap.size, 3, none⟩ (.string gt)) := (hbJ.trans (b02.mono sJ)).setCell (p := ⟨wr.heap.size, 3, none⟩) (by show _ ≤ wr.heap.size; omega) _
        have hA : ∀ g, g < wr.heap.size → ((w2.setCell ⟨wr.heap.size, 3, none⟩ (.string gt)).alloc (.cells #[.int .i64 gk, .int .i64 gn, .int .i64 gf, .string gt] 56)).heap[g]? = wr.heap[g]? := fun g hg => ((ao _).block g (by rw [es]; have := b02.size; omega)).trans ((ne g (by omega)).trans (b02.block g hg))
        have HK : Hid (∀ v' w', Grew ((w2.setCell ⟨wr.heap.size, 3, none⟩ (.string gt)).alloc (.cells #[.int .i64 gk, .int .i64 gn, .int .i64 gf, .string gt] 56)) w' 0 56 4 (.slice va j vc) v' (j + 1) (flat (f.fs.take j) ++ fldC ⟨gk, gn, gf, gt⟩) →
            ∃ a1 c1, v' = .slice a1 (j + 1) c1 ∧ (∃ x, w'.cell? ⟨G, 1, none⟩ = some x) ∧ w'.frozen? ⟨G, 1, none⟩ = false ∧ Hid (Below w.heap.size w (w'.setCell ⟨G, 1, none⟩ v') ∧ (w'.setCell ⟨G, 1, none⟩ v').heap[w.heap.size + 1]? = some (.cells #[.int .i64 0, .slice none 0 0] 34 (0, 0)) ∧ ∃ v, (w'.setCell ⟨G, 1, none⟩ v').heap[G]? = some (.cells #[.int .i64 id, v] 34 (0, 0)) ∧
              (w'.setCell ⟨G, 1, none⟩ v').ownsRow 0 56 4 v (j + 1) (flat (f.fs.take (j + 1))) ∧ ∀ g, v.ownBlock = some g → w.heap.size ≤ g)) := Lib.hid (fun v' w' hGr => by
          obtain ⟨a1, c1, rfl, _, _⟩ := own_slice hGr.own
          have hGA : Blk ((w2.setCell ⟨wr.heap.size, 3, none⟩ (.string gt)).alloc (.cells #[.int .i64 gk, .int .i64 gn, .int .i64 gf, .string gt] 56)) G 34 #[.int .i64 id, .slice va j vc] := (hA G lG).trans hv
          have hRA : Blk ((w2.setCell ⟨wr.heap.size, 3, none⟩ (.string gt)).alloc (.cells #[.int .i64 gk, .int .i64 gn, .int .i64 gf, .string gt] 56)) (w.heap.size + 1) 34 #[.int .i64 0, .slice none 0 0] := (hA _ l1).trans hr1
          have g1 := hGr.blkOther HOA.out hGA (by decide)
          have r1 := hGr.blkOther HOA.out hRA (by decide)
          have hob' : ∀ g, (Value.slice a1 (j + 1) c1).ownBlock = some g → w.heap.size ≤ g := fun g hg => by
            rcases hGr.blk with h | h
            · exact hob g (h ▸ hg)
            · rw [h] at hg; cases hg
              have := b02.size
              simp [World.setCell]; omega
          refine ⟨a1, c1, rfl, ⟨_, g1.cell 1⟩, g1.frozen 1, Lib.hid ⟨?_, ?_, .slice a1 (j + 1) c1, g1.set_ 1 _, ?_, hob'⟩⟩
          · have hb' := (hW2.alloc (by rw [es]; have := b02.size; omega) (.cells #[.int .i64 gk, .int .i64 gn, .int .i64 gf, .string gt] 56)).grown hGr.grown (by have := (ao (.cells #[.int .i64 gk, .int .i64 gn, .int .i64 gf, .string gt] 56)).size; rw [es] at this; have := b02.size; omega) (fun k hk => hob k hk)
            exact hb'.setCell (p := ⟨G, 1, none⟩) (by show _ ≤ G; omega) _
          · exact (Below.heap_setCell _ _ _ _ (by show _ ≠ G; omega)).trans r1
          · have e : flat (f.fs.take (j + 1)) = flat (f.fs.take j) ++ fldC ⟨gk, gn, gf, gt⟩ := by
              rw [take_succ_getD _ zf j hjl, ← HG.out]; simp [flat]
            rw [e]
            exact own_keep hGr.own fun g cur _ hh => Below.heap_setCell _ _ _ _ (fun e => by
              have h2 : Blk w' G _ _ := g1
              unfold Blk at h2
              rw [e, h2] at hh; cases hh))
        clear hown hob hv hbJ hr1 hBc hc0 hb2 b02 hG2 hX2 ne ao hW2 hA HO HC HG es g0 g1 g2 g3
        go_wp2_with (at_builtin; refine wpList_append_fld rfl (.tmp 33) (.tmp 35) rfl (.slice va j vc) j (flat (f.fs.take j)) rfl HOA.out (by omega) w2.heap.size ⟨gk, gn, gf, gt⟩ rfl HBA.out ?_; intro v1 wA hGr; obtain ⟨a1, c1, rfl, ⟨x1, p1⟩, z1, hF⟩ := HK.out v1 wA hGr)
        exact ⟨⟨j + 1, by omega, by go_num, hF⟩, by simp [intOf]; omega⟩
      · obtain rfl : j = m := by omega
        obtain ⟨hbJ, hr1, v, hv, hown, hob⟩ := HJ.out
        have eT : f.fs.take j = f.fs := by rw [HF.out.2.2.1, List.take_length]
        rw [eT] at hown
        rw [HF.out.2.2.1] at hown
        have hFA : FldsAt wr v f.fs := FldsAt.of_own hown
        obtain ⟨va, vc, rfl, -⟩ := hFA.slice_
        have lG : G < wr.heap.size := lt_of_heap hv
        have q0 : wr.cell? ⟨G, 0, none⟩ = some (.int .i64 id) := cell_of_row _ _ _ _ _ _ hv
        have q1 : wr.cell? ⟨G, 1, none⟩ = some (.slice va f.fs.length vc) := cell_of_row _ _ _ _ _ _ hv
        have hne : ∀ g, (Value.slice va f.fs.length vc).ownBlock = some g → g ≠ w.heap.size + 1 := fun g hg e => by
          obtain ⟨cur, hh⟩ := own_heap hown hg
          rw [e, hr1] at hh; cases hh
        have H2 := Lib.hid (And.intro hbJ (And.intro hr1 (And.intro hFA hne)))
        clear hbJ hr1 hv hown hob hFA HJ hne
        go_wp2_with (first | (refine wpList_store_row rfl 34 _ _ rfl (w.heap.size + 1) #[.int .i64 id, .slice va f.fs.length vc] rfl rfl 34 _ H2.out.2.1 (infoFmt2.trans rfl) rfl (by simp [Value.oneCell']) ?_))
        refine bodyPost_ret (v := .tuple #[.agg #[.int .i64 id, .slice va f.fs.length vc], .bool true]) (results_ct_fmt (p := 4) (u := 5) rfl _ _ (w.heap.size + 1) #[.int .i64 id, .slice va f.fs.length vc] rfl (setRow_heap _ _ _ _ _ _ H2.out.2.1) rfl) rfl ?_
        rw [HF.out.2.2.2.1]
        have hk : ∀ k, k ≠ w.heap.size + 1 → (wr.setRow (w.heap.size + 1) #[.int .i64 id, .slice va f.fs.length vc]).heap[k]? = wr.heap[k]? := fun k hk => by
          simp only [World.setRow, Array.getElem?_modify]
          rw [if_neg (by omega)]
        refine ⟨⟨_, rfl, H2.out.2.2.1.keep (by simp) fun g hg => hk g (H2.out.2.2.2 g hg)⟩, H2.out.1.trans ⟨rfl, rfl, rfl, by simp, fun k h => hk k (by omega)⟩⟩
end Go.Proofs.YtcnokccgdiodlaaGreatDoor
