/- The function in All, walked. Conditions: the table lies in memory, its numbers are ints; the variables of the errors are laid. All; Number. Conditions: the table lies in memory, its numbers are ints; the variables of the errors are laid. Number. No condition of its own. What the calls tell, said for use; the law's table. Conditions: the table lies in memory, its numbers are ints; the variables of the errors are laid. Facts on tables and rows that the texts on the reference use. No condition of its own. Rows of formats of the call's own; what a pick gives. No condition of its own. The reference's choices: pick, which fields are given, numbers in bytes. Conditions: the fields can be read; the numbers are small. The reference's maker in memory; its next number; numbers in bytes. Conditions: the maker lies in memory. -/
import Derived.Test.YtdndmhlmbpgdeaaGreatDoorPb13
import Derived.Test.YtdndmhlmbpgdeaaGreatDoorPb11
import Derived.Shelf.Lay
import Derived.Lib.AppendIntMem
import Derived.Lib.SmallJoins
import Derived.Test.YtdndmhlmbpgdeaaGreatDoorPb08
import Derived.Laws.BytesArg
namespace Go.Proofs.YtdndmhlmbpgdeaaGreatDoor
section RecY
open Go.RowKit Fx Rec Go.Maps

theorem own_base {w : World} {B B' : Nat} {e : TypeId} {sz : Nat} {v : Value} {n : Nat} {xs : List Value} (h : w.ownsRow B e sz v n xs) (hb : B' ≤ B) : w.ownsRow B' e sz v n xs := by
  refine ⟨h.1, ?_⟩
  rcases h.2 with h | ⟨g, cap, cur, rfl, hg, r⟩
  · exact .inl h
  · exact .inr ⟨g, cap, cur, rfl, Nat.le_trans hb hg, r⟩
set_option maxRecDepth 20000 in
set_option maxHeartbeats 4000000 in
theorem all1_no (lb sb ib : Nat) (v : Value) (L : List Fm) (s : ByteArray) (er : Addr) (w : World) (hl : Blk w lb 23 #[v]) (hs : Blk w sb 9 #[.string s])
    (hE : ErrAt w er) (hV : FmsAt (· < w.heap.size) w v L) (hI : IntsL L) (hno : vd L = false ∨ ¬ s.size ≤ 65536) :
    Calls Tryz.prog 43 #[ptr lb, ptr sb, ptr ib] w fun e w' => e = Stops zRf ∧ Below w.heap.size w w' := by
  have c0 := hl.cell 0
  have c1 := hs.cell 0
  simp only [List.getElem?_toArray, List.getElem?_cons_zero] at c0 c1
  obtain ⟨va, vc, rfl, -⟩ := hV.slice2
  have HNR : Hid (Calls Tryz.prog 39 #[.slice va L.length vc, .string s] w fun e w' => e = Stops zRf ∧ Below w.heap.size w w') := Lib.hid (by
    by_cases h2 : s.size ≤ 65536
    · exact newReader_no _ L s er w hE hV hI (hno.resolve_right fun h => h h2) h2
    · exact newReader_long _ s w h2)
  clear hl hs hE hV hI hno
  go_enter Tryz.func43, Tryz.ntmps43
  go_wp2_with fail
  refine HNR.out.mono ?_
  rintro e w1 ⟨rfl, hB⟩
  exact ⟨rfl, rfl, hB⟩

set_option maxRecDepth 20000 in
set_option maxHeartbeats 600000 in
theorem all1_yes (lb sb ib : Nat) (v : Value) (L : List Fm) (s : ByteArray) (er : Addr) (w : World) (B0 : Nat) (hB0 : B0 ≤ ib) (hBB : B0 ≤ w.heap.size) (hl : Blk w lb 23 #[v]) (hs : Blk w sb 9 #[.string s]) (hib : Blk w ib 24 #[.slice none 0 0])
    (hE : ErrAt w er) (hT : ErrTy w) (hV : FmsAt (· < B0) w v L) (hI : IntsL L) (h1 : vd L = true) (h2 : s.size ≤ 65536) :
    Calls Tryz.prog 43 #[ptr lb, ptr sb, ptr ib] w fun e w' => e = .returned (.tuple #[]) ∧ Kept (fun q => q < w.heap.size ∧ q ≠ ib) w w' ∧
      ∃ vi, Blk w' ib 24 #[vi] ∧ w'.ownsRow w.heap.size 3 1 vi (idsTo L s L.length).length (idsV (idsTo L s L.length)) := by
  have c0 := hl.cell 0
  have c1 := hs.cell 0
  simp only [List.getElem?_toArray, List.getElem?_cons_zero] at c0 c1
  obtain ⟨va, vc, rfl, hvl⟩ := hV.slice2
  have hmf : ∀ (fn : Fn) (first cap : Array Value) (w : World), (Instr.makeFunc fn first cap).run Tryz.prog w = .ok (.func fn first cap) w := fun _ _ _ _ => rfl
  obtain ⟨n, hn⟩ : ∃ n, n = L.length := ⟨_, rfl⟩
  have HNR := Lib.hid (newReader_yes _ L s er w B0 hBB hE hV hI h1 h2)
  have HT := Lib.hid (And.intro hV (And.intro hT (And.intro hib (And.intro hl (And.intro (vd_iff.1 h1) hn)))))
  have hfew := (vd_iff.1 h1).few
  have lib := hib.lt
  rw [← hn] at HNR hvl hfew c0 ⊢
  clear hl hs hib hE hT hV hI h1 h2 hn
  unfold maxLen at hvl
  go_enter Tryz.func43, Tryz.ntmps43
  go_wp2_with fail
  refine HNR.out.mono ?_
  rintro e w5 ⟨o, rb, rfl, hB5, hR5, hU⟩
  have hlt0 : 0 < w.heap.size := World.block_lt_of_cell? (h := HT.out.2.1)
  have hB6 := bx (w := w5) (.cells #[ptr rb] 81)
  have hA0 : AInv w ib w5.heap.size (w5.heap.size + 1) o rb L s 0 (w5.alloc (.cells #[ptr rb] 81)) (fun q => Held w.heap.size o q ∨ (w5.heap.size ≤ q ∧ q < (w5.alloc (.cells #[ptr rb] 81)).heap.size)) [] (.slice none 0 0) :=
    ⟨(Kept.of_below (hB5.trans (hB6.mono hB5.size)) fun q hq => hq.1), by simp, fun q hq => .inl hq, hR5.widen hB6, Blk.new w5 _ _, .inr (by simp), (hB6.block _ (Nat.lt_of_lt_of_le lib hB5.size)).trans ((hB5.block _ lib).trans HT.out.2.2.1), ⟨rfl, .inl ⟨rfl, rfl⟩⟩, fun g hg => by simp [Value.ownBlock] at hg⟩
  have hl6 : Blk (w5.alloc (.cells #[ptr rb] 81)) lb 23 #[.slice va n vc] := by rw [HT.out.2.2.2.2.2]; exact (hB6.block _ (Nat.lt_of_lt_of_le HT.out.2.2.2.1.lt hB5.size)).trans ((hB5.block _ HT.out.2.2.2.1.lt).trans HT.out.2.2.2.1)
  have c6 := hl6.cell 0
  simp only [List.getElem?_toArray, List.getElem?_cons_zero] at c6
  have hwx : w.heap.size ≤ w5.heap.size := hB5.size
  have HA0 := Lib.hid (And.intro hA0 (And.intro hU hwx))
  clear hA0 hB5 hR5 hU hB6 hl6 HNR c0 c1
  go_wp2_with fail
  go_loopw [13] (fun i wr => ∃ (k : Nat) (P : Nat → Prop) (ps : List Pt) (vi : Value), k ≤ n ∧ i = .int .i64 k ∧ Hid (AInv w ib w5.heap.size (w5.heap.size + 1) o rb L s k wr P ps vi)) (fun i _ => n - (intOf i).toNat)
  case atStart => exact ⟨0, _, [], .slice none 0 0, Nat.zero_le _, rfl, Lib.hid HA0.out.1⟩
  case round =>
    obtain ⟨k, P, ps, vi, hk, rfl, HJ⟩ := hrel
    obtain ⟨wq, rfl⟩ : ∃ wq, wq = wr := ⟨_, rfl⟩
    by_cases hlt : k < n
    · have hkL : k < L.length := by rw [← HT.out.2.2.2.2.2]; exact hlt
      have hVq : FmsAt (· < B0) wq (.slice va n vc) L := by rw [HT.out.2.2.2.2.2]; exact HT.out.1.kept (HJ.out.kept.mono fun q hq => ⟨by have : q < B0 := hq; omega, by have : q < B0 := hq; omega⟩)
      obtain ⟨b, off, rfl, -, hbl, hfm⟩ := hVq.get (by omega)
      obtain ⟨u, hu⟩ := hfm k hkL
      obtain ⟨ua, uc, rfl, -⟩ := hu.fs.slice_
      obtain ⟨id, hid⟩ : ∃ id, id = (L.getD k zm).id := ⟨_, rfl⟩
      obtain ⟨ul, hul⟩ : ∃ ul, ul = (L.getD k zm).fs.length := ⟨_, rfl⟩
      have d0 := hu.c0
      have d1 := hu.c1
      rw [← hid] at d0
      rw [← hul] at d1
      have hki : (0 : Int) ≤ (k : Int) ∧ (k : Int) < (n : Int) := by omega
      have hBq := bx (w := wq) (.cells #[.int .i64 id, .slice ua ul uc] 52)
      have hA1 := HJ.out.below hBq
      have hne : ib ≠ 0 := by
        intro he
        have h2 := HT.out.2.2.1.cell 0
        rw [he] at h2
        have h1 : w.cell? ⟨0, 0, none⟩ = _ := HT.out.2.1
        rw [h1] at h2
        simp at h2
      have hTq : ErrTy (wq.alloc (.cells #[.int .i64 id, .slice ua ul uc] 52)) :=
        ErrTy.below ((HJ.out.kept.cell (p := ⟨0, 0, none⟩) ⟨hlt0, hne.symm⟩).trans HT.out.2.1) hBq
      have htry := try_any w5.heap.size wq.heap.size o rb L s _ ps id (.slice ua ul uc) _ hA1.rxb (Blk.new wq _ _) hA1.rd hTq (hA1.held _ (.inl hlt0))
      have HTRY := Lib.hid htry
      have HA1 := Lib.hid hA1
      have HID := Lib.hid hid
      have HBL := Lib.hid (And.intro (Blk.new wq 52 #[.int .i64 id, .slice ua ul uc]) (show wq.heap.size < (wq.alloc (.cells #[.int .i64 id, .slice ua ul uc] 52)).heap.size by simp))
      clear hVq hfm hu hul hid hBq hA1 hTq htry hne
      go_wp2_with fail
      refine HTRY.out.mono ?_
      rintro e w7 ⟨r, m, rfl, ⟨ra, rbb, rc, rd, rfl⟩, hm, hk7, ps7, hr7⟩
      have hA7 := HA1.out.work lib hk7 hr7
      have hf7 : Blk w7 wq.heap.size 52 #[.int .i64 id, .slice ua ul uc] := (hk7.block _ (.inr ⟨Nat.le_refl _, HBL.out.2⟩)).trans HBL.out.1
      have f0 := hf7.cell 0
      simp only [List.getElem?_toArray, List.getElem?_cons_zero] at f0
      obtain ⟨via, vin, vic, rfl⟩ := hA7.shape
      have i0 := hA7.ibb.cell 0
      simp only [List.getElem?_toArray, List.getElem?_cons_zero] at i0
      cases hof : isOf L s id with
      | false =>
        rw [hof] at hm
        have hm50 : m = 50 := hm
        subst hm50
        have HE : Hid (AInv w ib w5.heap.size (w5.heap.size + 1) o rb L s (k + 1) (w7.alloc (.cells #[.int .i64 ra, .int .i64 rbb, .int .i64 rc, .int .i64 rd] 40)) _ ps7 (.slice via vin vic)) := Lib.hid (by
          have h := hA7.below (bx (w := w7) (.cells #[.int .i64 ra, .int .i64 rbb, .int .i64 rc, .int .i64 rd] 40))
          have e : idsTo L s (k + 1) = idsTo L s k := by rw [idsTo_succ hkL, ← HID.out, if_neg (by rw [hof]; decide), List.append_nil]
          exact { h with row := by rw [e]; exact h.row })
        clear hA7 hf7 hm hk7 hr7 hof HTRY HA1
        go_wp2_with fail
        exact ⟨⟨k + 1, _, ps7, _, by omega, by go_num, HE⟩, by simp [intOf]; omega⟩
      | true =>
        rw [hof] at hm
        have hm0 : m = 0 := hm
        subst hm0
        have hBY : Below w7.heap.size w7 ((w7.alloc (.cells #[.int .i64 ra, .int .i64 rbb, .int .i64 rc, .int .i64 rd] 40)).alloc (.cells #[.int .i64 id] 3)) := (bx _).alloc (by simp) _
        have hAY := hA7.below hBY
        have hbi : ((w7.alloc (.cells #[.int .i64 ra, .int .i64 rbb, .int .i64 rc, .int .i64 rd] 40)).alloc (.cells #[.int .i64 id] 3)).heap[w7.heap.size + 1]? = some (.cells #[.int .i64 id] 3 (0, 0)) := by
          have := heap_alloc_new (w7.alloc (.cells #[.int .i64 ra, .int .i64 rbb, .int .i64 rc, .int .i64 rd] 40)) (.cells #[.int .i64 id] 3)
          simpa using this
        have hu' : ∀ i b, i < L.length → (o.us.getD i undef).ownBlock = some b → b ≠ ib ∧ b < w5.heap.size + 1 := fun i b hi hb => by
          have := HA0.out.2.1 i b (by rw [HT.out.2.2.2.2.2]; exact hi) hb
          omega
        have HGR := Lib.hid (fun (v1 : Value) (wA : World) hG => hAY.grow (v1 := v1) (wA := wA) lib hkL (by rw [← HID.out]; exact hof) hu' (by omega) hG)
        rw [← HID.out] at HGR
        have HAY := Lib.hid (And.intro hAY.row (And.intro hAY.size hbi))
        have i1 : (w7.alloc (.cells #[.int .i64 ra, .int .i64 rbb, .int .i64 rc, .int .i64 rd] 40)).cell? ⟨ib, 0, none⟩ = some (.slice via vin vic) := ((bx _).cell (p := ⟨ib, 0, none⟩) hA7.ibb.lt).trans i0
        have f1 : (w7.alloc (.cells #[.int .i64 ra, .int .i64 rbb, .int .i64 rc, .int .i64 rd] 40)).cell? ⟨wq.heap.size, 0, none⟩ = some (.int .i64 id) := ((bx _).cell (p := ⟨wq.heap.size, 0, none⟩) hf7.lt).trans f0
        have hcnt := idsTo_le L s k
        clear hA7 hf7 hm hk7 hr7 hof HTRY HA1 hBY hAY hbi hu'
        go_wp2_with (at_builtin; refine wpList_append_oneB rfl (.tmp 24) (.tmp 27) rfl (w5.heap.size + 1) HAY.out.2.1 (.slice via vin vic) _ _ rfl HAY.out.1 (by omega) (w7.heap.size + 1) id rfl HAY.out.2.2 ?_; intro v1 wA hG; have HN := Lib.hid (HGR.out v1 wA hG); obtain ⟨g1, cp1, rfl⟩ := HN.out.1.2; have e0 := HN.out.1.1.cell 0; have y0 := HN.out.1.1.frozen 0; simp only [List.getElem?_toArray, List.getElem?_cons_zero] at e0; clear hG)
        obtain ⟨P', hA'⟩ := HN.out.2
        exact ⟨⟨k + 1, P', ps7, _, by omega, by go_num, Lib.hid hA'⟩, by simp [intOf]; omega⟩
    · obtain rfl : k = n := by omega
      go_wp2_with fail
      first | go_end0 | skip
      refine ⟨rfl, HJ.out.kept, vi, HJ.out.ibb, own_base HJ.out.row (by omega)⟩
end RecY
section RecZ
open Go.RowKit Fx Rec Go.Maps

/-- What All tells. -/
def allIds (L : List Fm) (s : ByteArray) : List Int := if vd L = true ∧ s.size ≤ 65536 then idsTo L s L.length else []
abbrev aW (w : World) (v : Value) (s : ByteArray) : World :=
  ((w.alloc (.cells #[v] 23)).alloc (.cells #[.string s] 9)).alloc (.cells #[.slice none 0 0] 24)
theorem enters_43 : Enters 43 := fun args w => by simp [callFunc, Tryz.func43, Tryz.f43]
theorem all_att (v : Value) (L : List Fm) (s : ByteArray) (er : Addr) (w : World) (hE : ErrAt w er) (hT : ErrTy w) (hV : FmsAt (· < w.heap.size) w v L) (hI : IntsL L) :
    Calls Tryz.prog 37 #[.func (.func 43) #[] #[ptr w.heap.size, ptr (w.heap.size + 1), ptr (w.heap.size + 2)]] (aW w v s) fun e w' => ∃ r a b c, e = .returned r ∧
      Kept (fun k => k < w.heap.size) w w' ∧ Blk w' (w.heap.size + 2) 24 #[.slice a b c] ∧ w'.ownsRow w.heap.size 3 1 (.slice a b c) (allIds L s).length (idsV (allIds L s)) ∧ ∃ x y, r = .tuple #[x, y] := by
  obtain ⟨W, hW⟩ : ∃ W, W = aW w v s := ⟨_, rfl⟩
  have hsz : W.heap.size = w.heap.size + 3 := by rw [hW]; simp [aW]
  have hB : Below w.heap.size w W := by
    rw [hW]
    exact (((Below.refl _ _).alloc (Nat.le_refl _) _).alloc (by simp) _).alloc (by simp; omega) _
  have b0 : Blk W w.heap.size 23 #[v] := by rw [hW]; exact ((Blk.new w _ _).alloc_ _).alloc_ _
  have b1 : Blk W (w.heap.size + 1) 9 #[.string s] := by
    rw [hW]
    have := Blk.new (w.alloc (.cells #[v] 23)) 9 #[.string s]
    exact (show Blk _ (w.heap.size + 1) _ _ by simpa using this).alloc_ _
  have b2 : Blk W (w.heap.size + 2) 24 #[.slice none 0 0] := by
    rw [hW]
    have := Blk.new ((w.alloc (.cells #[v] 23)).alloc (.cells #[.string s] 9)) 24 #[.slice none 0 0]
    simpa [aW] using this
  rw [← hW]
  have hBW : Below W.heap.size W (attW W) := ((Below.refl _ _).alloc (Nat.le_refl _) _).alloc (by simp) _
  have hBa : Below w.heap.size w (attW W) := hB.trans (hBW.mono (by omega))
  have hasz : (attW W).heap.size = W.heap.size + 2 := by simp
  have hl0 : 0 < w.heap.size := World.block_lt_of_cell? (h := hT)
  have x0 := (hBW.block _ (by omega)).trans b0
  have x1 := (hBW.block (w.heap.size + 1) (by omega)).trans b1
  have x2 := (hBW.block (w.heap.size + 2) (by omega)).trans b2
  have hVa : FmsAt (· < w.heap.size) (attW W) v L := hV.kept (Kept.of_below hBa fun _ h => h)
  by_cases hok : vd L = true ∧ s.size ≤ 65536
  · have hid : allIds L s = idsTo L s L.length := if_pos hok
    rw [hid]
    have hm := all1_yes w.heap.size (w.heap.size + 1) (w.heap.size + 2) v L s er (attW W) w.heap.size (by omega) (by omega) x0 x1 x2 (hE.below hBa) (hT.below hBa) hVa hI hok.1 hok.2
    have ha := attempt_any 43 #[ptr w.heap.size, ptr (w.heap.size + 1), ptr (w.heap.size + 2)] W
      (fun w2 => Kept (fun k => k < (attW W).heap.size ∧ k ≠ w.heap.size + 2) (attW W) w2 ∧ ∃ vi, Blk w2 (w.heap.size + 2) 24 #[vi] ∧ w2.ownsRow (attW W).heap.size 3 1 vi (idsTo L s L.length).length (idsV (idsTo L s L.length)))
      (fun _ _ _ _ _ => False) enters_43 (hT.below hB)
      (hm.mono fun e w2 h => ⟨.inl ⟨h.1, h.2⟩, h.2.1.mono fun k hk => by
        rcases hk with ⟨h1, h2⟩ | h1
        · exact ⟨by omega, by omega⟩
        · unfold attK at h1; omega⟩)
    refine ha.mono fun e w' h => ?_
    rcases h with ⟨he, w2, ⟨hk, vi, hb, hrow⟩, hk2⟩ | ⟨_, _, _, _, _, _, h, _⟩
    · have hs2 := hk.size
      have k1 : Kept (fun k => k < w.heap.size) w w' :=
        (Kept.of_below hBa fun _ h => h).trans ((hk.mono fun k hk => ⟨by have : k < w.heap.size := hk; omega, by have : k < w.heap.size := hk; omega⟩).trans (hk2.mono fun k hk => ⟨by have : k < w.heap.size := hk; omega, by have : k < w.heap.size := hk; unfold attK; omega⟩))
      have hb' : Blk w' (w.heap.size + 2) 24 #[vi] := (hk2.block _ ⟨by omega, by unfold attK; omega⟩).trans hb
      have hrow' : w'.ownsRow (attW W).heap.size 3 1 vi (idsTo L s L.length).length (idsV (idsTo L s L.length)) := own_keep hrow fun g cur hg hh => hk2.block g ⟨lt_of_heap hh, by have := (hrow.lt g hg).1; unfold attK; omega⟩
      rcases hrow'.2 with ⟨rfl, h0⟩ | ⟨g, cap, cur, rfl, h1, h2⟩
      · exact ⟨_, _, _, _, he, k1, hb', ⟨hrow'.1, .inl ⟨rfl, h0⟩⟩, _, _, rfl⟩
      · exact ⟨_, _, _, _, he, k1, hb', ⟨hrow'.1, .inr ⟨g, cap, cur, rfl, by omega, h2⟩⟩, _, _, rfl⟩
    · exact h.elim
  · have hid : allIds L s = [] := if_neg hok
    rw [hid]
    have hor : vd L = false ∨ ¬ s.size ≤ 65536 := by
      by_cases h1 : vd L = true
      · exact .inr fun h2 => hok ⟨h1, h2⟩
      · exact .inl (by simpa using h1)
    have hm := all1_no w.heap.size (w.heap.size + 1) (w.heap.size + 2) v L s er (attW W) x0 x1 (hE.below hBa) (hVa.mono fun k hk => by show k < _; have : k < w.heap.size := hk; omega) hI hor
    have ha := attempt_any 43 #[ptr w.heap.size, ptr (w.heap.size + 1), ptr (w.heap.size + 2)] W
      (fun _ => False) (fun a b c d w2 => (a = 0 ∧ b = 0 ∧ c = 0 ∧ d = 0) ∧ Below (attW W).heap.size (attW W) w2) enters_43 (hT.below hB)
      (hm.mono fun e w2 h => ⟨.inr ⟨0, 0, 0, 0, h.1, ⟨rfl, rfl, rfl, rfl⟩, h.2⟩, Kept.of_below h.2 fun k hk => by
        rcases hk with ⟨h1, h2⟩ | h1
        · omega
        · unfold attK at h1; omega⟩)
    refine ha.mono fun e w' h => ?_
    rcases h with ⟨_, _, h, _⟩ | ⟨a, b, c, d, he, w2, ⟨-, hk⟩, hk2⟩
    · exact h.elim
    · have hs2 := hk.size
      have k1 : Kept (fun k => k < W.heap.size) W w' :=
        (Kept.of_below hBW fun _ h => h).trans ((Kept.of_below (P := fun k => k < W.heap.size) hk fun k hk => by omega).trans (hk2.mono fun k hk => ⟨by have : k < W.heap.size := hk; omega, by have : k < W.heap.size := hk; unfold attK; omega⟩))
      exact ⟨_, _, _, _, he, (Kept.of_below hB fun _ h => h).trans (k1.mono fun k hk => by show k < _; have : k < w.heap.size := hk; omega), (k1.block _ (by show _ < _; omega)).trans b2, ⟨rfl, .inl ⟨rfl, rfl⟩⟩, _, _, rfl⟩
set_option maxRecDepth 20000 in
set_option maxHeartbeats 1000000 in
theorem All_any (v : Value) (L : List Fm) (s : ByteArray) (er : Addr) (w : World) (hE : ErrAt w er) (hT : ErrTy w) (hV : FmsAt (· < w.heap.size) w v L) (hI : IntsL L) :
    Calls Tryz.prog 23 #[v, .string s] w fun e w' => ∃ vi, e = .returned vi ∧ Below w.heap.size w w' ∧ w'.ownsRow w.heap.size 3 1 vi (allIds L s).length (idsV (allIds L s)) := by
  have hmf : ∀ (fn : Fn) (first cap : Array Value) (w : World), (Instr.makeFunc fn first cap).run Tryz.prog w = .ok (.func fn first cap) w := fun _ _ _ _ => rfl
  have HA := Lib.hid (all_att v L s er w hE hT hV hI)
  obtain ⟨va, vc, rfl, -⟩ := hV.slice2
  clear hE hT hV hI
  go_enter Tryz.func23, Tryz.ntmps23
  go_wp2_with fail
  refine HA.out.mono ?_
  rintro e w1 ⟨r, a, b, c, rfl, hk, hb, hrow, x, y, rfl⟩
  have c0 : w1.cell? ⟨w.heap.size + 1 + 1, 0, none⟩ = some (.slice a b c) := cell_of_row w1 (w.heap.size + 2) 0 _ _ _ hb
  have HK := Lib.hid (And.intro (hk.below (B := w.heap.size) fun _ h => h) hrow)
  clear hk hb hrow
  go_wp2
  go_ret
  exact ⟨_, rfl, HK.out.1, HK.out.2⟩
end RecZ
section RecNum
open Go.RowKit Fx Rec Go.Maps

/-- What Number tells of a part. -/
def numPart (s : ByteArray) (st en : Int) : Int := if st < 0 ∨ st > en ∨ en > (s.size : Int) ∨ en - st > 3 then 0 else num (s.extract st.toNat en.toNat)
set_option maxRecDepth 20000 in
set_option maxHeartbeats 1000000 in
theorem Number_any (s : ByteArray) (a b c d e f : Int) (w : World) (hs : s.size ≤ 9223372036854775807) :
    Calls Tryz.prog 25 #[.string s, .agg #[.int .i64 a, .int .i64 b, .int .i64 c, .int .i64 d, .int .i64 e, .int .i64 f]] w fun ev w' => ev = .returned (.int .i64 (numPart s d e)) ∧ Below w.heap.size w w' := by
  have hb := heap_alloc_new w (.cells #[.int .i64 a, .int .i64 b, .int .i64 c, .int .i64 d, .int .i64 e, .int .i64 f] 26)
  have c3 : (w.alloc (.cells #[.int .i64 a, .int .i64 b, .int .i64 c, .int .i64 d, .int .i64 e, .int .i64 f] 26)).cell? ⟨w.heap.size, 3, none⟩ = some (.int .i64 d) := cell_of_row _ _ 3 _ _ _ hb
  have c4 : (w.alloc (.cells #[.int .i64 a, .int .i64 b, .int .i64 c, .int .i64 d, .int .i64 e, .int .i64 f] 26)).cell? ⟨w.heap.size, 4, none⟩ = some (.int .i64 e) := cell_of_row _ _ 4 _ _ _ hb
  have HB := Lib.hid (bx (w := w) (.cells #[.int .i64 a, .int .i64 b, .int .i64 c, .int .i64 d, .int .i64 e, .int .i64 f] 26))
  clear hb
  obtain ⟨N, hN⟩ : ∃ N, N = numPart s d e := ⟨_, rfl⟩
  rw [← hN]
  by_cases h1 : d < 0
  · have HN := Lib.hid (show N = 0 by rw [hN, numPart, if_pos (.inl h1)])
    have q1 : decide (d < 0) = true := decide_eq_true h1
    clear hN h1
    go_enter Tryz.func25, Tryz.ntmps25
    go_wp2
    go_ret
    exact ⟨by rw [HN.out]; rfl, HB.out⟩
  · have q1 : decide (d < 0) = false := decide_eq_false h1
    by_cases h2 : d > e
    · have HN := Lib.hid (show N = 0 by rw [hN, numPart, if_pos (.inr (.inl h2))])
      have q2 : decide (d > e) = true := decide_eq_true h2
      clear hN h1 h2
      go_enter Tryz.func25, Tryz.ntmps25
      go_wp2
      go_ret
      exact ⟨by rw [HN.out]; rfl, HB.out⟩
    · have q2 : decide (d > e) = false := decide_eq_false h2
      by_cases h3 : e > (s.size : Int)
      · have HN := Lib.hid (show N = 0 by rw [hN, numPart, if_pos (.inr (.inr (.inl h3)))])
        have q3 : decide (e > (s.size : Int)) = true := decide_eq_true h3
        clear hN h1 h2 h3
        go_enter Tryz.func25, Tryz.ntmps25
        go_wp2
        go_ret
        exact ⟨by rw [HN.out]; rfl, HB.out⟩
      · have q3 : decide (e > (s.size : Int)) = false := decide_eq_false h3
        obtain ⟨D, hD⟩ : ∃ D, D = e - d := ⟨_, rfl⟩
        have hw : IntKind.i64.wrap (e - d) = D := by rw [wr64 (by omega) (by omega)]; exact hD.symm
        by_cases h4 : D > 3
        · have HN := Lib.hid (show N = 0 by rw [hN, numPart, if_pos (.inr (.inr (.inr (by omega))))])
          have q4 : decide (D > 3) = true := decide_eq_true h4
          clear hN h1 h2 h3 h4 hD
          go_enter Tryz.func25, Tryz.ntmps25
          go_wp2
          go_ret
          exact ⟨by rw [HN.out]; rfl, HB.out⟩
        · have q4 : decide (D > 3) = false := decide_eq_false h4
          obtain ⟨X, hX⟩ : ∃ X, X = s.extract d.toNat (d.toNat + D.toNat) := ⟨_, rfl⟩
          have hsl : ∀ W, (Instr.slice 9 (.string s) (some (.int .i64 d)) (some (.int .i64 e)) none).run Tryz.prog W = .ok (.string X) W := by rw [hX]; exact str_slice (a := d.toNat) (n := D.toNat) (by omega) (by omega) (by omega)
          have hxs : X.size ≤ 3 := by rw [hX, ByteArray.size_extract]; omega
          have HN := Lib.hid (show N = num X by
            rw [hN, numPart, if_neg (by omega), hX, show d.toNat + D.toNat = e.toNat by omega])
          clear hN h1 h2 h3 h4 hD hX
          go_enter Tryz.func25, Tryz.ntmps25
          go_wp2_with fail
          refine (number_any X _ hxs).mono ?_
          rintro ev w1 ⟨rfl, rfl⟩
          go_wp2
          go_ret
          exact ⟨by rw [HN.out]; rfl, HB.out⟩
end RecNum
section SanA
open Go.RowKit Fx Rec Go.Maps

/-- What the calls read of memory. -/
structure Ready (w : World) (er : Addr) : Prop where
  err : ErrAt w er
  ty : ErrTy w
theorem Ready.below {w w' : World} {er : Addr} (h : Ready w er) (hb : Below w.heap.size w w') : Ready w' er := ⟨h.err.below hb, h.ty.below hb⟩
/-- A table in memory. -/
structure TabW (w : World) (v : Value) (L : List Fm) : Prop where
  at_ : FmsAt (· < w.heap.size) w v L
  ints : IntsL L
theorem TabW.below {w w' : World} {v : Value} {L : List Fm} (h : TabW w v L) (hb : Below w.heap.size w w') : TabW w' v L :=
  ⟨(h.at_.kept (Kept.of_below hb fun _ h => h)).mono fun k hk => by show k < _; have : k < w.heap.size := hk; have := hb.size; omega, h.ints⟩
/-- Parts in memory. -/
structure PartsW (w : World) (g n c : Nat) (ps : List Pt) : Prop where
  lt : g < w.heap.size
  le : n ≤ c
  max : c ≤ maxLen
  len : ps.length = n
  cell : ∀ i, i < n * 6 → w.cell? ⟨g, i, none⟩ = (flatP ps)[i]?
theorem PartsW.below {w w' : World} {g n c : Nat} {ps : List Pt} (h : PartsW w g n c ps) (hb : Below w.heap.size w w') : PartsW w' g n c ps :=
  { h with lt := Nat.lt_of_lt_of_le h.lt hb.size, cell := fun i hi => (hb.cell (p := ⟨g, i, none⟩) h.lt).trans (h.cell i hi) }
theorem PartsW.of {w : World} {B n : Nat} {v : Value} {ps : List Pt} (h : w.ownsRow B 26 6 v n (flatP ps)) (hn : ps.length = n) (h1 : 1 ≤ n) : ∃ g c, v = .slice (some ⟨g, 0, none⟩) n c ∧ PartsW w g n c ps := by
  rcases h.2 with ⟨_, h0⟩ | ⟨g, cap, cur, rfl, _, hh, e1, e2, _⟩
  · omega
  · exact ⟨g, cap, rfl, lt_of_heap hh, e1, e2, hn, fun i hi => (own_cell h rfl hi).1⟩
section
variable {w : World} {v : Value} {L : List Fm} {id : Int} {s : ByteArray} {er : Addr}
theorem match_ok {ps : List Pt} {n : Nat} (hR : Ready w er) (hV : TabW w v L) (h : mtch L id s = .ok ps) (hn : ps.length = n) (h1 : 1 ≤ n) :
    Calls Tryz.prog 19 #[v, .int .i64 id, .string s] w fun e w' => ∃ g c, e = .returned (.tuple #[.slice (some ⟨g, 0, none⟩) n c, .agg #[.int .i64 0, .int .i64 0, .int .i64 0, .int .i64 0], .int .i64 0]) ∧ Below w.heap.size w w' ∧ PartsW w' g n c ps := by
  have hm := Match_any v L id s er w hR.err hR.ty hV.at_ hV.ints
  rw [h] at hm
  refine hm.mono ?_
  rintro e w' ⟨hb, vp, rfl, hrow⟩
  rw [hn] at hrow
  obtain ⟨g, c, rfl, hp⟩ := PartsW.of hrow hn h1
  exact ⟨g, c, rfl, hb, hp⟩
theorem match_no {a b c d : Int} (hR : Ready w er) (hV : TabW w v L) (h : mtch L id s = .error ⟨a, b, c, d⟩) :
    Calls Tryz.prog 19 #[v, .int .i64 id, .string s] w fun e w' => e = .returned (.tuple #[.slice none 0 0, .agg #[.int .i64 a, .int .i64 b, .int .i64 c, .int .i64 d], .int .i64 50]) ∧ Below w.heap.size w w' := by
  have hm := Match_any v L id s er w hR.err hR.ty hV.at_ hV.ints
  rw [h] at hm
  exact hm.mono fun e w' h => ⟨h.2, h.1⟩
end
theorem nil_strs (w : World) : StrsV w (.slice none 0 0) [] := ⟨none, 0, rfl, Nat.le_refl _, by unfold maxLen; omega, .inl rfl⟩

/-! the law's table -/
theorem fldsAt_new {w : World} {b : Nat} {fs : List Fld} (h : Blk w b 56 (flat fs).toArray) (h1 : 1 ≤ fs.length) (h9 : fs.length ≤ 1000) : FldsAt w (.slice (some ⟨b, 0, none⟩) fs.length fs.length) fs :=
  FldsAt.of_own (B := 0) ⟨flat_len fs, .inr ⟨b, fs.length, (flat fs).toArray, rfl, Nat.zero_le _, h, Nat.le_refl _, by unfold maxLen; omega, by simp [flat_len], by rw [List.take_of_length_le (by simp [flat_len])]⟩⟩
theorem ints_tab0 : IntsL tab0 := fun i hi => by
  have h2 : i < 2 := hi
  obtain rfl | rfl : i = 0 ∨ i = 1 := by omega
  · refine ⟨⟨by decide, by decide⟩, fun k hk => ?_⟩
    have h3 : k < 3 := hk
    obtain rfl | rfl | rfl : k = 0 ∨ k = 1 ∨ k = 2 := by omega
    all_goals exact ⟨by decide, by decide, by decide, by decide, by decide, by decide, by decide⟩
  · refine ⟨⟨by decide, by decide⟩, fun k hk => ?_⟩
    have h3 : k < 3 := hk
    obtain rfl | rfl | rfl : k = 0 ∨ k = 1 ∨ k = 2 := by omega
    all_goals exact ⟨by decide, by decide, by decide, by decide, by decide, by decide, by decide⟩
set_option maxRecDepth 20000 in
set_option maxHeartbeats 1000000 in
theorem table_any (w : World) : Calls Tryz.prog 32 #[] w fun e w' => ∃ b, e = .returned (.slice (some ⟨b, 0, none⟩) 2 2) ∧ Below w.heap.size w w' ∧ TabW w' (.slice (some ⟨b, 0, none⟩) 2 2) tab0 := by
  go_enter Tryz.func32, Tryz.ntmps32
  go_wp2_with fail
  obtain ⟨W, hW⟩ : ∃ W, W = (((((w.alloc (.cells #[.int .i64 1, .int .i64 0, .int .i64 (-1), .string ⟨#[77, 90]⟩, .int .i64 2, .int .i64 2, .int .i64 (-1), .string ⟨#[]⟩, .int .i64 3, .int .i64 0, .int .i64 1, .string ⟨#[]⟩] 56)).alloc (.cells #[.int .i64 2, .slice (some ⟨w.heap.size, 0, none⟩) 3 3] 52)).alloc (.cells #[.int .i64 2, .int .i64 1, .int .i64 (-1), .string ⟨#[]⟩, .int .i64 5, .int .i64 2, .int .i64 0, .string ⟨#[]⟩, .int .i64 6, .int .i64 1, .int .i64 (-1), .string ⟨#[]⟩] 56)).alloc (.cells #[.int .i64 7, .slice (some ⟨w.heap.size + 1 + 1, 0, none⟩) 3 3] 52)).alloc (.cells #[.int .i64 2, .slice (some ⟨w.heap.size, 0, none⟩) 3 3, .int .i64 7, .slice (some ⟨w.heap.size + 1 + 1, 0, none⟩) 3 3] 52)) := ⟨_, rfl⟩
  rw [← hW]
  have hB : Below w.heap.size w W := by
    rw [hW]
    exact (((((Below.refl _ _).alloc (Nat.le_refl _) _).alloc (by simp) _).alloc (by simp; omega) _).alloc (by simp; omega) _).alloc (by simp; omega) _
  have b0 : Blk W w.heap.size 56 (flat (tab0.getD 0 zm).fs).toArray := by rw [hW]; exact ((((Blk.new w _ _).alloc_ _).alloc_ _).alloc_ _).alloc_ _
  have b2 : Blk W (w.heap.size + 1 + 1) 56 (flat (tab0.getD 1 zm).fs).toArray := by
    rw [hW]
    have := Blk.new ((w.alloc (.cells #[.int .i64 1, .int .i64 0, .int .i64 (-1), .string ⟨#[77, 90]⟩, .int .i64 2, .int .i64 2, .int .i64 (-1), .string ⟨#[]⟩, .int .i64 3, .int .i64 0, .int .i64 1, .string ⟨#[]⟩] 56)).alloc (.cells #[.int .i64 2, .slice (some ⟨w.heap.size, 0, none⟩) 3 3] 52)) 56 #[.int .i64 2, .int .i64 1, .int .i64 (-1), .string ⟨#[]⟩, .int .i64 5, .int .i64 2, .int .i64 0, .string ⟨#[]⟩, .int .i64 6, .int .i64 1, .int .i64 (-1), .string ⟨#[]⟩]
    rw [World.size_alloc, World.size_alloc] at this
    exact (this.alloc_ _).alloc_ _
  have b4 : Blk W (w.heap.size + 1 + 1 + 1 + 1) 52 #[.int .i64 2, .slice (some ⟨w.heap.size, 0, none⟩) 3 3, .int .i64 7, .slice (some ⟨w.heap.size + 1 + 1, 0, none⟩) 3 3] := by
    rw [hW]
    have := Blk.new ((((w.alloc (.cells #[.int .i64 1, .int .i64 0, .int .i64 (-1), .string ⟨#[77, 90]⟩, .int .i64 2, .int .i64 2, .int .i64 (-1), .string ⟨#[]⟩, .int .i64 3, .int .i64 0, .int .i64 1, .string ⟨#[]⟩] 56)).alloc (.cells #[.int .i64 2, .slice (some ⟨w.heap.size, 0, none⟩) 3 3] 52)).alloc (.cells #[.int .i64 2, .int .i64 1, .int .i64 (-1), .string ⟨#[]⟩, .int .i64 5, .int .i64 2, .int .i64 0, .string ⟨#[]⟩, .int .i64 6, .int .i64 1, .int .i64 (-1), .string ⟨#[]⟩] 56)).alloc (.cells #[.int .i64 7, .slice (some ⟨w.heap.size + 1 + 1, 0, none⟩) 3 3] 52)) 52 #[.int .i64 2, .slice (some ⟨w.heap.size, 0, none⟩) 3 3, .int .i64 7, .slice (some ⟨w.heap.size + 1 + 1, 0, none⟩) 3 3]
    simpa using this
  clear hW
  go_ret
  refine ⟨_, rfl, hB, ⟨.inr ⟨_, 0, 2, rfl, by decide, by decide, by unfold maxLen; omega, b4.lt, b4.lt, fun i hi => ?_⟩, ints_tab0⟩⟩
  have h2 : i < 2 := hi
  obtain rfl | rfl : i = 0 ∨ i = 1 := by omega
  · exact ⟨.slice (some ⟨w.heap.size, 0, none⟩) 3 3, by rw [b4.cell]; rfl, by rw [b4.cell]; rfl, fldsAt_new b0 (by decide) (by decide), fun g hg => by simp only [Value.ownBlock, Option.some.injEq] at hg; rw [← hg]; exact b0.lt⟩
  · exact ⟨.slice (some ⟨w.heap.size + 1 + 1, 0, none⟩) 3 3, by rw [b4.cell]; rfl, by rw [b4.cell]; rfl, fldsAt_new b2 (by decide) (by decide), fun g hg => by simp only [Value.ownBlock, Option.some.injEq] at hg; rw [← hg]; exact b2.lt⟩
end SanA
section RefPre
open Go.RowKit Fx

theorem take_succ_getD {α : Type} (l : List α) (z : α) (k : Nat) (h : k < l.length) : l.take (k + 1) = l.take k ++ [l.getD k z] := by
  rw [List.take_succ_eq_append_getElem h]; simp [List.getD, List.getElem?_eq_getElem h]
theorem FmsAt.slice_ {B : Nat → Prop} {w : World} {v : Value} {l : List Fm} (h : FmsAt B w v l) : ∃ a c, v = .slice a l.length c ∧ (l.length = 0 ∨ (l.length ≤ c ∧ c ≤ maxLen)) := by
  rcases h with ⟨a, c, rfl, rfl⟩ | ⟨b, off, cap, rfl, h1, h2, h3, _⟩
  · exact ⟨a, c, rfl, .inl rfl⟩
  · exact ⟨_, _, rfl, .inr ⟨h2, h3⟩⟩
theorem FmsAt.at_ {B : Nat → Prop} {w : World} {a : Option Addr} {n c : Nat} {l : List Fm} (h : FmsAt B w (.slice a n c) l) (h1 : 1 ≤ l.length) : ∃ b off, a = some ⟨b, off, none⟩ ∧ n = l.length ∧ B b ∧ b < w.heap.size ∧ n ≤ c ∧ c ≤ maxLen ∧ ∀ i, i < l.length → ∃ u, FmAt B w b (off + i * 2) (l.getD i zm) u := by
  rcases h with ⟨a, c, _, rfl⟩ | ⟨b, off, cap, h0, h2, h3, h4, h5, h6, h7⟩
  · simp at h1
  · cases h0
    exact ⟨b, off, rfl, rfl, h5, h6, h3, h4, h7⟩
theorem four (w : World) (a b c d : Obj) : ∃ W, W = (((w.alloc a).alloc b).alloc c).alloc d ∧ W.heap.size = w.heap.size + 4 ∧ Below w.heap.size w W ∧ W.heap[w.heap.size]? = some a ∧ W.heap[w.heap.size + 1]? = some b ∧ W.heap[w.heap.size + 1 + 1]? = some c ∧ W.heap[w.heap.size + 1 + 1 + 1]? = some d := by
  refine ⟨_, rfl, by simp, (((bx a).alloc (by simp) b).alloc (by simp; omega) c).alloc (by simp; omega) d, ?_, ?_, ?_, ?_⟩
  · exact (Below.heap_alloc _ _ _ (by simp; omega)).trans ((Below.heap_alloc _ _ _ (by simp; omega)).trans (heap_alloc2_old _ _ _))
  · exact (Below.heap_alloc _ _ _ (by simp)).trans ((Below.heap_alloc _ _ _ (by simp)).trans (heap_alloc2_new _ _ _))
  · have := heap_alloc2_old ((w.alloc a).alloc b) c d
    simpa using this
  · have := heap_alloc2_new ((w.alloc a).alloc b) c d
    simpa using this
theorem infoFld4 : (Tryz.prog.info? 56).map (·.size) = some 4 := by kernel_rfl
theorem fld_one (f : Fld) : (#[Value.int .i64 f.kind, .int .i64 f.n, .int .i64 f.frm, .string f.text] : Array Value).all (·.oneCell') = true := by simp [Value.oneCell']
abbrev fldCs (f : Fld) : Array Value := #[.int .i64 f.kind, .int .i64 f.n, .int .i64 f.frm, .string f.text]
theorem wpList_append_fld {ops : Array Oper} {rest : List Oper} {o : Oper} {a : Act} {w : World} {Q : Exit → Act → World → Prop}
    (hg : o.guard = none) (s x : Operand) (hop : o.op = Op.call { callee := Callee.builtin Builtin.append, args := #[s, x], argTypes := #[50, 50] })
    (v : Value) (n : Nat) (xs : List Value) (hs : a.eval s = v) (hown : w.ownsRow 0 56 4 v n xs) (hn : n ≤ 1000) (g : Nat) (f : Fld) (hx : a.eval x = .slice (some ⟨g, 0, none⟩) 1 1)
    (hb : w.heap[g]? = some (.cells (fldC f).toArray 56 (0, 0)))
    (hK : ∀ v' w', Grew w w' 0 56 4 v v' (n + 1) (xs ++ fldC f) → wpList Tryz.prog ops Q rest (a.put o.dst v') w') : wpList Tryz.prog ops Q (o :: rest) a w :=
  wpList_plain hg fun _ hK' => by
    obtain ⟨v', w', hr, h2⟩ := run_append_fld w o.type v n xs hown hn g f hb
    unfold Oper.wp
    simp [execOp, hop, resolve, invoke, builtin, hs, hx, hr, Result.andThen]
    exact hK' _ _ (hK _ _ h2)
theorem infoFmt2 : (Tryz.prog.info? 52).map (·.size) = some 2 := by kernel_rfl
theorem results_ct_fmt {fn : Func} {p u : Tmp} (h : fn.results = #[.cell p 52, .tmp u]) (tmps : Array Value) (w : World) (g : Nat) (cs : Array Value)
    (hp : tmps.getD p undef = .pointer (some ⟨g, 0, none⟩)) (hg : w.heap[g]? = some (.cells cs 52 (0, 0))) (hs : cs.size = 2) :
    (results fn tmps).run Tryz.prog w = .ok (.tuple #[.agg cs, tmps.getD u undef]) w := by
  have h1 := run_loadVar_row (P := Tryz.prog) w g 52 52 cs (0, 0) _ hg Tryz.underlying52 rfl (infoFmt2.trans (by rw [hs]))
  rw [results_cell_tmp h, hp]
  simp [asAddr, h1, Result.andThen]
/-- What a search gives. -/
def findO (l : List Fm) (id : Int) : Option Fm := l.find? fun f => decide (f.id = id)
/-- The same, and the fields' block is there. -/
def FindPost2 (o : Option Fm) (id : Int) (w : World) (e : Ending) (w' : World) : Prop :=
  (match o with
  | some f => ∃ v, e = .returned (.tuple #[.agg #[.int .i64 id, v], .bool true]) ∧ FldsAt w' v f.fs ∧ ∀ g, v.ownBlock = some g → g < w'.heap.size
  | none => e = .returned (.tuple #[.agg #[.int .i64 (0), .slice none 0 0], .bool false])) ∧ Below w.heap.size w w'
/-- The bytes of a list as a string. -/
abbrev bs (l : List UInt8) : ByteArray := ⟨l.toArray⟩
end RefPre
section RefOwn
open Go.RowKit Fx

/-- What a pick gives: one of the choices. -/
def pickI (c n : Int) : Int := (if c < 0 then -(c + 1) else c) % n
theorem pickI_lo {c n : Int} (h : 1 ≤ n) : 0 ≤ pickI c n := Int.emod_nonneg _ (by omega)
theorem pickI_hi {c n : Int} (h : 1 ≤ n) : pickI c n < n := Int.emod_lt_of_pos _ (by omega)
theorem getD_snoc {α : Type} {l : List α} {x z : α} {j : Nat} (h : j < (l ++ [x]).length) : (j < l.length ∧ (l ++ [x]).getD j z = l.getD j z) ∨ (j = l.length ∧ (l ++ [x]).getD j z = x) := by
  rcases Nat.lt_or_ge j l.length with h1 | h1
  · exact .inl ⟨h1, getD_snoc_lt h1⟩
  · have : j = l.length := by simp at h; omega
    subst this
    exact .inr ⟨rfl, getD_snoc_eq⟩
/-- A row of formats of the call's own, each with a row of fields of the call's own. -/
structure OwnM (w : World) (B : Nat) (u : Value) (L : List Fm) (vs : List Value) : Prop where
  row : w.ownsRow B 52 2 u L.length (flatM L vs)
  vsl : vs.length = L.length
  each : ∀ i, i < L.length → w.ownsRow B 56 4 (vs.getD i undef) (L.getD i zm).fs.length (flat (L.getD i zm).fs)
theorem ownsRow_lower {w : World} {B C : Nat} {e : TypeId} {sz : Nat} {v : Value} {n : Nat} {xs : List Value} (h : w.ownsRow B e sz v n xs) (hc : C ≤ B) : w.ownsRow C e sz v n xs := by
  refine ⟨h.1, ?_⟩
  rcases h.2 with hn | ⟨g, cap, cur, rfl, hg, hh, r⟩
  · exact .inl hn
  · exact .inr ⟨g, cap, cur, rfl, by omega, hh, r⟩
theorem OwnM.fms {w : World} {B : Nat} {u : Value} {L : List Fm} {vs : List Value} (h : OwnM w B u L vs) : FmsAt (· < w.heap.size) w u L := by
  rcases h.row.2 with ⟨rfl, h0⟩ | ⟨g, cap, cur, rfl, hg, hh, hl, hm, hsz, ht⟩
  · exact .inl ⟨none, 0, rfl, List.eq_nil_of_length_eq_zero h0⟩
  · rcases Nat.eq_zero_or_pos L.length with h0 | h0
    · exact .inl ⟨_, _, by rw [h0], List.eq_nil_of_length_eq_zero h0⟩
    · have hcell : ∀ j, j < L.length * 2 → w.cell? ⟨g, 0 + j, none⟩ = (flatM L vs)[j]? := fun j hj => by
        rw [cell_of_row w g _ cur _ (0, 0) hh, ← ht, List.getElem?_take, if_pos (by omega)]
        simp
      refine .inr ⟨g, 0, cap, rfl, h0, hl, hm, lt_of_heap hh, lt_of_heap hh, fun i hi => ⟨vs.getD i undef, ?_, ?_, FldsAt.of_own (ownsRow_lower (h.each i hi) (Nat.zero_le _)), fun g' hg' => own_lt (h.each i hi) hg'⟩⟩
      · exact (hcell (i * 2) (by omega)).trans (flatM_get h.vsl hi).1
      · exact (hcell (i * 2 + 1) (by omega)).trans (flatM_get h.vsl hi).2
theorem OwnM.nil (w : World) (B : Nat) : OwnM w B (.slice none 0 0) [] [] := ⟨World.ownsRow_nil _ _ _ _, rfl, fun i h => by simp at h⟩
theorem OwnM.below {w w' : World} {B : Nat} {u : Value} {L : List Fm} {vs : List Value} (h : OwnM w B u L vs) (hb : Below w.heap.size w w') : OwnM w' B u L vs :=
  ⟨ownsRow_below h.row hb, h.vsl, fun i hi => ownsRow_below (h.each i hi) hb⟩
end RefOwn
section MakA
open Go.RowKit Fx Rec

set_option maxRecDepth 20000 in
theorem cpick_any (c n r : Int) (w : World) (c1 : -9223372036854775808 ≤ c) (c2 : c ≤ 9223372036854775807) (n1 : 1 ≤ n) (n2 : n ≤ 9223372036854775807) (hr : pickI c n = r) :
    Calls Tryz.prog 59 #[.int .i64 c, .int .i64 n] w fun e w' => e = .returned (.int .i64 r) ∧ w' = w := by
  subst hr
  unfold pickI
  by_cases h : c < 0
  · rw [if_pos h]
    have e1 : (-(c + 1)).tmod n = (-(c + 1)) % n := Int.tmod_eq_emod_of_nonneg (by omega)
    go_enter Tryz.func59, Tryz.ntmps59
    go_wp2_with fail
    go_ret
    exact ⟨rfl, rfl⟩
  · rw [if_neg h]
    have e1 : c.tmod n = c % n := Int.tmod_eq_emod_of_nonneg (by omega)
    go_enter Tryz.func59, Tryz.ntmps59
    go_wp2_with fail
    go_ret
    exact ⟨rfl, rfl⟩

theorem cpick_nat (c : Int) (n : Nat) (h : 1 ≤ n) : ∃ k : Nat, pickI c n = (k : Int) ∧ k < n := by
  have h1 := pickI_lo (c := c) (n := n) (by omega)
  have h2 := pickI_hi (c := c) (n := n) (by omega)
  exact ⟨(pickI c n).toNat, by omega, by omega⟩
/-- The length of one of the fields says what the number is. -/
def fromF (k : Nat) (f : Fld) : Bool := decide (f.frm = (k : Int)) && (decide (f.kind = 3) || decide (f.kind = 5))
/-- Whether a field is given. -/
def givenB (fs : List Fld) (k : Nat) : Bool := if (fs.getD k zf).kind = 3 then true else if (fs.getD k zf).kind = 2 then !fs.any (fromF k) else false
theorem any_take' (fs : List Fld) (q : Fld → Bool) {k : Nat} (hk : k < fs.length) : (fs.take (k + 1)).any q = ((fs.take k).any q || q (fs.getD k zf)) := by
  rw [List.take_succ_eq_append_getElem hk, List.any_append]
  simp [List.getD, List.getElem?_eq_getElem hk]
theorem any_more (fs : List Fld) (q : Fld → Bool) {k : Nat} (h : (fs.take k).any q = true) : fs.any q = true := by
  rw [List.any_eq_true] at h ⊢
  obtain ⟨x, h1, h2⟩ := h
  exact ⟨x, List.mem_of_mem_take h1, h2⟩
set_option maxRecDepth 20000 in
set_option maxHeartbeats 1000000 in
theorem given_any (id : Int) (fv : Value) (fs : List Fld) (k : Nat) (w : World) (hF : FldsAt w fv fs) (hk : k < fs.length) :
    Calls Tryz.prog 50 #[.agg #[.int .i64 id, fv], .int .i64 (k : Nat)] w fun e w' => e = .returned (.bool (givenB fs k)) ∧ Below w.heap.size w w' := by
  obtain ⟨ua, uc, rfl, hul⟩ := hF.slice_
  obtain ⟨m, hm⟩ : ∃ m, m = fs.length := ⟨_, rfl⟩
  obtain ⟨ub, uo, rfl, -, lub, hmu, hum, -⟩ := hF.at_ (by omega)
  rw [← hm] at hk hmu ⊢
  have hb1 := bx (w := w) (.cells #[.int .i64 id, .slice (some ⟨ub, uo, none⟩) m uc] 52)
  obtain ⟨W1, hW1⟩ : ∃ W1, W1 = w.alloc (.cells #[.int .i64 id, .slice (some ⟨ub, uo, none⟩) m uc] 52) := ⟨_, rfl⟩
  have hB1 : Blk W1 w.heap.size 52 #[.int .i64 id, .slice (some ⟨ub, uo, none⟩) m uc] := by rw [hW1]; exact Blk.new w _ _
  rw [← hW1] at hb1
  have hF1 := hF.below hb1
  have HI := Lib.hid (And.intro hb1 (And.intro hB1 (And.intro hF1 hm)))
  have c1 : W1.cell? ⟨w.heap.size, 1, none⟩ = some (.slice (some ⟨ub, uo, none⟩) m uc) := by rw [hB1.cell]; rfl
  obtain ⟨ub', uo', e0, -, -, -, -, hfl⟩ := hF1.at_ (by omega)
  cases e0
  obtain ⟨f, hf⟩ : ∃ f, f = fs.getD k zf := ⟨_, rfl⟩
  have hfa := hfl k (by omega)
  rw [← hf] at hfa
  have g0 := hfa.c0
  have hki : (0 : Int) ≤ (k : Int) ∧ (k : Int) < (m : Int) := by omega
  have lw1 := hB1.lt
  have c1x := c1
  have g0x := g0
  rw [hW1] at c1x g0x
  have Hf := Lib.hid hf
  have hgv : givenB fs k = if f.kind = 3 then true else if f.kind = 2 then !fs.any (fromF k) else false := by rw [givenB, ← hf]
  rw [hgv]
  unfold maxLen at hum
  clear hF hF1 hfl hfa hf hm hb1 hB1 hul hgv lub
  by_cases h3 : f.kind = 3
  · rw [if_pos h3]
    go_enter Tryz.func50, Tryz.ntmps50
    go_wp2_with fail
    rw [← hW1]
    first | go_end0 | go_ret
    exact ⟨rfl, HI.out.1⟩
  · rw [if_neg h3]
    by_cases h2 : f.kind = 2
    · rw [if_pos h2]
      go_enter Tryz.func50, Tryz.ntmps50
      go_wp2_with fail
      rw [← hW1]
      clear hW1 c1x g0x g0 h2 h3
      go_loopw [5] (fun i wr => ∃ (j : Nat), j ≤ m ∧ i = .int .i64 j ∧ Hid (Below W1.heap.size W1 wr ∧ (fs.take j).any (fromF k) = false)) (fun i _ => m - (intOf i).toNat)
      case atStart => exact ⟨0, Nat.zero_le _, rfl, Lib.hid ⟨Below.refl _ _, rfl⟩⟩
      case round =>
        obtain ⟨j, hj, rfl, HJ⟩ := hrel
        obtain ⟨wq, rfl⟩ : ∃ wq, wq = wr := ⟨_, rfl⟩
        have c2 : wq.cell? ⟨w.heap.size, 1, none⟩ = some (.slice (some ⟨ub, uo, none⟩) m uc) := by rw [World.cell?_of_block (w := W1) (HJ.out.1.block _ lw1)]; exact c1
        have lq : w.heap.size < wq.heap.size := Nat.lt_of_lt_of_le lw1 HJ.out.1.size
        by_cases hlt : j < m
        · have hq := HI.out.2.2.1.below HJ.out.1
          obtain ⟨ub', uo', e0, -, -, -, -, hfl⟩ := hq.at_ (by rw [← HI.out.2.2.2]; omega)
          cases e0
          obtain ⟨x, hx⟩ : ∃ x, x = fs.getD j zf := ⟨_, rfl⟩
          have hxa := hfl j (by rw [← HI.out.2.2.2]; exact hlt)
          rw [← hx] at hxa
          have x0 := hxa.c0
          have x1 := hxa.c1
          have x2 := hxa.c2
          have x3 := hxa.c3
          have hji : (0 : Int) ≤ (j : Int) ∧ (j : Int) < (m : Int) := by omega
          have hany := any_take' fs (fromF k) (k := j) (by rw [← HI.out.2.2.2]; exact hlt)
          rw [HJ.out.2, Bool.false_or, ← hx] at hany
          have HX := Lib.hid (And.intro hany (HJ.out.1.trans ((bx (w := wq) (.cells #[.int .i64 x.kind, .int .i64 x.n, .int .i64 x.frm, .string x.text] 56)).mono HJ.out.1.size)))
          clear hq hfl hxa hx hany c1
          by_cases hfk : x.frm = (k : Int)
          · have hd : (x.frm == (k : Int)) = true := by simp [hfk]
            by_cases h35 : x.kind = 3 ∨ x.kind = 5
            · have HY : Hid ((!fs.any (fromF k)) = false) := Lib.hid (by
                rw [any_more fs (fromF k) (k := j + 1) (by rw [HX.out.1, fromF]; rcases h35 with h | h <;> simp [hfk, h])]
                rfl)
              clear hfk
              rcases h35 with h35 | h35
              · have hd3 : (x.kind == 3) = true := by simp [h35]
                clear h35
                go_wp2_with fail
                first | go_end0 | go_ret
                exact ⟨by rw [HY.out]; rfl, HI.out.1.trans (HX.out.2.mono HI.out.1.size)⟩
              · have hd3 : (x.kind == 3) = false := by simp [h35]
                have hd5 : (x.kind == 5) = true := by simp [h35]
                clear h35
                go_wp2_with fail
                first | go_end0 | go_ret
                exact ⟨by rw [HY.out]; rfl, HI.out.1.trans (HX.out.2.mono HI.out.1.size)⟩
            · have hd3 : (x.kind == 3) = false := by rw [beq_eq_false_iff_ne]; exact fun h => h35 (.inl h)
              have hd5 : (x.kind == 5) = false := by rw [beq_eq_false_iff_ne]; exact fun h => h35 (.inr h)
              have HN : Hid ((fs.take (j + 1)).any (fromF k) = false) := Lib.hid (by rw [HX.out.1, fromF, decide_eq_false (fun h => h35 (.inl h)), decide_eq_false (fun h => h35 (.inr h)), Bool.or_self, Bool.and_false])
              clear hfk h35
              go_wp2_with fail
              exact ⟨⟨j + 1, by omega, by go_num, Lib.hid ⟨HX.out.2, HN.out⟩⟩, by simp [intOf]; omega⟩
          · have hd : (x.frm == (k : Int)) = false := by simp [hfk]
            have HN : Hid ((fs.take (j + 1)).any (fromF k) = false) := Lib.hid (by rw [HX.out.1, fromF, decide_eq_false hfk, Bool.false_and])
            clear hfk
            go_wp2_with fail
            exact ⟨⟨j + 1, by omega, by go_num, Lib.hid ⟨HX.out.2, HN.out⟩⟩, by simp [intOf]; omega⟩
        · obtain rfl : j = m := by omega
          have HY : Hid ((!fs.any (fromF k)) = true) := Lib.hid (by
            have h1 := HJ.out.2
            rw [HI.out.2.2.2, List.take_length] at h1
            rw [h1]; rfl)
          go_wp2_with fail
          first | go_end0 | go_ret
          exact ⟨by rw [HY.out]; rfl, HI.out.1.trans (HJ.out.1.mono HI.out.1.size)⟩
    · rw [if_neg h2]
      go_enter Tryz.func50, Tryz.ntmps50
      go_wp2_with fail
      rw [← hW1]
      first | go_end0 | go_ret
      exact ⟨rfl, HI.out.1⟩
end MakA
section MakB
open Go.RowKit Fx Rec

def strsV (l : List ByteArray) : List Value := l.map fun s => .string s
/-- Ints in a row, in blocks that meet a condition. -/
def IntsV (B : Nat → Prop) (w : World) (v : Value) : Prop :=
  ∃ a n c, v = .slice a n c ∧ n ≤ c ∧ c ≤ maxLen ∧ (n = 0 ∨ ∃ b off, a = some ⟨b, off, none⟩ ∧ B b ∧ b < w.heap.size ∧ ∀ j, j < n → ∃ z : Int, w.cell? ⟨b, off + j, none⟩ = some (.int .i64 z) ∧ -9223372036854775808 ≤ z ∧ z ≤ 9223372036854775807)
theorem IntsV.keep {B C : Nat → Prop} {w w' : World} {v : Value} (h : IntsV B w v) (hs : w.heap.size ≤ w'.heap.size) (hb : ∀ b, B b → C b ∧ w'.heap[b]? = w.heap[b]?) : IntsV C w' v := by
  obtain ⟨a, n, c, rfl, h1, h2, h3⟩ := h
  refine ⟨a, n, c, rfl, h1, h2, h3.imp_right ?_⟩
  rintro ⟨b, off, e, hB, hl, hc⟩
  refine ⟨b, off, e, (hb b hB).1, by omega, fun j hj => ?_⟩
  obtain ⟨z, e1, e2⟩ := hc j hj
  exact ⟨z, by rw [World.cell?_of_block (w := w) (hb b hB).2]; exact e1, e2⟩

/-- The maker's own blocks. -/
def OwnK (w : World) (mb k : Nat) : Prop := k = mb ∨ ∃ v, w.cell? ⟨mb, 2, none⟩ = some v ∧ v.ownBlock = some k
structure SafeK (w : World) (mb k : Nat) : Prop where
  lt : k < w.heap.size
  no : ¬ OwnK w mb k
/-- What a step of the maker leaves as it was. -/
structure StepK (mb : Nat) (w w' : World) : Prop where
  base : Kept (SafeK w mb) w w'
  safe : ∀ k, SafeK w mb k → SafeK w' mb k
theorem StepK.refl (mb : Nat) (w : World) : StepK mb w w := ⟨Kept.refl _ _, fun _ h => h⟩
theorem StepK.trans {mb : Nat} {w w1 w2 : World} (h : StepK mb w w1) (k : StepK mb w1 w2) : StepK mb w w2 := ⟨h.base.trans (k.base.mono fun q hq => h.safe q hq), fun q hq => k.safe q (h.safe q hq)⟩
theorem StepK.same {mb : Nat} {w w1 : World} (h : StepK mb w w1) {k : Nat} (hk : SafeK w mb k) : w1.heap[k]? = w.heap[k]? := h.base.block k hk
/-- A maker that has chosen these values. -/
structure MakAt (w : World) (mb top : Nat) (L : List Fm) (lv : Value) (out : List ByteArray) (cnt : Nat) (xv ov : Value) : Prop where
  blk : Blk w mb 77 #[lv, xv, ov, .int .i64 (cnt : Nat)]
  tab : FmsAt (fun k => SafeK w mb k ∧ k < top) w lv L
  ints : IntsV (fun k => SafeK w mb k ∧ k < top) w xv
  row : w.ownsRow 0 9 1 ov out.length (strsV out)
  few : out.length ≤ cnt
  cnt9 : cnt ≤ 100000000
  small : ∀ x, x ∈ out → x.size ≤ 8
  tp : top ≤ w.heap.size
def MkA (w : World) (mb top : Nat) (L : List Fm) (lv : Value) (out : List ByteArray) (cnt : Nat) : Prop := ∃ xv ov, MakAt w mb top L lv out cnt xv ov
section
variable {w w' W w1 : World} {mb top : Nat} {L : List Fm} {lv : Value} {out : List ByteArray} {cnt : Nat} {xv ov : Value}
theorem MakAt.own_ (h : MakAt w mb top L lv out cnt xv ov) (q : Nat) : OwnK w mb q ↔ q = mb ∨ ov.ownBlock = some q := by
  have c2 : w.cell? ⟨mb, 2, none⟩ = some ov := by rw [h.blk.cell]; rfl
  unfold OwnK
  rw [c2]
  simp
theorem ownK_iff {a b c d : Value} (h : Blk w mb 77 #[a, b, c, d]) (q : Nat) : OwnK w mb q ↔ q = mb ∨ c.ownBlock = some q := by
  have c2 : w.cell? ⟨mb, 2, none⟩ = some c := by rw [h.cell]; rfl
  unfold OwnK
  rw [c2]
  simp
theorem StepK.make (hk : Kept (SafeK w mb) w w') (hown : ∀ q, OwnK w' mb q → OwnK w mb q ∨ w.heap.size ≤ q) : StepK mb w w' :=
  ⟨hk, fun q hq => ⟨Nat.lt_of_lt_of_le hq.lt hk.size, fun h => by
    rcases hown q h with h | h
    · exact hq.no h
    · have := hq.lt; omega⟩⟩
theorem MakAt.below (h : MakAt w mb top L lv out cnt xv ov) (hb : Below w.heap.size w w') : StepK mb w w' ∧ (∀ q, w.heap.size ≤ q → q < w'.heap.size → SafeK w' mb q) ∧ MakAt w' mb top L lv out cnt xv ov := by
  have hblk : Blk w' mb 77 _ := (hb.block _ h.blk.lt).trans h.blk
  have hs : StepK mb w w' := StepK.make (Kept.of_below hb fun q hq => hq.lt) fun q hq => .inl ((h.own_ q).2 ((ownK_iff hblk q).1 hq))
  refine ⟨hs, fun q h1 h2 => ⟨h2, fun hq => ?_⟩, { h with blk := hblk, tab := (h.tab.kept (hs.base.mono fun k hk => hk.1)).mono fun k hk => ⟨hs.safe k hk.1, hk.2⟩, ints := h.ints.keep hb.size fun b hB => ⟨⟨hs.safe b hB.1, hB.2⟩, hs.same hB.1⟩, row := ownsRow_below h.row hb, tp := Nat.le_trans h.tp hb.size }⟩
  rcases (ownK_iff hblk q).1 hq with e | e
  · have := h.blk.lt; omega
  · have := own_lt h.row e; omega
theorem MakAt.mb_out (h : MakAt w mb top L lv out cnt xv ov) : ov.ownBlock ≠ some mb := own_blk_ne h.row h.blk (by decide)
theorem MakAt.not_safe (h : MakAt w mb top L lv out cnt xv ov) : ¬ SafeK w mb mb := fun hs => hs.no ((h.own_ mb).2 (.inl rfl))
/-- A cell of the maker is written, but for its values. -/
theorem MakAt.poke (h : MakAt w mb top L lv out cnt xv ov) (c : Nat) (u : Value) {xv' : Value} {cnt' : Nat} (hblk : Blk (w.setCell ⟨mb, c, none⟩ u) mb 77 #[lv, xv', ov, .int .i64 (cnt' : Nat)])
    (hx : IntsV (fun k => SafeK w mb k ∧ k < top) w xv') (h1 : out.length ≤ cnt') (h9 : cnt' ≤ 100000000) : StepK mb w (w.setCell ⟨mb, c, none⟩ u) ∧ MakAt (w.setCell ⟨mb, c, none⟩ u) mb top L lv out cnt' xv' ov := by
  have E : ∀ q, q ≠ mb → (w.setCell ⟨mb, c, none⟩ u).heap[q]? = w.heap[q]? := fun q hq => Below.heap_setCell _ _ _ _ hq
  have hs : StepK mb w (w.setCell ⟨mb, c, none⟩ u) := StepK.make ((Kept.refl _ _).setCell h.not_safe _) fun q hq => .inl ((h.own_ q).2 ((ownK_iff hblk q).1 hq))
  refine ⟨hs, { h with blk := hblk, tab := (h.tab.kept (hs.base.mono fun k hk => hk.1)).mono fun k hk => ⟨hs.safe k hk.1, hk.2⟩, ints := hx.keep hs.base.size fun b hB => ⟨⟨hs.safe b hB.1, hB.2⟩, hs.same hB.1⟩, row := own_keep h.row fun g cur hg _ => E g fun e => h.mb_out (e ▸ hg), few := h1, cnt9 := h9, tp := Nat.le_trans h.tp hs.base.size }⟩
/-- A block of another one is written. -/
theorem MakAt.other (h : MakAt w mb top L lv out cnt xv ov) {q i : Nat} (hq : SafeK w mb q) (ht : top ≤ q) (u : Value) : (∀ k, SafeK w mb k → SafeK (w.setCell ⟨q, i, none⟩ u) mb k) ∧ MakAt (w.setCell ⟨q, i, none⟩ u) mb top L lv out cnt xv ov := by
  have E : ∀ k, k ≠ q → (w.setCell ⟨q, i, none⟩ u).heap[k]? = w.heap[k]? := fun k hk => Below.heap_setCell _ _ _ _ hk
  have hsz : (w.setCell ⟨q, i, none⟩ u).heap.size = w.heap.size := by simp [World.setCell]
  have hmq : mb ≠ q := fun e => hq.no ((h.own_ q).2 (.inl e.symm))
  have hblk : Blk (w.setCell ⟨q, i, none⟩ u) mb 77 _ := (E mb hmq).trans h.blk
  have hsafe : ∀ k, SafeK w mb k → SafeK (w.setCell ⟨q, i, none⟩ u) mb k := fun k hk => ⟨by rw [hsz]; exact hk.lt, fun e => hk.no ((h.own_ k).2 ((ownK_iff hblk k).1 e))⟩
  have hk : Kept (fun k => SafeK w mb k ∧ k < top) w (w.setCell ⟨q, i, none⟩ u) := (Kept.refl _ _).setCell (fun e => by have := e.2; simp only at this; omega) _
  refine ⟨hsafe, { h with blk := hblk, tab := (h.tab.kept hk).mono fun k hk => ⟨hsafe k hk.1, hk.2⟩, ints := h.ints.keep (by rw [hsz]; exact Nat.le_refl _) fun b hB => ⟨⟨hsafe b hB.1, hB.2⟩, hk.block b hB⟩, row := own_keep h.row fun g cur hg _ => E g fun e => hq.no ((h.own_ q).2 (.inr (e ▸ hg))), tp := by rw [hsz]; exact h.tp }⟩
/-- A value has been put behind the others. -/
theorem MakAt.added (h : MakAt w mb top L lv out cnt xv ov) {v1 : Value} {s : ByteArray} (hs8 : s.size ≤ 8) (hc : out.length + 1 ≤ cnt) (hG : Grew w w1 0 9 1 ov v1 (out.length + 1) (strsV out ++ [.string s])) :
    (w1.cell? ⟨mb, 2, none⟩ = some ov ∧ w1.frozen? ⟨mb, 2, none⟩ = false) ∧ StepK mb w (w1.setCell ⟨mb, 2, none⟩ v1) ∧ MakAt (w1.setCell ⟨mb, 2, none⟩ v1) mb top L lv (out ++ [s]) cnt xv v1 := by
  have G : ∀ q, q < w.heap.size → ov.ownBlock ≠ some q → w1.heap[q]? = w.heap[q]? := fun q hq hne => hG.grown.block q hq (fun e => hne e.symm)
  have hblk1 : Blk w1 mb 77 _ := (G _ h.blk.lt h.mb_out).trans h.blk
  have E : ∀ q, q ≠ mb → (w1.setCell ⟨mb, 2, none⟩ v1).heap[q]? = w1.heap[q]? := fun q hq => Below.heap_setCell _ _ _ _ hq
  have hblk2 : Blk (w1.setCell ⟨mb, 2, none⟩ v1) mb 77 #[lv, xv, v1, .int .i64 (cnt : Nat)] := hblk1.set_ 2 v1
  have hk : Kept (SafeK w mb) w (w1.setCell ⟨mb, 2, none⟩ v1) := ((Kept.refl _ _).grown hG.grown (fun q hq => hq.lt) (fun q hq hS => hS.no ((h.own_ q).2 (.inr hq)))).setCell h.not_safe _
  have hs : StepK mb w (w1.setCell ⟨mb, 2, none⟩ v1) := StepK.make hk fun q hq => by
    rcases (ownK_iff hblk2 q).1 hq with e | e
    · exact .inl ((h.own_ q).2 (.inl e))
    · rcases hG.blk with hb | hb
      · exact .inl ((h.own_ q).2 (.inr (hb ▸ e)))
      · rw [hb] at e
        cases e
        exact .inr (Nat.le_refl _)
  refine ⟨⟨by rw [hblk1.cell]; rfl, hblk1.frozen 2⟩, hs, { h with blk := hblk2, tab := (h.tab.kept (hs.base.mono fun k hk => hk.1)).mono fun k hk => ⟨hs.safe k hk.1, hk.2⟩, ints := h.ints.keep hs.base.size fun b hB => ⟨⟨hs.safe b hB.1, hB.2⟩, hs.same hB.1⟩, row := ?_, few := by rw [List.length_append, List.length_singleton]; exact hc, small := fun x hx => ?_, tp := Nat.le_trans h.tp hs.base.size }⟩
  · have e : strsV (out ++ [s]) = strsV out ++ [.string s] := by simp [strsV]
    rw [e, List.length_append, List.length_singleton]
    exact own_keep hG.own fun g cur hg hh => E g (Blk.ne_ (t := 9) hh hblk1 (by decide))
  · rw [List.mem_append, List.mem_singleton] at hx
    rcases hx with hx | rfl
    · exact h.small x hx
    · exact hs8
end

/-! the next number -/
set_option maxRecDepth 20000 in
set_option maxHeartbeats 1000000 in
theorem mnext_any {w : World} {mb top : Nat} {L : List Fm} {lv : Value} {out : List ByteArray} {cnt : Nat} (h : MkA w mb top L lv out cnt) :
    Calls Tryz.prog 60 #[ptr mb] w fun e w' => (∃ z : Int, e = .returned (.int .i64 z) ∧ -9223372036854775808 ≤ z ∧ z ≤ 9223372036854775807) ∧ StepK mb w w' ∧ MkA w' mb top L lv out cnt := by
  obtain ⟨xv, ov, hm⟩ := h
  obtain ⟨a, n, c, rfl, h1, h2, h3⟩ := hm.ints
  have c1 : w.cell? ⟨mb, 1, none⟩ = some (.slice a n c) := by rw [hm.blk.cell]; rfl
  have f1 := hm.blk.frozen 1
  have HM := Lib.hid hm
  rcases n with _ | n
  · clear hm h3
    go_enter Tryz.func60, Tryz.ntmps60
    go_wp2_with fail
    first | go_end0 | go_ret
    exact ⟨⟨0, rfl, by omega, by omega⟩, StepK.refl _ _, _, _, HM.out⟩
  · obtain ⟨b, off, rfl, hB, hlt, hcell⟩ := h3.resolve_left (by omega)
    obtain ⟨z, x0, z1, z2⟩ := hcell 0 (by omega)
    rw [Nat.add_zero] at x0
    have hd : (((n + 1 : Nat) : Int) == 0) = false := by rw [beq_eq_false_iff_ne]; omega
    have HP : Hid (∀ a', (a' = some ⟨b, off + 1, none⟩ ∨ n = 0 ∧ a' = some ⟨b, off, none⟩) → StepK mb w (w.setCell ⟨mb, 1, none⟩ (.slice a' n (c - 1))) ∧ MkA (w.setCell ⟨mb, 1, none⟩ (.slice a' n (c - 1))) mb top L lv out cnt) := Lib.hid fun a' ha => by
      have hP := hm.poke 1 (.slice a' n (c - 1)) (hm.blk.set_ 1 _) (xv' := .slice a' n (c - 1)) ⟨a', n, c - 1, rfl, by omega, by omega, by
        rcases ha with rfl | ⟨h0, rfl⟩
        · refine .inr ⟨b, off + 1, rfl, hB, hlt, fun j hj => ?_⟩
          obtain ⟨y, e1, e2⟩ := hcell (j + 1) (by omega)
          exact ⟨y, by rw [show off + 1 + j = off + (j + 1) by omega]; exact e1, e2⟩
        · exact .inl h0⟩ hm.few hm.cnt9
      exact ⟨hP.1, _, _, hP.2⟩
    have HZ := Lib.hid (And.intro z1 z2)
    clear hm hcell z1 z2 hB
    by_cases hc : c = 1
    · subst hc
      obtain rfl : n = 0 := by omega
      go_enter Tryz.func60, Tryz.ntmps60
      go_wp2_with fail
      first | go_end0 | go_ret
      exact ⟨⟨z, rfl, HZ.out.1, HZ.out.2⟩, HP.out _ (.inr (by simp))⟩
    · go_enter Tryz.func60, Tryz.ntmps60
      go_wp2_with fail
      first | go_end0 | go_ret
      exact ⟨⟨z, rfl, HZ.out.1, HZ.out.2⟩, HP.out _ (.inl rfl)⟩

/-! numbers in bytes -/
theorem conv_byte (w : World) (z : Int) : (convert 64 9 (.slice (some ⟨w.heap.size, 0, none⟩) 1 1)).run Tryz.prog (w.alloc (.cells #[.int .u8 z] 5)) = .ok (.string ⟨#[UInt8.ofNat z.toNat]⟩) (w.alloc (.cells #[.int .u8 z] 5)) := by
  have hb := Blk.new w 5 #[.int .u8 z]
  rw [run_convert_bytes_arg (P := Tryz.prog) _ 64 5 Tryz.underlying64 Tryz.underlying5 w.heap.size 0 1 1 [z] rfl ?_ 9 Tryz.underlying9]
  · rfl
  · intro i hi
    obtain rfl : i = 0 := by omega
    rw [Nat.zero_add, hb.cell]
    rfl
set_option maxRecDepth 20000 in
set_option maxHeartbeats 1000000 in
theorem written_any (m : Int) (n : Nat) (w : World) (m0 : 0 ≤ m) (m9 : m ≤ 1000000000) (hn : n ≤ 16) :
    Calls Tryz.prog 57 #[.int .i64 m, .int .i64 (n : Nat)] w fun e w' => e = .returned (.string (bytesOf (nbytes n m))) ∧ Below w.heap.size w w' := by
  go_enter Tryz.func57, Tryz.ntmps57
  go_wp2_with fail
  go_loopw [0, 5, 6] (fun x s i wr => ∃ (j : Nat) (M : Int) (S : ByteArray), j ≤ n ∧ x = .int .i64 M ∧ s = .string S ∧ i = .int .i64 j ∧ 0 ≤ M ∧ M ≤ 1000000000 ∧ S.size = j ∧ Hid (Below w.heap.size w wr ∧ nbytes n m = nbytes (n - j) M ++ S.data.toList)) (fun _ _ i _ => n - (intOf i).toNat)
  case atStart => exact ⟨0, m, ⟨#[]⟩, Nat.zero_le _, rfl, rfl, rfl, m0, m9, rfl, Lib.hid ⟨Below.refl _ _, by simp⟩⟩
  case round =>
    obtain ⟨j, M, S, hj, rfl, rfl, rfl, M0, M9, hSj, HJ⟩ := hrel
    obtain ⟨wq, rfl⟩ : ∃ wq, wq = wr := ⟨_, rfl⟩
    by_cases hlt : j < n
    · have hcv := conv_byte wq (M % 256)
      go_wp2_with fail
      have HS1 : Hid (nbytes n m = nbytes (n - (j + 1)) (M / 256) ++ ((⟨#[UInt8.ofNat (M % 256).toNat]⟩ : ByteArray) ++ S).data.toList) := Lib.hid (by
        rw [HJ.out.2, show n - j = (n - (j + 1)) + 1 by omega, nbytes]
        simp)
      go_wp2_with fail
      exact ⟨⟨j + 1, M / 256, _, by omega, rfl, rfl, by go_num, by omega, by omega, by rw [ByteArray.size_append, hSj]; show 1 + j = _; omega, Lib.hid ⟨HJ.out.1.trans ((bx _).mono HJ.out.1.size), HS1.out⟩⟩, by simp [intOf]; omega⟩
    · obtain rfl : j = n := by omega
      have HST : Hid (bytesOf (nbytes j m) = S) := Lib.hid (by
        rw [HJ.out.2, Nat.sub_self, nbytes, List.nil_append]
        rfl)
      go_wp2_with fail
      first | go_end0 | go_ret
      exact ⟨by rw [HST.out]; rfl, HJ.out.1⟩
end MakB
end Go.Proofs.YtdndmhlmbpgdeaaGreatDoor
