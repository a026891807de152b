/- The text of a table, and Print. Conditions: the list is readable; its numbers are ints; what the functions of texts read of memory. -/
import Derived.Test.YtcnokccgdiodlaaGreatDoorFmtQ
namespace Go.Proofs.YtcnokccgdiodlaaGreatDoor
open Go.RowKit Fx

/-- The formats of a table, as a slice that can be read. -/
theorem TabEnd.fms {w : World} {P : Nat → Prop} {tb : Nat} {s : St} (h : TabEnd w P tb s) : ∃ vF, w.cell? ⟨tb, 35, none⟩ = some vF ∧ tb < w.heap.size ∧ FmsAt (· < w.heap.size) w vF s.d := by
  obtain ⟨cs, mb, b1, b2, c, b3, vF, vs, hC⟩ := h
  refine ⟨vF, (hC.blk.cell 35).trans hC.cF, hC.blk.lt, ?_⟩
  rcases hC.rowF.2 with ⟨rfl, h0⟩ | ⟨g, cap, cur, rfl, hg, hh, hl, hm, hsz, ht⟩
  · exact .inl ⟨none, 0, rfl, List.eq_nil_of_length_eq_zero h0⟩
  · rcases Nat.eq_zero_or_pos s.d.length with h0 | h0
    · exact .inl ⟨_, _, by rw [h0], List.eq_nil_of_length_eq_zero h0⟩
    · have hcell : ∀ j, j < s.d.length * 2 → w.cell? ⟨g, 0 + j, none⟩ = (flatM s.d vs)[j]? := fun j hj => by
        rw [cell_of_row w g _ cur _ (0, 0) hh, ← ht, List.getElem?_take, if_pos (by omega)]
        simp
      refine .inr ⟨g, 0, cap, rfl, h0, hl, hm, lt_of_heap hh, lt_of_heap hh, fun i hi => ⟨vs.getD i undef, ?_, ?_, FldsAt.of_own (hC.done i hi), fun g' hg' => own_lt (hC.done i hi) hg'⟩⟩
      · exact (hcell (i * 2) (by omega)).trans (flatM_get hC.vsl hi).1
      · exact (hcell (i * 2 + 1) (by omega)).trans (flatM_get hC.vsl hi).2

/-! lengths -/
theorem heading_len {id : Int} (n1 : -9223372036854775808 ≤ id) (n2 : id ≤ 9223372036854775807) : (heading id).length ≤ 27 := by
  have := itoa_len n1 n2
  unfold heading wFormat; simp; omega
theorem wordK_len (k : Int) : (wordK k).length ≤ 7 := by
  unfold wordK
  repeat' split
  all_goals simp
theorem lineF_len {f : Fld} (hf : Ints f) (hl : f.text.size ≤ 16) : (lineF f).length ≤ 80 := by
  have a1 := itoa_len hf.n1 hf.n2
  have a2 := itoa_len hf.f1 hf.f2
  have a3 := wordK_len f.kind
  unfold lineF writeF wFrom
  rw [List.length_append, List.length_cons]
  split
  · rw [hex_len]; have : f.text.data.toList.length = f.text.size := by simp
    omega
  · split
    · split <;> simp <;> omega
    · split
      · simp; omega
      · omega
/-- What a valid list's fields are like. -/
structure Nice (l : List Fm) : Prop where
  few : l.length ≤ 60
  id : ∀ i, i < l.length → -9223372036854775808 ≤ (l.getD i zm).id ∧ (l.getD i zm).id ≤ 9223372036854775807
  fs : ∀ i, i < l.length → (l.getD i zm).fs.length ≤ 16
  fld : ∀ i, i < l.length → ∀ j, j < (l.getD i zm).fs.length → Ints ((l.getD i zm).fs.getD j zf) ∧ ((l.getD i zm).fs.getD j zf).text.size ≤ 16 ∧ 1 ≤ ((l.getD i zm).fs.getD j zf).kind ∧ ((l.getD i zm).fs.getD j zf).kind ≤ 6
theorem Fx.Ok.nice {l : List Fm} (h : Fx.Ok l) : Nice l := by
  refine ⟨h.few, fun i hi => ?_, fun i hi => (h.each i hi).few, fun i hi j hj => ?_⟩
  · have := (h.each i hi).lo; have := (h.each i hi).hi; omega
  · have hr := (h.each i hi).each j hj
    have hc := right_canon (h.take i).small (by rw [List.length_take]; have := (h.each i hi).few; omega) hr
    obtain ⟨_, a1, a2, a3, a4, a5, a6, a7⟩ := hc
    exact ⟨⟨by omega, by omega, by omega, by omega, by omega, by omega, by omega⟩, a7, a1, a2⟩
theorem take_succ_getD {α : Type} (l : List α) (z : α) (k : Nat) (h : k < l.length) : l.take (k + 1) = l.take k ++ [l.getD k z] := by
  rw [List.take_succ_eq_append_getElem h]; simp [List.getD, List.getElem?_eq_getElem h]
theorem textF_len {fs : List Fld} (h : ∀ j, j < fs.length → Ints (fs.getD j zf) ∧ (fs.getD j zf).text.size ≤ 16) : ∀ k, k ≤ fs.length → (textF (fs.take k)).length ≤ 81 * k := by
  intro k
  induction k with
  | zero => intro _; simp [textF]
  | succ k ih =>
    intro hk
    have := ih (by omega)
    have hl := lineF_len (h k (by omega)).1 (h k (by omega)).2
    rw [take_succ_getD _ zf k (by omega)]
    unfold textF at this ⊢
    rw [List.flatMap_append, List.length_append]
    simp only [List.flatMap_cons, List.flatMap_nil, List.append_nil, List.length_append, List.length_cons, List.length_nil]
    omega
theorem textM_len {m : Fm} (h0 : -9223372036854775808 ≤ m.id ∧ m.id ≤ 9223372036854775807) (h16 : m.fs.length ≤ 16) (h : ∀ j, j < m.fs.length → Ints (m.fs.getD j zf) ∧ (m.fs.getD j zf).text.size ≤ 16) : (textM m).length ≤ 2000 := by
  have h1 := heading_len h0.1 h0.2
  have h2 := textF_len h m.fs.length (Nat.le_refl _)
  rw [List.take_length] at h2
  unfold textM
  rw [List.length_append, List.length_cons]; omega
theorem text_len {l : List Fm} (h : Nice l) : ∀ k, k ≤ l.length → (text (l.take k)).length ≤ 2000 * k := by
  intro k
  induction k with
  | zero => intro _; simp [text]
  | succ k ih =>
    intro hk
    have := ih (by omega)
    have hm := textM_len (h.id k (by omega)) (h.fs k (by omega)) (fun j hj => ⟨(h.fld k (by omega) j hj).1, (h.fld k (by omega) j hj).2.1⟩)
    rw [take_succ_getD _ zm k (by omega)]
    unfold text at this ⊢
    rw [List.flatMap_append, List.length_append]
    simp only [List.flatMap_cons, List.flatMap_nil, List.append_nil]
    omega

theorem IsB.keep {B b : Nat} {l : List Value} {w w' : World} (h : IsB B b l w) (hb : Below w.heap.size w w') : IsB B b l w' := by
  rcases h with ⟨h1, v, h2, h3, h4⟩ | ⟨h1, v, h2, h3, h4⟩
  · exact .inl ⟨h1, v, (hb.block _ (lt_of_heap h2)).trans h2, ownsRow_below h3 hb, h4⟩
  · exact .inr ⟨h1, v, (hb.block _ (lt_of_heap h2)).trans h2, ownsRow_below h3 hb, h4⟩
theorem IsB.lt {B b : Nat} {l : List Value} {w : World} (h : IsB B b l w) : b < w.heap.size := by
  rcases h with h | h <;> exact h.lt
theorem byteCells_append (a b : List UInt8) : Lib.byteCells (a ++ b) = Lib.byteCells a ++ Lib.byteCells b := by simp [Lib.byteCells]
theorem strCells_bs (l : List UInt8) : Lib.strCells (bs l) = Lib.byteCells l := by rw [strCells_eq]
set_option maxRecDepth 100000 in
set_option maxHeartbeats 4000000 in
theorem text_some (tb b off cap : Nat) (l : List Fm) (a : Addr) (w : World) (hN : Nice l) (h1 : 1 ≤ l.length) (h2 : l.length ≤ cap) (h3 : cap ≤ maxLen) (hb : b < w.heap.size) (hfm : ∀ i, i < l.length → ∃ u, FmAt (· < w.heap.size) w b (off + i * 2) (l.getD i zm) u)
    (hH : HasKinds w tb) (hT : Txt w a) (hc : w.cell? ⟨tb, 35, none⟩ = some (.slice (some ⟨b, off, none⟩) l.length cap)) (htb : tb < w.heap.size) :
    Calls Tryz.prog 40 #[adr tb] w fun e w' => e = .returned (.string (bs (text l))) ∧ Below w.heap.size w w' := by
  obtain ⟨n, hn⟩ : ∃ n, n = l.length := ⟨_, rfl⟩
  rw [← hn] at hc h1 h2
  have HFM := Lib.hid hfm
  have HT := Lib.hid hT
  have HH := Lib.hid hH
  have HNI := Lib.hid hN
  have HN := Lib.hid hn
  unfold maxLen at h3
  clear hfm hT hH hN hn
  go_enter Tryz.func40, Tryz.ntmps40
  go_wp2_with fail
  obtain ⟨B, hB⟩ : ∃ B, B = w.heap.size := ⟨_, rfl⟩
  obtain ⟨W, hW⟩ : ∃ W, W = w.alloc (.cells #[.pointer none, .slice none 0 0] 99) := ⟨_, rfl⟩
  rw [← hW]
  have h0 : Hid (IsB w.heap.size w.heap.size (Lib.byteCells []) W ∧ Below w.heap.size w W) := Lib.hid (by
    rw [hW]
    exact ⟨.inl ⟨Nat.le_refl _, .slice none 0 0, heap_alloc_new _ _, World.ownsRow_nil _ _ _ _, by simp [Value.ownBlock]⟩, bx _⟩)
  clear hW
  go_loopw [13] (fun i wr => ∃ k : Nat, k ≤ n ∧ i = .int .i64 k ∧ Hid (IsB w.heap.size w.heap.size (Lib.byteCells (text (l.take k))) wr ∧ Below w.heap.size w wr)) (fun i _ => n - (intOf i).toNat)
  case atStart => exact ⟨0, Nat.zero_le _, rfl, h0⟩
  case round =>
    obtain ⟨k, hk, rfl, HI⟩ := hrel
    obtain ⟨wo, rfl⟩ : ∃ wo : World, wo = wr := ⟨_, rfl⟩
    by_cases hlt : k < n
    · have hkl : k < l.length := by have := HN.out; omega
      obtain ⟨f, hf⟩ : ∃ f, f = l.getD k zm := ⟨_, rfl⟩
      obtain ⟨u, hu0⟩ := HFM.out k hkl
      rw [← hf] at hu0
      have hu := hu0.kept (Kept.of_below HI.out.2 fun _ h => h) hb
      obtain ⟨ua, uc, rfl, hucl⟩ := hu.fs.slice_
      obtain ⟨m, hm⟩ : ∃ m, m = f.fs.length := ⟨_, rfl⟩
      rw [← hm] at hu hucl
      have q0 := hu.c0
      have q1 := hu.c1
      have lb := World.block_lt_of_cell? (h := q0)
      have hid := HNI.out.id k hkl
      rw [← hf] at hid
      have HFS := Lib.hid (And.intro hu.fs hu.own)
      have HF := Lib.hid (And.intro hf (And.intro hm hid))
      obtain ⟨HD, hHD⟩ : ∃ HD, bs (heading f.id) = HD := ⟨_, rfl⟩
      have sHD : HD.size ≤ 27 := by rw [← hHD]; exact heading_len hid.1 hid.2
      have HHD := Lib.hid hHD
      obtain ⟨wb, hwb⟩ : ∃ wb, wb = wo.alloc (.cells #[.int .i64 f.id, .slice ua m uc] 34) := ⟨_, rfl⟩
      have hBb : Below wo.heap.size wo wb := by rw [hwb]; exact bx _
      have hNb : wb.heap[wo.heap.size]? = some (.cells #[.int .i64 f.id, .slice ua m uc] 34 (0, 0)) := by rw [hwb]; exact heap_alloc_new _ _
      have k0 : wb.cell? ⟨wo.heap.size, 0, none⟩ = some (.int .i64 f.id) := cell_of_row _ _ _ _ _ _ hNb
      have hIb : IsB w.heap.size w.heap.size (Lib.byteCells (text (l.take k))) wb := HI.out.1.keep hBb
      have HB := Lib.hid (And.intro hIb (And.intro (HI.out.2.trans (hBb.mono HI.out.2.size)) hNb))
      have HKO := Lib.hid HI.out.2
      have HLT := Lib.hid HI.out.1.lt
      have hTb : Txt wb a := (HT.out.below HI.out.2).below hBb
      have HCH := Lib.hid (heading_any f.id HD a wb hid.1 hid.2 hTb hHD)
      clear hf hm hid hHD hu0 hu hBb hNb hIb hTb HI
      go_wp2_with fail
      rw [← hwb]
      refine HCH.out.mono ?_
      rintro e w1 ⟨rfl, hb1⟩
      have hI1 := HB.out.1.keep hb1
      have hN1 : w1.heap[wo.heap.size]? = some (.cells #[.int .i64 f.id, .slice ua m uc] 34 (0, 0)) := (hb1.block _ (lt_of_heap HB.out.2.2)).trans HB.out.2.2
      have HB1 := Lib.hid (And.intro hI1 (And.intro (HB.out.2.1.trans (hb1.mono HB.out.2.1.size)) hN1))
      have tl := text_len HNI.out k (by omega)
      have hTL := Lib.hid tl
      obtain ⟨D, hD⟩ : ∃ D, D = HD ++ (⟨#[10]⟩ : ByteArray) := ⟨_, rfl⟩
      have HDD := Lib.hid hD
      have sD : D.size ≤ 28 := by rw [hD, ByteArray.size_append]; have : (⟨#[10]⟩ : ByteArray).size = 1 := rfl; omega
      have hfew := HNI.out.few
      clear hb1 hI1 hN1 HB tl hD
      go_wp2_with fail
      rw [← HDD.out]
      refine (wStr_any w.heap.size w.heap.size _ D w1 HB1.out.1 (by rw [Lib.byteCells_length]; have := hTL.out; omega) HB1.out.2.1.size).mono ?_
      rintro e w2 ⟨rfl, hI2, hb2, hot⟩
      have hne : wo.heap.size ≠ w.heap.size := by
        have := HLT.out
        omega
      have hN2 : w2.heap[wo.heap.size]? = some (.cells #[.int .i64 f.id, .slice ua m uc] 34 (0, 0)) := (hot _ _ _ _ (by decide) hne HB1.out.2.2).trans HB1.out.2.2
      have k1 : w2.cell? ⟨wo.heap.size, 1, none⟩ = some (.slice ua m uc) := cell_of_row _ _ _ _ _ _ hN2
      have HB2 : Hid (IsB w.heap.size w.heap.size (Lib.byteCells (text (l.take k) ++ (heading f.id ++ [10]) ++ textF (f.fs.take 0))) w2 ∧ Below w.heap.size w w2) := Lib.hid (by
        refine ⟨?_, HB1.out.2.1.trans hb2⟩
        rw [HDD.out, ← HHD.out, show (⟨#[10]⟩ : ByteArray) = bs [10] from rfl, bs_append, strCells_bs] at hI2
        have e0 : textF (f.fs.take 0) = [] := by simp [textF]
        rw [e0, List.append_nil, byteCells_append]
        exact hI2)
      clear hI2 hb2 hot hne hN2 HB1
      go_wp2_with fail
      go_loopw [25] (fun i wr => ∃ j : Nat, j ≤ m ∧ i = .int .i64 j ∧ Hid (IsB w.heap.size w.heap.size (Lib.byteCells (text (l.take k) ++ (heading f.id ++ [10]) ++ textF (f.fs.take j))) wr ∧ Below w.heap.size w wr)) (fun i _ => m - (intOf i).toNat)
      case atStart => exact ⟨0, Nat.zero_le _, rfl, HB2⟩
      case round =>
        obtain ⟨j, hj, rfl, HJ⟩ := hrel
        by_cases hjm : j < m
        · have hjl : j < f.fs.length := by have := HF.out.2.1; omega
          obtain ⟨fb, fo, hua, -, -, m1, m2, hfl⟩ := HFS.out.1.at_ (by omega)
          subst hua
          have hPf : fb < w.heap.size := HFS.out.2 fb rfl
          obtain ⟨⟨gk, gn, gf, gt⟩, hg⟩ : ∃ g, g = f.fs.getD j zf := ⟨_, rfl⟩
          have hgN := HNI.out.fld k hkl
          rw [← HF.out.1] at hgN
          have hgN := hgN j hjl
          rw [← hg] at hgN
          have hgA := (hfl j hjl).of_block (w' := wr) (by rw [HJ.out.2.block fb hPf, HKO.out.block fb hPf])
          rw [← hg] at hgA
          obtain ⟨g0, g1, g2, g3⟩ := hgA
          have lgb := World.block_lt_of_cell? (h := g0)
          have hkk : 1 ≤ gk ∧ gk ≤ 6 := hgN.2.2
          obtain ⟨LN, hLN⟩ : ∃ LN, bs (lineF ⟨gk, gn, gf, gt⟩) = LN := ⟨_, rfl⟩
          have sLN : LN.size ≤ 80 := by rw [← hLN]; exact lineF_len hgN.1 hgN.2.1
          obtain ⟨wc, hwc⟩ : ∃ wc, wc = wr.alloc (.cells #[.int .i64 gk, .int .i64 gn, .int .i64 gf, .string gt] 56) := ⟨_, rfl⟩
          have hBc : Below wr.heap.size wr wc := by rw [hwc]; exact bx _
          have bwc : Below w.heap.size w wc := HJ.out.2.trans (hBc.mono HJ.out.2.size)
          have HLI := Lib.hid (line_any tb gk.toNat ⟨gk, gn, gf, gt⟩ a LN wc (HH.out.below bwc) (HT.out.below bwc) hgN.1 (by have := hgN.2.1; omega) (by omega) (by omega) (by show gk = _; omega) hLN)
          have HX := Lib.hid (And.intro (HJ.out.1.keep hBc) bwc)
          have HY := Lib.hid (And.intro hg hLN)
          have tfl : (textF (f.fs.take j)).length ≤ 81 * j := textF_len (fun i hi => by
            have h3 := HNI.out.fld k hkl
            rw [← HF.out.1] at h3
            exact ⟨(h3 i hi).1, (h3 i hi).2.1⟩) j (by omega)
          have hf16 : m ≤ 16 := by
            have h3 := HNI.out.fs k hkl
            rw [← HF.out.1] at h3
            have := HF.out.2.1
            omega
          have hdl := heading_len HF.out.2.2.1 HF.out.2.2.2
          have HLL := Lib.hid (And.intro tfl (And.intro hf16 hdl))
          unfold maxLen at m2
          clear hkk hfl hg hgN hLN hBc bwc HJ tfl hf16 hdl
          go_wp2_with fail
          rw [← hwc]
          refine HLI.out.mono ?_
          rintro e w3 ⟨rfl, hb3⟩
          have HX3 := Lib.hid (And.intro (HX.out.1.keep hb3) (HX.out.2.trans (hb3.mono HX.out.2.size)))
          obtain ⟨D2, hD2⟩ : ∃ D2, D2 = LN ++ (⟨#[10]⟩ : ByteArray) := ⟨_, rfl⟩
          have HDD2 := Lib.hid hD2
          have sD2 : D2.size ≤ 81 := by rw [hD2, ByteArray.size_append]; have : (⟨#[10]⟩ : ByteArray).size = 1 := rfl; omega
          clear hb3 HX hD2
          go_wp2_with fail
          rw [← HDD2.out]
          refine (wStr_any w.heap.size w.heap.size _ D2 w3 HX3.out.1 (by
            rw [Lib.byteCells_length]
            have h1 := hTL.out
            obtain ⟨h2, h3, h4⟩ := HLL.out
            simp only [List.length_append, List.length_cons, List.length_nil]
            omega) HX3.out.2.size).mono ?_
          rintro e w4 ⟨rfl, hI4, hb4, _⟩
          have HB4 : Hid (IsB w.heap.size w.heap.size (Lib.byteCells (text (l.take k) ++ (heading f.id ++ [10]) ++ textF (f.fs.take (j + 1)))) w4 ∧ Below w.heap.size w w4) := Lib.hid (by
            refine ⟨?_, HX3.out.2.trans hb4⟩
            rw [HDD2.out, ← HY.out.2, show (⟨#[10]⟩ : ByteArray) = bs [10] from rfl, bs_append, strCells_bs] at hI4
            have e0 : textF (f.fs.take (j + 1)) = textF (f.fs.take j) ++ (lineF ⟨gk, gn, gf, gt⟩ ++ [10]) := by
              rw [take_succ_getD _ zf j hjl, ← HY.out.1]; simp [textF]
            rw [e0, ← List.append_assoc, byteCells_append]
            exact hI4)
          clear hI4 hb4 HX3
          go_wp2_with fail
          go_roundw
          case rel => exact ⟨j + 1, by omega, by go_num, HB4⟩
          case measure => simp [intOf]; omega
        · obtain rfl : j = m := by omega
          have HB5 : Hid (IsB w.heap.size w.heap.size (Lib.byteCells (text (l.take (k + 1)))) wr ∧ Below w.heap.size w wr) := Lib.hid (by
            refine ⟨?_, HJ.out.2⟩
            have h1 := HJ.out.1
            rw [HF.out.2.1, List.take_length] at h1
            have e0 : text (l.take (k + 1)) = text (l.take k) ++ (heading f.id ++ [10]) ++ textF f.fs := by
              rw [take_succ_getD _ zm k hkl, ← HF.out.1]; simp [text, textM]
            rw [e0]; exact h1)
          clear HJ
          go_wp2_with fail
          go_roundw
          case rel => exact ⟨k + 1, by omega, by go_num, HB5⟩
          case measure => simp [intOf]; omega
    · obtain rfl : k = n := by omega
      have HE : Hid (IsB w.heap.size w.heap.size (Lib.byteCells (text l)) wo ∧ Below w.heap.size w wo) := Lib.hid (by
        have := HI.out
        rwa [HN.out, List.take_length] at this)
      clear HI
      go_wp2_with fail
      refine (bString_any w.heap.size w.heap.size _ wo HE.out.1 HE.out.2.size).mono ?_
      rintro e w1 ⟨rfl, hb⟩
      have HB := Lib.hid (HE.out.2.trans hb)
      clear hb HE
      go_wp2_with fail
      go_ret
      exact ⟨rfl, HB.out⟩
theorem text_any (tb : Nat) (P : Nat → Prop) (s : St) (a : Addr) (w : World) (hN : Nice s.d) (hE : TabEnd w P tb s) (hT : Txt w a) :
    Calls Tryz.prog 40 #[adr tb] w fun e w' => e = .returned (.string (bs (text s.d))) ∧ Below w.heap.size w w' := by
  obtain ⟨vF, hc, htb, ⟨av, c, rfl, h0⟩ | ⟨b, off, cap, rfl, h1, h2, h3, h4, h5, h6⟩⟩ := hE.fms
  · rw [h0]
    clear hE hT hN h0
    go_enter Tryz.func40, Tryz.ntmps40
    go_wp2_with fail
    obtain ⟨W, hW⟩ : ∃ W, W = w.alloc (.cells #[.pointer none, .slice none 0 0] 99) := ⟨_, rfl⟩
    rw [← hW]
    have h0 : Hid (IsB w.heap.size w.heap.size (Lib.byteCells []) W ∧ Below w.heap.size w W) := Lib.hid (by
      rw [hW]
      exact ⟨.inl ⟨Nat.le_refl _, .slice none 0 0, heap_alloc_new _ _, World.ownsRow_nil _ _ _ _, by simp [Value.ownBlock]⟩, bx _⟩)
    clear hW
    refine wp_loop_rounds 1 ?_
    rw [rounds_succ]
    go_wp2_with fail
    refine (bString_any w.heap.size w.heap.size _ W h0.out.1 h0.out.2.size).mono ?_
    rintro e w1 ⟨rfl, hb⟩
    have HB := Lib.hid (h0.out.2.trans hb)
    clear hb h0
    go_wp2_with fail
    go_ret
    exact ⟨rfl, HB.out⟩
  · exact text_some tb b off cap s.d a w hN h1 h2 h3 h5 h6 hE.hasKinds hT hc htb

/-- What Print gives. -/
def printT (l : List Fm) : ByteArray := if vd l then bs (text l) else ⟨#[]⟩
def printE (l : List Fm) : Int := if vd l then 0 else 40
set_option maxHeartbeats 1000000 in
theorem Print_any (v : Value) (l : List Fm) (S : ByteArray) (z : Int) (er : Addr) (w : World) (hT : Txt w er) (hV : FmsAt (· < w.heap.size) w v l) (hI : IntsL l) (hS : printT l = S) (hz : printE l = z) :
    Calls Tryz.prog 24 #[v] w fun e w' => e = .returned (.tuple #[.string S, .int .i64 z]) ∧ Below w.heap.size w w' := by
  have HB := Lib.hid (build_any v l er w hT.err hV hI)
  have HT := Lib.hid hT
  obtain ⟨R, hR⟩ : ∃ R, R = buildO l := ⟨_, rfl⟩
  unfold printT at hS
  unfold printE at hz
  cases R with
  | none =>
    have hv : vd l = false := by unfold vd; rw [← hR]; rfl
    rw [hv] at hS hz
    simp only [Bool.false_eq_true, if_false] at hS hz
    subst hS
    subst hz
    have HR := Lib.hid hR
    clear hT hV hI hv hR
    go_enter Tryz.func24, Tryz.ntmps24
    go_wp2_with fail
    refine HB.out.mono ?_
    rintro e w1 ⟨⟨tb, rfl, _⟩, hB⟩
    rw [← HR.out]
    simp only [Option.isSome_none]
    have HB1 := Lib.hid hB
    clear hB
    go_wp2_with fail
    go_ret2
    exact ⟨rfl, HB1.out⟩
  | some s =>
    have hv : vd l = true := by unfold vd; rw [← hR]; rfl
    rw [hv] at hS hz
    simp only [if_true] at hS hz
    subst hz
    obtain ⟨hd, hok⟩ := build_some hR.symm
    have HS : Hid (bs (text s.d) = S ∧ Nice s.d) := Lib.hid ⟨by rw [hd]; exact hS, by rw [hd]; exact hok.nice⟩
    have HR := Lib.hid hR
    clear hT hV hI hv hR hd hok hS
    go_enter Tryz.func24, Tryz.ntmps24
    go_wp2_with fail
    refine HB.out.mono ?_
    rintro e w1 ⟨⟨tb, rfl, hTE⟩, hB⟩
    rw [← HR.out]
    simp only [Option.isSome_some]
    have HB1 := Lib.hid hB
    have HTE := Lib.hid (hTE s HR.out.symm)
    clear hB hTE
    go_wp2_with fail
    refine (text_any tb _ s er w1 HS.out.2 HTE.out (HT.out.below HB1.out)).mono ?_
    rintro e w2 ⟨rfl, hb2⟩
    rw [HS.out.1]
    have HB2 := Lib.hid (HB1.out.trans (hb2.mono HB1.out.size))
    clear hb2
    go_wp2_with fail
    go_ret2
    exact ⟨rfl, HB2.out⟩
end Go.Proofs.YtcnokccgdiodlaaGreatDoor
