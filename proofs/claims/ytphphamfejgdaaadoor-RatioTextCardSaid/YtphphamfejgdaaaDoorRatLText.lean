/- The law RatioText: it returns true. Conditions: ints, a string; what the functions of texts read of memory; what is shown of sane. (Written by a program.) -/
import Derived.Test.YtphphamfejgdaaaDoorRatT
import Derived.Lib.QuietBelow
namespace Go.Proofs.YtphphamfejgdaaaDoor
open Go.RowKit

theorem textI_len (a b : Int) (ha : a.natAbs ≤ 1000000000) (hb : b.natAbs ≤ 1000000000) : (textI a b).length ≤ 23 := by
  have h1 := Rt.itoa_len a ha
  have h2 := Rt.itoa_len b hb
  unfold textI
  split
  · simp only [List.append_nil]; omega
  · simp only [List.length_append, List.length_cons]; omega
theorem run_min2 (ts : Array TypeId) (t : TypeId) (x y : Int) (W : World) : (Builtin.min_ ts t #[.int .i64 x, .int .i64 y]).run Tryd.prog W = .ok (.int .i64 (if y < x then y else x)) W := by
  simp [Builtin.min_, Builtin.min2]

set_option maxRecDepth 20000 in
set_option maxHeartbeats 4000000 in
theorem text_law (hS : SaneSays) (x0 x1 x2 x3 x4 x5 : Int) (s : ByteArray) (er : Addr) (w : World) (hx0 : -9223372036854775808 ≤ x0 ∧ x0 ≤ 9223372036854775807) (hx1 : -9223372036854775808 ≤ x1 ∧ x1 ≤ 9223372036854775807) (hx2 : -9223372036854775808 ≤ x2 ∧ x2 ≤ 9223372036854775807) (hx3 : -9223372036854775808 ≤ x3 ∧ x3 ≤ 9223372036854775807) (hx4 : -9223372036854775808 ≤ x4 ∧ x4 ≤ 9223372036854775807) (hx5 : -9223372036854775808 ≤ x5 ∧ x5 ≤ 9223372036854775807) (hs : s.size ≤ 9223372036854775807) (hT : Txt w er) :
    Calls Tryd.prog 8 #[.agg #[.int .i64 x0, .int .i64 x1, .int .i64 x2, .int .i64 x3, .int .i64 x4, .int .i64 x5], .string s] w fun e w' => e = .returned (.bool true) ∧ Below w.heap.size w w' := by
  have HT := Lib.hid hT
  have HS := Lib.hid hS
  have HM := Lib.hid (And.intro hx0 (And.intro hx1 (And.intro hx2 (And.intro hx3 (And.intro hx4 hx5)))))
  have HB0 : Hid (Below w.heap.size w w) := Lib.hid (Below.refl _ _)
  clear hT hS hx0 hx1 hx2 hx3 hx4 hx5
  obtain ⟨m, hm⟩ : ∃ m, m = min s.size 60 := ⟨_, rfl⟩
  have hm1 : m ≤ 60 := by omega
  have hm2 : m ≤ s.size := by omega
  have hmin : ∀ (ts : Array TypeId) (t : TypeId) (W : World), (Builtin.min_ ts t #[.int .i64 (s.size : Int), .int .i64 60]).run Tryd.prog W = .ok (.int .i64 (m : Int)) W := by
    intro ts t W
    rw [run_min2, hm]
    congr 2
    split <;> omega
  obtain ⟨S, hS0⟩ : ∃ S, s.extract 0 m = S := ⟨_, rfl⟩
  have hSs : S.size ≤ 1000 := by rw [← hS0]; simp; omega
  have HSS := Lib.hid hSs
  obtain ⟨o, ho⟩ : ∃ o, Rt.parseO S.data.toList = o := ⟨_, rfl⟩
  have HO := Lib.hid ho
  obtain ⟨x, y, z, hp⟩ : ∃ x y z, Parts o x y z := ⟨_, _, _, Parts.of _⟩
  have HPP := Lib.hid hp
  clear hm ho hp hSs
  go_enter Tryd.func8, Tryd.ntmps8
  go_wp2_with fail
  obtain ⟨w', hwX⟩ : ∃ w', w' = w.alloc (Obj.cells #[Value.int IntKind.i64 x0, Value.int IntKind.i64 x1, Value.int IntKind.i64 x2, Value.int IntKind.i64 x3, Value.int IntKind.i64 x4, Value.int IntKind.i64 x5] 23) := ⟨_, rfl⟩
  rw [← hwX]
  have HB0' : Hid (Below w.heap.size w w') := Lib.hid (by rw [hwX]; exact HB0.out.alloc HB0.out.size _)
  have bX : Hid (RowAt w' w.heap.size x0 x1 x2 x3 x4 x5) := Lib.hid (by rw [hwX]; exact ⟨by simp [go_sem], by simp [go_sem], by simp [go_sem], by simp [go_sem], by simp [go_sem], by simp [go_sem]⟩)
  clear hwX HB0
  refine (HS.out er _ (HT.out.below HB0'.out)).mono ?_
  rintro e w1 ⟨rfl, hB⟩
  have HB1 : Hid (Below w.heap.size w w1) := Lib.hid (HB0'.out.trans (hB.mono HB0'.out.size))
  have bX' := Lib.hid (bX.out.below hB)
  clear hB bX HB0'
  have bX := bX'
  clear bX'
  go_wp2_with fail
  refine (Parse_any S x y z er _ HSS.out (HT.out.below HB1.out) (by rw [HO.out]; exact HPP.out.nm) (by rw [HO.out]; exact HPP.out.dn) (by rw [HO.out]; exact HPP.out.er)).mono ?_
  rintro e w2 ⟨rfl, hB⟩
  have HB2 : Hid (Below w.heap.size w w2) := Lib.hid (HB1.out.trans (hB.mono HB1.out.size))
  have bX' := Lib.hid (bX.out.below hB)
  clear hB bX HB1
  have bX := bX'
  clear bX'
  rcases HPP.out.cases with ⟨rfl, k, hk, hx, hy⟩ | ⟨rfl, rfl, rfl, hno⟩
  · obtain ⟨hkf, hkt⟩ := Rt.parse_some (HO.out.trans hk)
    have HI : Hid (Is k x y) := Lib.hid ⟨hkf, hx, hy⟩
    have hpr : printO x y = some S := by
      unfold printO
      rw [HI.out.rd, if_pos (show (some k).isSome = true from rfl), ← HI.out.num, ← HI.out.den, textI_of, hkt]
    have HPR := Lib.hid hpr
    clear hk hx hy hkf hkt hpr HO HPP
    go_wp2_with fail
    obtain ⟨w2', hwA⟩ : ∃ w2', w2' = w2.alloc (Obj.cells #[Value.int IntKind.i64 x, Value.int IntKind.i64 y] 26) := ⟨_, rfl⟩
    rw [← hwA]
    have HB2' : Hid (Below w.heap.size w w2') := Lib.hid (by rw [hwA]; exact HB2.out.alloc HB2.out.size _)
    have bX' : Hid (RowAt w2' w.heap.size x0 x1 x2 x3 x4 x5) := Lib.hid (by rw [hwA]; exact bX.out.alloc _)
    clear bX
    have bX := bX'
    clear bX'
    have bA : Hid (BoxAt w2' w2.heap.size x y) := Lib.hid (by rw [hwA]; exact ⟨by simp [go_sem], by simp [go_sem]⟩)
    clear hwA HB2
    refine (Print_any x y S 0 er _ (by have := HI.out.bounds; omega) (by have := HI.out.bounds; omega) (by have := HI.out.bounds; omega) (by have := HI.out.bounds; omega) (HT.out.below HB2'.out) (by rw [HPR.out]; rfl) (by rw [HPR.out]; rfl)).mono ?_
    rintro e w3 ⟨rfl, hB⟩
    have HB3 : Hid (Below w.heap.size w w3) := Lib.hid (HB2'.out.trans (hB.mono HB2'.out.size))
    have bX' := Lib.hid (bX.out.below hB)
    have bA' := Lib.hid (bA.out.below hB)
    clear hB bX bA HB2'
    have bX := bX'
    clear bX'
    have bA := bA'
    clear bA'
    go_wp2_with fail
    go_quiet (fail)
    obtain ⟨w4, hw⟩ : ∃ w4, w4 = w3.drewN nq := ⟨_, rfl⟩
    rw [← hw]
    have hB : Below w3.heap.size w3 w4 := by rw [hw]; exact below_drewN (Below.refl _ _) _
    have HB4 : Hid (Below w.heap.size w w4) := Lib.hid (HB3.out.trans (hB.mono HB3.out.size))
    have bX' := Lib.hid (bX.out.below hB)
    have bA' := Lib.hid (bA.out.below hB)
    clear hB hw bX bA HB3
    have bX := bX'
    clear bX'
    have bA := bA'
    clear bA'
    clear bA
    have qX0 := bX.out.c0
    have qX1 := bX.out.c1
    have qX2 := bX.out.c2
    have qX3 := bX.out.c3
    have qX4 := bX.out.c4
    have qX5 := bX.out.c5
    have qXl := World.block_lt_of_cell? (h := qX0)
    go_wp2_with fail
    clear bX
    refine (made_six x0 x1 x2 x3 x4 x5 er _ HM.out.1 HM.out.2.1 HM.out.2.2.1 HM.out.2.2.2.1 HM.out.2.2.2.2.1 HM.out.2.2.2.2.2 (HT.out.below HB4.out).err).mono ?_
    rintro e w5 ⟨⟨v, a, b, c, d, f, t, rfl, hV⟩, hB⟩
    have HB5 : Hid (Below w.heap.size w w5) := Lib.hid (HB4.out.trans (hB.mono HB4.out.size))
    clear hB qX0 qX1 qX2 qX3 qX4 qX5 qXl HB4
    have HV := Lib.hid hV
    clear hV
    cases v with
    | false =>
      clear HV
      go_wp2_with fail
      obtain ⟨w5', hwL⟩ : ∃ w5', w5' = w5.alloc (Obj.cells #[Value.int IntKind.i64 a, Value.int IntKind.i64 b, Value.int IntKind.i64 c, Value.int IntKind.i64 d, Value.int IntKind.i64 f, Value.int IntKind.i64 t] 27) := ⟨_, rfl⟩
      rw [← hwL]
      have HB5' : Hid (Below w.heap.size w w5') := Lib.hid (by rw [hwL]; exact HB5.out.alloc HB5.out.size _)
      have bL : Hid (RowAt w5' w5.heap.size a b c d f t) := Lib.hid (by rw [hwL]; exact ⟨by simp [go_sem], by simp [go_sem], by simp [go_sem], by simp [go_sem], by simp [go_sem], by simp [go_sem]⟩)
      clear hwL HB5
      go_ret
      exact ⟨rfl, HB5'.out⟩
    | true =>
      obtain ⟨p, q, r, hp, hq, hr⟩ := HV.out rfl
      have HP := Lib.hid hp
      have HQ := Lib.hid hq
      have HR := Lib.hid hr
      clear HV hp hq hr
      go_wp2_with fail
      obtain ⟨w5', hwL⟩ : ∃ w5', w5' = w5.alloc (Obj.cells #[Value.int IntKind.i64 a, Value.int IntKind.i64 b, Value.int IntKind.i64 c, Value.int IntKind.i64 d, Value.int IntKind.i64 f, Value.int IntKind.i64 t] 27) := ⟨_, rfl⟩
      rw [← hwL]
      have HB5' : Hid (Below w.heap.size w w5') := Lib.hid (by rw [hwL]; exact HB5.out.alloc HB5.out.size _)
      have bL : Hid (RowAt w5' w5.heap.size a b c d f t) := Lib.hid (by rw [hwL]; exact ⟨by simp [go_sem], by simp [go_sem], by simp [go_sem], by simp [go_sem], by simp [go_sem], by simp [go_sem]⟩)
      clear hwL HB5
      obtain ⟨U, hU⟩ : ∃ U : ByteArray, ⟨(textI a b).toArray⟩ = U := ⟨_, rfl⟩
      have hpr2 : printO a b = some U := by
        unfold printO
        rw [HP.out.rd, if_pos (show (some p).isSome = true from rfl), hU]
      have hps2 : Rt.parseO U.data.toList = some p := by
        rw [← hU, ← HP.out.num, ← HP.out.den, textI_of]
        exact Rt.parse_text HP.out.fits
      have hUs : U.size ≤ 1000 := by
        rw [← hU]
        have h := textI_len a b (by have := HP.out.bounds; omega) (by have := HP.out.bounds; omega)
        exact Nat.le_trans h (by decide)
      have HPR2 := Lib.hid (And.intro hpr2 (And.intro hps2 hUs))
      clear hU hpr2 hps2 hUs
      refine (Print_any a b U 0 er _ (by have := HP.out.bounds; omega) (by have := HP.out.bounds; omega) (by have := HP.out.bounds; omega) (by have := HP.out.bounds; omega) (HT.out.below HB5'.out) (by rw [HPR2.out.1]; rfl) (by rw [HPR2.out.1]; rfl)).mono ?_
      rintro e w6 ⟨rfl, hB⟩
      have HB6 : Hid (Below w.heap.size w w6) := Lib.hid (HB5'.out.trans (hB.mono HB5'.out.size))
      have bL' := Lib.hid (bL.out.below hB)
      clear hB bL HB5'
      have bL := bL'
      clear bL'
      go_wp2_with fail
      refine (Parse_any U a b 0 er _ HPR2.out.2.2 (HT.out.below HB6.out) (by rw [HPR2.out.2.1]; exact HP.out.num) (by rw [HPR2.out.2.1]; exact HP.out.den) (by rw [HPR2.out.2.1]; rfl)).mono ?_
      rintro e w7 ⟨rfl, hB⟩
      have HB7 : Hid (Below w.heap.size w w7) := Lib.hid (HB6.out.trans (hB.mono HB6.out.size))
      have bL' := Lib.hid (bL.out.below hB)
      clear hB bL HB6
      have bL := bL'
      clear bL'
      have qL0 := bL.out.c0
      have qL1 := bL.out.c1
      have qL2 := bL.out.c2
      have qL3 := bL.out.c3
      have qL4 := bL.out.c4
      have qL5 := bL.out.c5
      have qLl := World.block_lt_of_cell? (h := qL0)
      go_wp2_with fail
      obtain ⟨w7', hwB⟩ : ∃ w7', w7' = w7.alloc (Obj.cells #[Value.int IntKind.i64 a, Value.int IntKind.i64 b] 26) := ⟨_, rfl⟩
      rw [← hwB]
      have HB7' : Hid (Below w.heap.size w w7') := Lib.hid (by rw [hwB]; exact HB7.out.alloc HB7.out.size _)
      have bL' : Hid (RowAt w7' w5.heap.size a b c d f t) := Lib.hid (by rw [hwB]; exact bL.out.alloc _)
      clear bL
      have bL := bL'
      clear bL'
      have bB : Hid (BoxAt w7' w7.heap.size a b) := Lib.hid (by rw [hwB]; exact ⟨by simp [go_sem], by simp [go_sem]⟩)
      clear hwB HB7
      obtain ⟨B, hBv⟩ : ∃ B, Rt.cmpR q r = B := ⟨_, rfl⟩
      obtain ⟨A1, hA1⟩ : ∃ A1, Rt.cmpR p q = A1 := ⟨_, rfl⟩
      obtain ⟨A2, hA2⟩ : ∃ A2, Rt.cmpR p r = A2 := ⟨_, rfl⟩
      have HBV := Lib.hid hBv
      have HA1 := Lib.hid hA1
      have HA2 := Lib.hid hA2
      clear hBv hA1 hA2
      by_cases h1 : A1 < 0
      · have HH := Lib.hid h1
        clear h1
        refine (clampF p q r a b c d f t c d er _ HP.out HQ.out HR.out (HT.out.below HB7'.out).err (by rw [HA1.out, HA2.out]; rw [if_pos HH.out]; exact HQ.out)).mono ?_
        rintro e w8 ⟨rfl, hB⟩
        have HB8 : Hid (Below w.heap.size w w8) := Lib.hid (HB7'.out.trans (hB.mono HB7'.out.size))
        have bL' := Lib.hid (bL.out.below hB)
        have bB' := Lib.hid (bB.out.below hB)
        clear hB bL bB qL0 qL1 qL2 qL3 qL4 qL5 qLl HB7'
        have bL := bL'
        clear bL'
        have bB := bB'
        clear bB'
        have qL0 := bL.out.c0
        have qL1 := bL.out.c1
        have qL2 := bL.out.c2
        have qL3 := bL.out.c3
        have qL4 := bL.out.c4
        have qL5 := bL.out.c5
        have qLl := World.block_lt_of_cell? (h := qL0)
        go_wp2_with fail
        obtain ⟨w8', hwC⟩ : ∃ w8', w8' = w8.alloc (Obj.cells #[Value.int IntKind.i64 c, Value.int IntKind.i64 d] 26) := ⟨_, rfl⟩
        rw [← hwC]
        have HB8' : Hid (Below w.heap.size w w8') := Lib.hid (by rw [hwC]; exact HB8.out.alloc HB8.out.size _)
        have bL' : Hid (RowAt w8' w5.heap.size a b c d f t) := Lib.hid (by rw [hwC]; exact bL.out.alloc _)
        clear bL
        have bL := bL'
        clear bL'
        have bB' : Hid (BoxAt w8' w7.heap.size a b) := Lib.hid (by rw [hwC]; exact bB.out.alloc _)
        clear bB
        have bB := bB'
        clear bB'
        have bC : Hid (BoxAt w8' w8.heap.size c d) := Lib.hid (by rw [hwC]; exact ⟨by simp [go_sem], by simp [go_sem]⟩)
        clear hwC HB8
        refine (cmpF q r c d f t B er _ HQ.out HR.out (HT.out.below HB8'.out).err HBV.out).mono ?_
        rintro e w9 ⟨rfl, hB⟩
        have HB9 : Hid (Below w.heap.size w w9) := Lib.hid (HB8'.out.trans (hB.mono HB8'.out.size))
        have bL' := Lib.hid (bL.out.below hB)
        have bB' := Lib.hid (bB.out.below hB)
        have bC' := Lib.hid (bC.out.below hB)
        clear hB bL bB bC qL0 qL1 qL2 qL3 qL4 qL5 qLl HB8'
        have bL := bL'
        clear bL'
        have bB := bB'
        clear bB'
        have bC := bC'
        clear bC'
        have qL0 := bL.out.c0
        have qL1 := bL.out.c1
        have qL2 := bL.out.c2
        have qL3 := bL.out.c3
        have qL4 := bL.out.c4
        have qL5 := bL.out.c5
        have qLl := World.block_lt_of_cell? (h := qL0)
        have qC0 := bC.out.c0
        have qC1 := bC.out.c1
        have qCl := World.block_lt_of_cell? (h := qC0)
        by_cases hb : 0 < B
        · skip
          have qB0 := bB.out.c0
          have qB1 := bB.out.c1
          have qBl := World.block_lt_of_cell? (h := qB0)
          go_wp2_with fail
          all_goals
            go_ret
            exact ⟨rfl, HB9.out⟩
        · skip
          go_wp2_with fail
          refine (cmpF q q c d c d 0 er _ HQ.out HQ.out (HT.out.below HB9.out).err (Rt.cmpR_eq.2 rfl)).mono ?_
          rintro e w10 ⟨rfl, hB⟩
          have HB10 : Hid (Below w.heap.size w w10) := Lib.hid (HB9.out.trans (hB.mono HB9.out.size))
          have bL' := Lib.hid (bL.out.below hB)
          have bB' := Lib.hid (bB.out.below hB)
          have bC' := Lib.hid (bC.out.below hB)
          clear hB bL bB bC qL0 qL1 qL2 qL3 qL4 qL5 qLl qC0 qC1 qCl HB9
          have bL := bL'
          clear bL'
          have bB := bB'
          clear bB'
          have bC := bC'
          clear bC'
          have qC0 := bC.out.c0
          have qC1 := bC.out.c1
          have qCl := World.block_lt_of_cell? (h := qC0)
          have qL0 := bL.out.c0
          have qL1 := bL.out.c1
          have qL2 := bL.out.c2
          have qL3 := bL.out.c3
          have qL4 := bL.out.c4
          have qL5 := bL.out.c5
          have qLl := World.block_lt_of_cell? (h := qL0)
          go_wp2_with fail
          refine (cmpF q r c d f t B er _ HQ.out HR.out (HT.out.below HB10.out).err HBV.out).mono ?_
          rintro e w11 ⟨rfl, hB⟩
          have HB11 : Hid (Below w.heap.size w w11) := Lib.hid (HB10.out.trans (hB.mono HB10.out.size))
          have bL' := Lib.hid (bL.out.below hB)
          have bB' := Lib.hid (bB.out.below hB)
          have bC' := Lib.hid (bC.out.below hB)
          clear hB bL bB bC qC0 qC1 qCl qL0 qL1 qL2 qL3 qL4 qL5 qLl HB10
          have bL := bL'
          clear bL'
          have bB := bB'
          clear bB'
          have bC := bC'
          clear bC'
          have qB0 := bB.out.c0
          have qB1 := bB.out.c1
          have qBl := World.block_lt_of_cell? (h := qB0)
          have qL0 := bL.out.c0
          have qL1 := bL.out.c1
          have qL2 := bL.out.c2
          have qL3 := bL.out.c3
          have qL4 := bL.out.c4
          have qL5 := bL.out.c5
          have qLl := World.block_lt_of_cell? (h := qL0)
          have qC0 := bC.out.c0
          have qC1 := bC.out.c1
          have qCl := World.block_lt_of_cell? (h := qC0)
          go_wp2_with fail
          all_goals
            go_ret
            exact ⟨rfl, HB11.out⟩
      · by_cases h2 : 0 < A2
        · have HH := Lib.hid (And.intro h1 h2)
          clear h1 h2
          refine (clampF p q r a b c d f t f t er _ HP.out HQ.out HR.out (HT.out.below HB7'.out).err (by rw [HA1.out, HA2.out]; rw [if_neg HH.out.1, if_pos HH.out.2]; exact HR.out)).mono ?_
          rintro e w12 ⟨rfl, hB⟩
          have HB12 : Hid (Below w.heap.size w w12) := Lib.hid (HB7'.out.trans (hB.mono HB7'.out.size))
          have bL' := Lib.hid (bL.out.below hB)
          have bB' := Lib.hid (bB.out.below hB)
          clear hB bL bB qL0 qL1 qL2 qL3 qL4 qL5 qLl HB7'
          have bL := bL'
          clear bL'
          have bB := bB'
          clear bB'
          have qL0 := bL.out.c0
          have qL1 := bL.out.c1
          have qL2 := bL.out.c2
          have qL3 := bL.out.c3
          have qL4 := bL.out.c4
          have qL5 := bL.out.c5
          have qLl := World.block_lt_of_cell? (h := qL0)
          go_wp2_with fail
          obtain ⟨w12', hwC⟩ : ∃ w12', w12' = w12.alloc (Obj.cells #[Value.int IntKind.i64 f, Value.int IntKind.i64 t] 26) := ⟨_, rfl⟩
          rw [← hwC]
          have HB12' : Hid (Below w.heap.size w w12') := Lib.hid (by rw [hwC]; exact HB12.out.alloc HB12.out.size _)
          have bL' : Hid (RowAt w12' w5.heap.size a b c d f t) := Lib.hid (by rw [hwC]; exact bL.out.alloc _)
          clear bL
          have bL := bL'
          clear bL'
          have bB' : Hid (BoxAt w12' w7.heap.size a b) := Lib.hid (by rw [hwC]; exact bB.out.alloc _)
          clear bB
          have bB := bB'
          clear bB'
          have bC : Hid (BoxAt w12' w12.heap.size f t) := Lib.hid (by rw [hwC]; exact ⟨by simp [go_sem], by simp [go_sem]⟩)
          clear hwC HB12
          refine (cmpF q r c d f t B er _ HQ.out HR.out (HT.out.below HB12'.out).err HBV.out).mono ?_
          rintro e w13 ⟨rfl, hB⟩
          have HB13 : Hid (Below w.heap.size w w13) := Lib.hid (HB12'.out.trans (hB.mono HB12'.out.size))
          have bL' := Lib.hid (bL.out.below hB)
          have bB' := Lib.hid (bB.out.below hB)
          have bC' := Lib.hid (bC.out.below hB)
          clear hB bL bB bC qL0 qL1 qL2 qL3 qL4 qL5 qLl HB12'
          have bL := bL'
          clear bL'
          have bB := bB'
          clear bB'
          have bC := bC'
          clear bC'
          have qL0 := bL.out.c0
          have qL1 := bL.out.c1
          have qL2 := bL.out.c2
          have qL3 := bL.out.c3
          have qL4 := bL.out.c4
          have qL5 := bL.out.c5
          have qLl := World.block_lt_of_cell? (h := qL0)
          have qC0 := bC.out.c0
          have qC1 := bC.out.c1
          have qCl := World.block_lt_of_cell? (h := qC0)
          by_cases hb : 0 < B
          · skip
            have qB0 := bB.out.c0
            have qB1 := bB.out.c1
            have qBl := World.block_lt_of_cell? (h := qB0)
            go_wp2_with fail
            all_goals
              go_ret
              exact ⟨rfl, HB13.out⟩
          · skip
            go_wp2_with fail
            refine (cmpF q r c d f t B er _ HQ.out HR.out (HT.out.below HB13.out).err HBV.out).mono ?_
            rintro e w14 ⟨rfl, hB⟩
            have HB14 : Hid (Below w.heap.size w w14) := Lib.hid (HB13.out.trans (hB.mono HB13.out.size))
            have bL' := Lib.hid (bL.out.below hB)
            have bB' := Lib.hid (bB.out.below hB)
            have bC' := Lib.hid (bC.out.below hB)
            clear hB bL bB bC qL0 qL1 qL2 qL3 qL4 qL5 qLl qC0 qC1 qCl HB13
            have bL := bL'
            clear bL'
            have bB := bB'
            clear bB'
            have bC := bC'
            clear bC'
            have qC0 := bC.out.c0
            have qC1 := bC.out.c1
            have qCl := World.block_lt_of_cell? (h := qC0)
            have qL0 := bL.out.c0
            have qL1 := bL.out.c1
            have qL2 := bL.out.c2
            have qL3 := bL.out.c3
            have qL4 := bL.out.c4
            have qL5 := bL.out.c5
            have qLl := World.block_lt_of_cell? (h := qL0)
            go_wp2_with fail
            refine (cmpF r r f t f t 0 er _ HR.out HR.out (HT.out.below HB14.out).err (Rt.cmpR_eq.2 rfl)).mono ?_
            rintro e w15 ⟨rfl, hB⟩
            have HB15 : Hid (Below w.heap.size w w15) := Lib.hid (HB14.out.trans (hB.mono HB14.out.size))
            have bL' := Lib.hid (bL.out.below hB)
            have bB' := Lib.hid (bB.out.below hB)
            have bC' := Lib.hid (bC.out.below hB)
            clear hB bL bB bC qC0 qC1 qCl qL0 qL1 qL2 qL3 qL4 qL5 qLl HB14
            have bL := bL'
            clear bL'
            have bB := bB'
            clear bB'
            have bC := bC'
            clear bC'
            have qB0 := bB.out.c0
            have qB1 := bB.out.c1
            have qBl := World.block_lt_of_cell? (h := qB0)
            have qL0 := bL.out.c0
            have qL1 := bL.out.c1
            have qL2 := bL.out.c2
            have qL3 := bL.out.c3
            have qL4 := bL.out.c4
            have qL5 := bL.out.c5
            have qLl := World.block_lt_of_cell? (h := qL0)
            have qC0 := bC.out.c0
            have qC1 := bC.out.c1
            have qCl := World.block_lt_of_cell? (h := qC0)
            go_wp2_with fail
            all_goals
              go_ret
              exact ⟨rfl, HB15.out⟩
        · have HH := Lib.hid (And.intro h1 h2)
          obtain ⟨A3, hA3⟩ : ∃ A3, Rt.cmpR q p = A3 := ⟨_, rfl⟩
          have hA30 : A3 ≤ 0 := by rw [← hA3, Rt.cmpR_neg, HA1.out]; omega
          have hA20 : A2 ≤ 0 := by omega
          have HA3 := Lib.hid hA3
          clear h1 h2 hA3
          refine (clampF p q r a b c d f t a b er _ HP.out HQ.out HR.out (HT.out.below HB7'.out).err (by rw [HA1.out, HA2.out]; rw [if_neg HH.out.1, if_neg HH.out.2]; exact HP.out)).mono ?_
          rintro e w16 ⟨rfl, hB⟩
          have HB16 : Hid (Below w.heap.size w w16) := Lib.hid (HB7'.out.trans (hB.mono HB7'.out.size))
          have bL' := Lib.hid (bL.out.below hB)
          have bB' := Lib.hid (bB.out.below hB)
          clear hB bL bB qL0 qL1 qL2 qL3 qL4 qL5 qLl HB7'
          have bL := bL'
          clear bL'
          have bB := bB'
          clear bB'
          have qL0 := bL.out.c0
          have qL1 := bL.out.c1
          have qL2 := bL.out.c2
          have qL3 := bL.out.c3
          have qL4 := bL.out.c4
          have qL5 := bL.out.c5
          have qLl := World.block_lt_of_cell? (h := qL0)
          go_wp2_with fail
          obtain ⟨w16', hwC⟩ : ∃ w16', w16' = w16.alloc (Obj.cells #[Value.int IntKind.i64 a, Value.int IntKind.i64 b] 26) := ⟨_, rfl⟩
          rw [← hwC]
          have HB16' : Hid (Below w.heap.size w w16') := Lib.hid (by rw [hwC]; exact HB16.out.alloc HB16.out.size _)
          have bL' : Hid (RowAt w16' w5.heap.size a b c d f t) := Lib.hid (by rw [hwC]; exact bL.out.alloc _)
          clear bL
          have bL := bL'
          clear bL'
          have bB' : Hid (BoxAt w16' w7.heap.size a b) := Lib.hid (by rw [hwC]; exact bB.out.alloc _)
          clear bB
          have bB := bB'
          clear bB'
          have bC : Hid (BoxAt w16' w16.heap.size a b) := Lib.hid (by rw [hwC]; exact ⟨by simp [go_sem], by simp [go_sem]⟩)
          clear hwC HB16
          refine (cmpF q r c d f t B er _ HQ.out HR.out (HT.out.below HB16'.out).err HBV.out).mono ?_
          rintro e w17 ⟨rfl, hB⟩
          have HB17 : Hid (Below w.heap.size w w17) := Lib.hid (HB16'.out.trans (hB.mono HB16'.out.size))
          have bL' := Lib.hid (bL.out.below hB)
          have bB' := Lib.hid (bB.out.below hB)
          have bC' := Lib.hid (bC.out.below hB)
          clear hB bL bB bC qL0 qL1 qL2 qL3 qL4 qL5 qLl HB16'
          have bL := bL'
          clear bL'
          have bB := bB'
          clear bB'
          have bC := bC'
          clear bC'
          have qL0 := bL.out.c0
          have qL1 := bL.out.c1
          have qL2 := bL.out.c2
          have qL3 := bL.out.c3
          have qL4 := bL.out.c4
          have qL5 := bL.out.c5
          have qLl := World.block_lt_of_cell? (h := qL0)
          have qC0 := bC.out.c0
          have qC1 := bC.out.c1
          have qCl := World.block_lt_of_cell? (h := qC0)
          by_cases hb : 0 < B
          · skip
            have qB0 := bB.out.c0
            have qB1 := bB.out.c1
            have qBl := World.block_lt_of_cell? (h := qB0)
            go_wp2_with fail
            all_goals
              go_ret
              exact ⟨rfl, HB17.out⟩
          · skip
            go_wp2_with fail
            refine (cmpF q p c d a b A3 er _ HQ.out HP.out (HT.out.below HB17.out).err HA3.out).mono ?_
            rintro e w18 ⟨rfl, hB⟩
            have HB18 : Hid (Below w.heap.size w w18) := Lib.hid (HB17.out.trans (hB.mono HB17.out.size))
            have bL' := Lib.hid (bL.out.below hB)
            have bB' := Lib.hid (bB.out.below hB)
            have bC' := Lib.hid (bC.out.below hB)
            clear hB bL bB bC qL0 qL1 qL2 qL3 qL4 qL5 qLl qC0 qC1 qCl HB17
            have bL := bL'
            clear bL'
            have bB := bB'
            clear bB'
            have bC := bC'
            clear bC'
            have qC0 := bC.out.c0
            have qC1 := bC.out.c1
            have qCl := World.block_lt_of_cell? (h := qC0)
            have qL0 := bL.out.c0
            have qL1 := bL.out.c1
            have qL2 := bL.out.c2
            have qL3 := bL.out.c3
            have qL4 := bL.out.c4
            have qL5 := bL.out.c5
            have qLl := World.block_lt_of_cell? (h := qL0)
            go_wp2_with fail
            refine (cmpF p r a b f t A2 er _ HP.out HR.out (HT.out.below HB18.out).err HA2.out).mono ?_
            rintro e w19 ⟨rfl, hB⟩
            have HB19 : Hid (Below w.heap.size w w19) := Lib.hid (HB18.out.trans (hB.mono HB18.out.size))
            have bL' := Lib.hid (bL.out.below hB)
            have bB' := Lib.hid (bB.out.below hB)
            have bC' := Lib.hid (bC.out.below hB)
            clear hB bL bB bC qC0 qC1 qCl qL0 qL1 qL2 qL3 qL4 qL5 qLl HB18
            have bL := bL'
            clear bL'
            have bB := bB'
            clear bB'
            have bC := bC'
            clear bC'
            have qB0 := bB.out.c0
            have qB1 := bB.out.c1
            have qBl := World.block_lt_of_cell? (h := qB0)
            have qL0 := bL.out.c0
            have qL1 := bL.out.c1
            have qL2 := bL.out.c2
            have qL3 := bL.out.c3
            have qL4 := bL.out.c4
            have qL5 := bL.out.c5
            have qLl := World.block_lt_of_cell? (h := qL0)
            have qC0 := bC.out.c0
            have qC1 := bC.out.c1
            have qCl := World.block_lt_of_cell? (h := qC0)
            go_wp2_with fail
            all_goals
              go_ret
              exact ⟨rfl, HB19.out⟩
  · clear HO HPP hno
    go_wp2_with fail
    obtain ⟨w2', hwA⟩ : ∃ w2', w2' = w2.alloc (Obj.cells #[Value.int IntKind.i64 0, Value.int IntKind.i64 0] 26) := ⟨_, rfl⟩
    rw [← hwA]
    have HB2' : Hid (Below w.heap.size w w2') := Lib.hid (by rw [hwA]; exact HB2.out.alloc HB2.out.size _)
    have bX' : Hid (RowAt w2' w.heap.size x0 x1 x2 x3 x4 x5) := Lib.hid (by rw [hwA]; exact bX.out.alloc _)
    clear bX
    have bX := bX'
    clear bX'
    have bA : Hid (BoxAt w2' w2.heap.size 0 0) := Lib.hid (by rw [hwA]; exact ⟨by simp [go_sem], by simp [go_sem]⟩)
    clear hwA HB2
    refine (Print_any 0 0 ⟨#[]⟩ 30 er _ (by decide) (by decide) (by decide) (by decide) (HT.out.below HB2'.out) (by unfold printO; rw [if_neg (by decide +kernel)]; rfl) (by unfold printO; rw [if_neg (by decide +kernel)]; rfl)).mono ?_
    rintro e w20 ⟨rfl, hB⟩
    have HB20 : Hid (Below w.heap.size w w20) := Lib.hid (HB2'.out.trans (hB.mono HB2'.out.size))
    have bX' := Lib.hid (bX.out.below hB)
    have bA' := Lib.hid (bA.out.below hB)
    clear hB bX bA HB2'
    have bX := bX'
    clear bX'
    have bA := bA'
    clear bA'
    go_wp2_with fail
    have qA0 := bA.out.c0
    have qA1 := bA.out.c1
    have qAl := World.block_lt_of_cell? (h := qA0)
    have gA0 : ∀ d os, (Sort.grow (redrawn w20 d) os).cell? ⟨w2.heap.size, 0, none⟩ = _ := fun d os => cell_regrown qA0 d os
    have gA1 : ∀ d os, (Sort.grow (redrawn w20 d) os).cell? ⟨w2.heap.size, 1, none⟩ = _ := fun d os => cell_regrown qA1 d os
    have HTW := Lib.hid (HT.out.below HB20.out)
    refine wp_region_quiet_below (by kernel_rfl) (by kernel_rfl) ?_
    repeat (quiet_step (first | (go_at_call 18; exact Calls.regrown_of (is_any 0 0 _))))
    refine wpQuiet_nil ?_
    intro _ hw'
    obtain ⟨⟨dq, osq⟩, hw''⟩ := hw'
    subst hw''
    have hB := below_regrown w20 dq osq
    obtain ⟨w21, hw⟩ : ∃ w21, w21 = Sort.grow (redrawn w20 dq) osq := ⟨_, rfl⟩
    rw [← hw] at hB ⊢
    have HB21 : Hid (Below w.heap.size w w21) := Lib.hid (HB20.out.trans (hB.mono HB20.out.size))
    have bX' := Lib.hid (bX.out.below hB)
    have bA' := Lib.hid (bA.out.below hB)
    clear hB hw HTW gA0 gA1 bX bA qA0 qA1 qAl HB20
    have bX := bX'
    clear bX'
    have bA := bA'
    clear bA'
    clear bA
    have qX0 := bX.out.c0
    have qX1 := bX.out.c1
    have qX2 := bX.out.c2
    have qX3 := bX.out.c3
    have qX4 := bX.out.c4
    have qX5 := bX.out.c5
    have qXl := World.block_lt_of_cell? (h := qX0)
    go_wp2_with fail
    clear bX
    refine (made_six x0 x1 x2 x3 x4 x5 er _ HM.out.1 HM.out.2.1 HM.out.2.2.1 HM.out.2.2.2.1 HM.out.2.2.2.2.1 HM.out.2.2.2.2.2 (HT.out.below HB21.out).err).mono ?_
    rintro e w22 ⟨⟨v, a, b, c, d, f, t, rfl, hV⟩, hB⟩
    have HB22 : Hid (Below w.heap.size w w22) := Lib.hid (HB21.out.trans (hB.mono HB21.out.size))
    clear hB qX0 qX1 qX2 qX3 qX4 qX5 qXl HB21
    have HV := Lib.hid hV
    clear hV
    cases v with
    | false =>
      clear HV
      go_wp2_with fail
      obtain ⟨w22', hwL⟩ : ∃ w22', w22' = w22.alloc (Obj.cells #[Value.int IntKind.i64 a, Value.int IntKind.i64 b, Value.int IntKind.i64 c, Value.int IntKind.i64 d, Value.int IntKind.i64 f, Value.int IntKind.i64 t] 27) := ⟨_, rfl⟩
      rw [← hwL]
      have HB22' : Hid (Below w.heap.size w w22') := Lib.hid (by rw [hwL]; exact HB22.out.alloc HB22.out.size _)
      have bL : Hid (RowAt w22' w22.heap.size a b c d f t) := Lib.hid (by rw [hwL]; exact ⟨by simp [go_sem], by simp [go_sem], by simp [go_sem], by simp [go_sem], by simp [go_sem], by simp [go_sem]⟩)
      clear hwL HB22
      go_ret
      exact ⟨rfl, HB22'.out⟩
    | true =>
      obtain ⟨p, q, r, hp, hq, hr⟩ := HV.out rfl
      have HP := Lib.hid hp
      have HQ := Lib.hid hq
      have HR := Lib.hid hr
      clear HV hp hq hr
      go_wp2_with fail
      obtain ⟨w22', hwL⟩ : ∃ w22', w22' = w22.alloc (Obj.cells #[Value.int IntKind.i64 a, Value.int IntKind.i64 b, Value.int IntKind.i64 c, Value.int IntKind.i64 d, Value.int IntKind.i64 f, Value.int IntKind.i64 t] 27) := ⟨_, rfl⟩
      rw [← hwL]
      have HB22' : Hid (Below w.heap.size w w22') := Lib.hid (by rw [hwL]; exact HB22.out.alloc HB22.out.size _)
      have bL : Hid (RowAt w22' w22.heap.size a b c d f t) := Lib.hid (by rw [hwL]; exact ⟨by simp [go_sem], by simp [go_sem], by simp [go_sem], by simp [go_sem], by simp [go_sem], by simp [go_sem]⟩)
      clear hwL HB22
      obtain ⟨U, hU⟩ : ∃ U : ByteArray, ⟨(textI a b).toArray⟩ = U := ⟨_, rfl⟩
      have hpr2 : printO a b = some U := by
        unfold printO
        rw [HP.out.rd, if_pos (show (some p).isSome = true from rfl), hU]
      have hps2 : Rt.parseO U.data.toList = some p := by
        rw [← hU, ← HP.out.num, ← HP.out.den, textI_of]
        exact Rt.parse_text HP.out.fits
      have hUs : U.size ≤ 1000 := by
        rw [← hU]
        have h := textI_len a b (by have := HP.out.bounds; omega) (by have := HP.out.bounds; omega)
        exact Nat.le_trans h (by decide)
      have HPR2 := Lib.hid (And.intro hpr2 (And.intro hps2 hUs))
      clear hU hpr2 hps2 hUs
      refine (Print_any a b U 0 er _ (by have := HP.out.bounds; omega) (by have := HP.out.bounds; omega) (by have := HP.out.bounds; omega) (by have := HP.out.bounds; omega) (HT.out.below HB22'.out) (by rw [HPR2.out.1]; rfl) (by rw [HPR2.out.1]; rfl)).mono ?_
      rintro e w23 ⟨rfl, hB⟩
      have HB23 : Hid (Below w.heap.size w w23) := Lib.hid (HB22'.out.trans (hB.mono HB22'.out.size))
      have bL' := Lib.hid (bL.out.below hB)
      clear hB bL HB22'
      have bL := bL'
      clear bL'
      go_wp2_with fail
      refine (Parse_any U a b 0 er _ HPR2.out.2.2 (HT.out.below HB23.out) (by rw [HPR2.out.2.1]; exact HP.out.num) (by rw [HPR2.out.2.1]; exact HP.out.den) (by rw [HPR2.out.2.1]; rfl)).mono ?_
      rintro e w24 ⟨rfl, hB⟩
      have HB24 : Hid (Below w.heap.size w w24) := Lib.hid (HB23.out.trans (hB.mono HB23.out.size))
      have bL' := Lib.hid (bL.out.below hB)
      clear hB bL HB23
      have bL := bL'
      clear bL'
      have qL0 := bL.out.c0
      have qL1 := bL.out.c1
      have qL2 := bL.out.c2
      have qL3 := bL.out.c3
      have qL4 := bL.out.c4
      have qL5 := bL.out.c5
      have qLl := World.block_lt_of_cell? (h := qL0)
      go_wp2_with fail
      obtain ⟨w24', hwB⟩ : ∃ w24', w24' = w24.alloc (Obj.cells #[Value.int IntKind.i64 a, Value.int IntKind.i64 b] 26) := ⟨_, rfl⟩
      rw [← hwB]
      have HB24' : Hid (Below w.heap.size w w24') := Lib.hid (by rw [hwB]; exact HB24.out.alloc HB24.out.size _)
      have bL' : Hid (RowAt w24' w22.heap.size a b c d f t) := Lib.hid (by rw [hwB]; exact bL.out.alloc _)
      clear bL
      have bL := bL'
      clear bL'
      have bB : Hid (BoxAt w24' w24.heap.size a b) := Lib.hid (by rw [hwB]; exact ⟨by simp [go_sem], by simp [go_sem]⟩)
      clear hwB HB24
      obtain ⟨B, hBv⟩ : ∃ B, Rt.cmpR q r = B := ⟨_, rfl⟩
      obtain ⟨A1, hA1⟩ : ∃ A1, Rt.cmpR p q = A1 := ⟨_, rfl⟩
      obtain ⟨A2, hA2⟩ : ∃ A2, Rt.cmpR p r = A2 := ⟨_, rfl⟩
      have HBV := Lib.hid hBv
      have HA1 := Lib.hid hA1
      have HA2 := Lib.hid hA2
      clear hBv hA1 hA2
      by_cases h1 : A1 < 0
      · have HH := Lib.hid h1
        clear h1
        refine (clampF p q r a b c d f t c d er _ HP.out HQ.out HR.out (HT.out.below HB24'.out).err (by rw [HA1.out, HA2.out]; rw [if_pos HH.out]; exact HQ.out)).mono ?_
        rintro e w25 ⟨rfl, hB⟩
        have HB25 : Hid (Below w.heap.size w w25) := Lib.hid (HB24'.out.trans (hB.mono HB24'.out.size))
        have bL' := Lib.hid (bL.out.below hB)
        have bB' := Lib.hid (bB.out.below hB)
        clear hB bL bB qL0 qL1 qL2 qL3 qL4 qL5 qLl HB24'
        have bL := bL'
        clear bL'
        have bB := bB'
        clear bB'
        have qL0 := bL.out.c0
        have qL1 := bL.out.c1
        have qL2 := bL.out.c2
        have qL3 := bL.out.c3
        have qL4 := bL.out.c4
        have qL5 := bL.out.c5
        have qLl := World.block_lt_of_cell? (h := qL0)
        go_wp2_with fail
        obtain ⟨w25', hwC⟩ : ∃ w25', w25' = w25.alloc (Obj.cells #[Value.int IntKind.i64 c, Value.int IntKind.i64 d] 26) := ⟨_, rfl⟩
        rw [← hwC]
        have HB25' : Hid (Below w.heap.size w w25') := Lib.hid (by rw [hwC]; exact HB25.out.alloc HB25.out.size _)
        have bL' : Hid (RowAt w25' w22.heap.size a b c d f t) := Lib.hid (by rw [hwC]; exact bL.out.alloc _)
        clear bL
        have bL := bL'
        clear bL'
        have bB' : Hid (BoxAt w25' w24.heap.size a b) := Lib.hid (by rw [hwC]; exact bB.out.alloc _)
        clear bB
        have bB := bB'
        clear bB'
        have bC : Hid (BoxAt w25' w25.heap.size c d) := Lib.hid (by rw [hwC]; exact ⟨by simp [go_sem], by simp [go_sem]⟩)
        clear hwC HB25
        refine (cmpF q r c d f t B er _ HQ.out HR.out (HT.out.below HB25'.out).err HBV.out).mono ?_
        rintro e w26 ⟨rfl, hB⟩
        have HB26 : Hid (Below w.heap.size w w26) := Lib.hid (HB25'.out.trans (hB.mono HB25'.out.size))
        have bL' := Lib.hid (bL.out.below hB)
        have bB' := Lib.hid (bB.out.below hB)
        have bC' := Lib.hid (bC.out.below hB)
        clear hB bL bB bC qL0 qL1 qL2 qL3 qL4 qL5 qLl HB25'
        have bL := bL'
        clear bL'
        have bB := bB'
        clear bB'
        have bC := bC'
        clear bC'
        have qL0 := bL.out.c0
        have qL1 := bL.out.c1
        have qL2 := bL.out.c2
        have qL3 := bL.out.c3
        have qL4 := bL.out.c4
        have qL5 := bL.out.c5
        have qLl := World.block_lt_of_cell? (h := qL0)
        have qC0 := bC.out.c0
        have qC1 := bC.out.c1
        have qCl := World.block_lt_of_cell? (h := qC0)
        by_cases hb : 0 < B
        · skip
          have qB0 := bB.out.c0
          have qB1 := bB.out.c1
          have qBl := World.block_lt_of_cell? (h := qB0)
          go_wp2_with fail
          all_goals
            go_ret
            exact ⟨rfl, HB26.out⟩
        · skip
          go_wp2_with fail
          refine (cmpF q q c d c d 0 er _ HQ.out HQ.out (HT.out.below HB26.out).err (Rt.cmpR_eq.2 rfl)).mono ?_
          rintro e w27 ⟨rfl, hB⟩
          have HB27 : Hid (Below w.heap.size w w27) := Lib.hid (HB26.out.trans (hB.mono HB26.out.size))
          have bL' := Lib.hid (bL.out.below hB)
          have bB' := Lib.hid (bB.out.below hB)
          have bC' := Lib.hid (bC.out.below hB)
          clear hB bL bB bC qL0 qL1 qL2 qL3 qL4 qL5 qLl qC0 qC1 qCl HB26
          have bL := bL'
          clear bL'
          have bB := bB'
          clear bB'
          have bC := bC'
          clear bC'
          have qC0 := bC.out.c0
          have qC1 := bC.out.c1
          have qCl := World.block_lt_of_cell? (h := qC0)
          have qL0 := bL.out.c0
          have qL1 := bL.out.c1
          have qL2 := bL.out.c2
          have qL3 := bL.out.c3
          have qL4 := bL.out.c4
          have qL5 := bL.out.c5
          have qLl := World.block_lt_of_cell? (h := qL0)
          go_wp2_with fail
          refine (cmpF q r c d f t B er _ HQ.out HR.out (HT.out.below HB27.out).err HBV.out).mono ?_
          rintro e w28 ⟨rfl, hB⟩
          have HB28 : Hid (Below w.heap.size w w28) := Lib.hid (HB27.out.trans (hB.mono HB27.out.size))
          have bL' := Lib.hid (bL.out.below hB)
          have bB' := Lib.hid (bB.out.below hB)
          have bC' := Lib.hid (bC.out.below hB)
          clear hB bL bB bC qC0 qC1 qCl qL0 qL1 qL2 qL3 qL4 qL5 qLl HB27
          have bL := bL'
          clear bL'
          have bB := bB'
          clear bB'
          have bC := bC'
          clear bC'
          have qB0 := bB.out.c0
          have qB1 := bB.out.c1
          have qBl := World.block_lt_of_cell? (h := qB0)
          have qL0 := bL.out.c0
          have qL1 := bL.out.c1
          have qL2 := bL.out.c2
          have qL3 := bL.out.c3
          have qL4 := bL.out.c4
          have qL5 := bL.out.c5
          have qLl := World.block_lt_of_cell? (h := qL0)
          have qC0 := bC.out.c0
          have qC1 := bC.out.c1
          have qCl := World.block_lt_of_cell? (h := qC0)
          go_wp2_with fail
          all_goals
            go_ret
            exact ⟨rfl, HB28.out⟩
      · by_cases h2 : 0 < A2
        · have HH := Lib.hid (And.intro h1 h2)
          clear h1 h2
          refine (clampF p q r a b c d f t f t er _ HP.out HQ.out HR.out (HT.out.below HB24'.out).err (by rw [HA1.out, HA2.out]; rw [if_neg HH.out.1, if_pos HH.out.2]; exact HR.out)).mono ?_
          rintro e w29 ⟨rfl, hB⟩
          have HB29 : Hid (Below w.heap.size w w29) := Lib.hid (HB24'.out.trans (hB.mono HB24'.out.size))
          have bL' := Lib.hid (bL.out.below hB)
          have bB' := Lib.hid (bB.out.below hB)
          clear hB bL bB qL0 qL1 qL2 qL3 qL4 qL5 qLl HB24'
          have bL := bL'
          clear bL'
          have bB := bB'
          clear bB'
          have qL0 := bL.out.c0
          have qL1 := bL.out.c1
          have qL2 := bL.out.c2
          have qL3 := bL.out.c3
          have qL4 := bL.out.c4
          have qL5 := bL.out.c5
          have qLl := World.block_lt_of_cell? (h := qL0)
          go_wp2_with fail
          obtain ⟨w29', hwC⟩ : ∃ w29', w29' = w29.alloc (Obj.cells #[Value.int IntKind.i64 f, Value.int IntKind.i64 t] 26) := ⟨_, rfl⟩
          rw [← hwC]
          have HB29' : Hid (Below w.heap.size w w29') := Lib.hid (by rw [hwC]; exact HB29.out.alloc HB29.out.size _)
          have bL' : Hid (RowAt w29' w22.heap.size a b c d f t) := Lib.hid (by rw [hwC]; exact bL.out.alloc _)
          clear bL
          have bL := bL'
          clear bL'
          have bB' : Hid (BoxAt w29' w24.heap.size a b) := Lib.hid (by rw [hwC]; exact bB.out.alloc _)
          clear bB
          have bB := bB'
          clear bB'
          have bC : Hid (BoxAt w29' w29.heap.size f t) := Lib.hid (by rw [hwC]; exact ⟨by simp [go_sem], by simp [go_sem]⟩)
          clear hwC HB29
          refine (cmpF q r c d f t B er _ HQ.out HR.out (HT.out.below HB29'.out).err HBV.out).mono ?_
          rintro e w30 ⟨rfl, hB⟩
          have HB30 : Hid (Below w.heap.size w w30) := Lib.hid (HB29'.out.trans (hB.mono HB29'.out.size))
          have bL' := Lib.hid (bL.out.below hB)
          have bB' := Lib.hid (bB.out.below hB)
          have bC' := Lib.hid (bC.out.below hB)
          clear hB bL bB bC qL0 qL1 qL2 qL3 qL4 qL5 qLl HB29'
          have bL := bL'
          clear bL'
          have bB := bB'
          clear bB'
          have bC := bC'
          clear bC'
          have qL0 := bL.out.c0
          have qL1 := bL.out.c1
          have qL2 := bL.out.c2
          have qL3 := bL.out.c3
          have qL4 := bL.out.c4
          have qL5 := bL.out.c5
          have qLl := World.block_lt_of_cell? (h := qL0)
          have qC0 := bC.out.c0
          have qC1 := bC.out.c1
          have qCl := World.block_lt_of_cell? (h := qC0)
          by_cases hb : 0 < B
          · skip
            have qB0 := bB.out.c0
            have qB1 := bB.out.c1
            have qBl := World.block_lt_of_cell? (h := qB0)
            go_wp2_with fail
            all_goals
              go_ret
              exact ⟨rfl, HB30.out⟩
          · skip
            go_wp2_with fail
            refine (cmpF q r c d f t B er _ HQ.out HR.out (HT.out.below HB30.out).err HBV.out).mono ?_
            rintro e w31 ⟨rfl, hB⟩
            have HB31 : Hid (Below w.heap.size w w31) := Lib.hid (HB30.out.trans (hB.mono HB30.out.size))
            have bL' := Lib.hid (bL.out.below hB)
            have bB' := Lib.hid (bB.out.below hB)
            have bC' := Lib.hid (bC.out.below hB)
            clear hB bL bB bC qL0 qL1 qL2 qL3 qL4 qL5 qLl qC0 qC1 qCl HB30
            have bL := bL'
            clear bL'
            have bB := bB'
            clear bB'
            have bC := bC'
            clear bC'
            have qC0 := bC.out.c0
            have qC1 := bC.out.c1
            have qCl := World.block_lt_of_cell? (h := qC0)
            have qL0 := bL.out.c0
            have qL1 := bL.out.c1
            have qL2 := bL.out.c2
            have qL3 := bL.out.c3
            have qL4 := bL.out.c4
            have qL5 := bL.out.c5
            have qLl := World.block_lt_of_cell? (h := qL0)
            go_wp2_with fail
            refine (cmpF r r f t f t 0 er _ HR.out HR.out (HT.out.below HB31.out).err (Rt.cmpR_eq.2 rfl)).mono ?_
            rintro e w32 ⟨rfl, hB⟩
            have HB32 : Hid (Below w.heap.size w w32) := Lib.hid (HB31.out.trans (hB.mono HB31.out.size))
            have bL' := Lib.hid (bL.out.below hB)
            have bB' := Lib.hid (bB.out.below hB)
            have bC' := Lib.hid (bC.out.below hB)
            clear hB bL bB bC qC0 qC1 qCl qL0 qL1 qL2 qL3 qL4 qL5 qLl HB31
            have bL := bL'
            clear bL'
            have bB := bB'
            clear bB'
            have bC := bC'
            clear bC'
            have qB0 := bB.out.c0
            have qB1 := bB.out.c1
            have qBl := World.block_lt_of_cell? (h := qB0)
            have qL0 := bL.out.c0
            have qL1 := bL.out.c1
            have qL2 := bL.out.c2
            have qL3 := bL.out.c3
            have qL4 := bL.out.c4
            have qL5 := bL.out.c5
            have qLl := World.block_lt_of_cell? (h := qL0)
            have qC0 := bC.out.c0
            have qC1 := bC.out.c1
            have qCl := World.block_lt_of_cell? (h := qC0)
            go_wp2_with fail
            all_goals
              go_ret
              exact ⟨rfl, HB32.out⟩
        · have HH := Lib.hid (And.intro h1 h2)
          obtain ⟨A3, hA3⟩ : ∃ A3, Rt.cmpR q p = A3 := ⟨_, rfl⟩
          have hA30 : A3 ≤ 0 := by rw [← hA3, Rt.cmpR_neg, HA1.out]; omega
          have hA20 : A2 ≤ 0 := by omega
          have HA3 := Lib.hid hA3
          clear h1 h2 hA3
          refine (clampF p q r a b c d f t a b er _ HP.out HQ.out HR.out (HT.out.below HB24'.out).err (by rw [HA1.out, HA2.out]; rw [if_neg HH.out.1, if_neg HH.out.2]; exact HP.out)).mono ?_
          rintro e w33 ⟨rfl, hB⟩
          have HB33 : Hid (Below w.heap.size w w33) := Lib.hid (HB24'.out.trans (hB.mono HB24'.out.size))
          have bL' := Lib.hid (bL.out.below hB)
          have bB' := Lib.hid (bB.out.below hB)
          clear hB bL bB qL0 qL1 qL2 qL3 qL4 qL5 qLl HB24'
          have bL := bL'
          clear bL'
          have bB := bB'
          clear bB'
          have qL0 := bL.out.c0
          have qL1 := bL.out.c1
          have qL2 := bL.out.c2
          have qL3 := bL.out.c3
          have qL4 := bL.out.c4
          have qL5 := bL.out.c5
          have qLl := World.block_lt_of_cell? (h := qL0)
          go_wp2_with fail
          obtain ⟨w33', hwC⟩ : ∃ w33', w33' = w33.alloc (Obj.cells #[Value.int IntKind.i64 a, Value.int IntKind.i64 b] 26) := ⟨_, rfl⟩
          rw [← hwC]
          have HB33' : Hid (Below w.heap.size w w33') := Lib.hid (by rw [hwC]; exact HB33.out.alloc HB33.out.size _)
          have bL' : Hid (RowAt w33' w22.heap.size a b c d f t) := Lib.hid (by rw [hwC]; exact bL.out.alloc _)
          clear bL
          have bL := bL'
          clear bL'
          have bB' : Hid (BoxAt w33' w24.heap.size a b) := Lib.hid (by rw [hwC]; exact bB.out.alloc _)
          clear bB
          have bB := bB'
          clear bB'
          have bC : Hid (BoxAt w33' w33.heap.size a b) := Lib.hid (by rw [hwC]; exact ⟨by simp [go_sem], by simp [go_sem]⟩)
          clear hwC HB33
          refine (cmpF q r c d f t B er _ HQ.out HR.out (HT.out.below HB33'.out).err HBV.out).mono ?_
          rintro e w34 ⟨rfl, hB⟩
          have HB34 : Hid (Below w.heap.size w w34) := Lib.hid (HB33'.out.trans (hB.mono HB33'.out.size))
          have bL' := Lib.hid (bL.out.below hB)
          have bB' := Lib.hid (bB.out.below hB)
          have bC' := Lib.hid (bC.out.below hB)
          clear hB bL bB bC qL0 qL1 qL2 qL3 qL4 qL5 qLl HB33'
          have bL := bL'
          clear bL'
          have bB := bB'
          clear bB'
          have bC := bC'
          clear bC'
          have qL0 := bL.out.c0
          have qL1 := bL.out.c1
          have qL2 := bL.out.c2
          have qL3 := bL.out.c3
          have qL4 := bL.out.c4
          have qL5 := bL.out.c5
          have qLl := World.block_lt_of_cell? (h := qL0)
          have qC0 := bC.out.c0
          have qC1 := bC.out.c1
          have qCl := World.block_lt_of_cell? (h := qC0)
          by_cases hb : 0 < B
          · skip
            have qB0 := bB.out.c0
            have qB1 := bB.out.c1
            have qBl := World.block_lt_of_cell? (h := qB0)
            go_wp2_with fail
            all_goals
              go_ret
              exact ⟨rfl, HB34.out⟩
          · skip
            go_wp2_with fail
            refine (cmpF q p c d a b A3 er _ HQ.out HP.out (HT.out.below HB34.out).err HA3.out).mono ?_
            rintro e w35 ⟨rfl, hB⟩
            have HB35 : Hid (Below w.heap.size w w35) := Lib.hid (HB34.out.trans (hB.mono HB34.out.size))
            have bL' := Lib.hid (bL.out.below hB)
            have bB' := Lib.hid (bB.out.below hB)
            have bC' := Lib.hid (bC.out.below hB)
            clear hB bL bB bC qL0 qL1 qL2 qL3 qL4 qL5 qLl qC0 qC1 qCl HB34
            have bL := bL'
            clear bL'
            have bB := bB'
            clear bB'
            have bC := bC'
            clear bC'
            have qC0 := bC.out.c0
            have qC1 := bC.out.c1
            have qCl := World.block_lt_of_cell? (h := qC0)
            have qL0 := bL.out.c0
            have qL1 := bL.out.c1
            have qL2 := bL.out.c2
            have qL3 := bL.out.c3
            have qL4 := bL.out.c4
            have qL5 := bL.out.c5
            have qLl := World.block_lt_of_cell? (h := qL0)
            go_wp2_with fail
            refine (cmpF p r a b f t A2 er _ HP.out HR.out (HT.out.below HB35.out).err HA2.out).mono ?_
            rintro e w36 ⟨rfl, hB⟩
            have HB36 : Hid (Below w.heap.size w w36) := Lib.hid (HB35.out.trans (hB.mono HB35.out.size))
            have bL' := Lib.hid (bL.out.below hB)
            have bB' := Lib.hid (bB.out.below hB)
            have bC' := Lib.hid (bC.out.below hB)
            clear hB bL bB bC qC0 qC1 qCl qL0 qL1 qL2 qL3 qL4 qL5 qLl HB35
            have bL := bL'
            clear bL'
            have bB := bB'
            clear bB'
            have bC := bC'
            clear bC'
            have qB0 := bB.out.c0
            have qB1 := bB.out.c1
            have qBl := World.block_lt_of_cell? (h := qB0)
            have qL0 := bL.out.c0
            have qL1 := bL.out.c1
            have qL2 := bL.out.c2
            have qL3 := bL.out.c3
            have qL4 := bL.out.c4
            have qL5 := bL.out.c5
            have qLl := World.block_lt_of_cell? (h := qL0)
            have qC0 := bC.out.c0
            have qC1 := bC.out.c1
            have qCl := World.block_lt_of_cell? (h := qC0)
            go_wp2_with fail
            all_goals
              go_ret
              exact ⟨rfl, HB36.out⟩
end Go.Proofs.YtphphamfejgdaaaDoor
