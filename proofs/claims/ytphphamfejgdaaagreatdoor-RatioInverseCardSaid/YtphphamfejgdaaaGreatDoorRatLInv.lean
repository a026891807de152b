/- The law RatioInverse: it returns true. Conditions: ints; what the functions of texts read of memory; what is shown of sane. (Written by a program.) -/
import Derived.Test.YtphphamfejgdaaaGreatDoorRatT
import Derived.Lib.QuietBelow
namespace Go.Proofs.YtphphamfejgdaaaGreatDoor
open Go.RowKit

theorem below1001 (n : Int) : ∃ N : Int, n.tmod 1001 = N ∧ -1000 ≤ N ∧ N ≤ 1000 := by
  have h1 := Int.tmod_lt_of_pos n (show (0 : Int) < 1001 by decide)
  have h2 := Int.lt_tmod_of_pos n (show (0 : Int) < 1001 by decide)
  exact ⟨_, rfl, by omega, by omega⟩
theorem add_back (p q : Rat) : p + q - q = p := by rw [Rat.sub_eq_add_neg, Rat.add_assoc, Rat.add_neg_cancel, Rat.add_zero]
theorem mul_back (p q : Rat) (h : q ≠ 0) : p * q / q = p := by rw [Rat.div_def, Rat.mul_assoc, Rat.mul_inv_cancel _ h, Rat.mul_one]

set_option maxRecDepth 20000 in
set_option maxHeartbeats 4000000 in
theorem inv_law (hS : SaneSays) (x0 x1 x2 x3 x4 x5 : Int) (m n : Int) (er : Addr) (w : World) (hx0 : -9223372036854775808 ≤ x0 ∧ x0 ≤ 9223372036854775807) (hx1 : -9223372036854775808 ≤ x1 ∧ x1 ≤ 9223372036854775807) (hx2 : -9223372036854775808 ≤ x2 ∧ x2 ≤ 9223372036854775807) (hx3 : -9223372036854775808 ≤ x3 ∧ x3 ≤ 9223372036854775807) (hx4 : -9223372036854775808 ≤ x4 ∧ x4 ≤ 9223372036854775807) (hx5 : -9223372036854775808 ≤ x5 ∧ x5 ≤ 9223372036854775807) (hT : Txt w er) :
    Calls Tryz.prog 5 #[.agg #[.int .i64 x0, .int .i64 x1, .int .i64 x2, .int .i64 x3, .int .i64 x4, .int .i64 x5], .int .i64 m, .int .i64 n] w fun e w' => e = .returned (.bool true) ∧ Below w.heap.size w w' := by
  have HT := Lib.hid hT
  have HS := Lib.hid hS
  have HM := Lib.hid (And.intro hx0 (And.intro hx1 (And.intro hx2 (And.intro hx3 (And.intro hx4 hx5)))))
  have HB0 : Hid (Below w.heap.size w w) := Lib.hid (Below.refl _ _)
  clear hT hS hx0 hx1 hx2 hx3 hx4 hx5
  obtain ⟨M, hM, m1, m2⟩ := below1001 m
  obtain ⟨N, hN, n1, n2⟩ := below1001 n
  obtain ⟨SU, hSU⟩ : ∃ S, M + N = S := ⟨_, rfl⟩
  obtain ⟨PR, hPR⟩ : ∃ P, M * N = P := ⟨_, rfl⟩
  have s1 : -2000 ≤ SU := by omega
  have s2 : SU ≤ 2000 := by omega
  have hpb : PR.natAbs ≤ 1000 * 1000 := by rw [← hPR, Int.natAbs_mul]; exact Nat.mul_le_mul (by omega) (by omega)
  have p1 : -1000000 ≤ PR := by omega
  have p2 : PR ≤ 1000000 := by omega
  have IM : Hid (Is (M : Rat) M 1) := Lib.hid (Is.int (by omega) (by omega))
  have IN : Hid (Is (N : Rat) N 1) := Lib.hid (Is.int (by omega) (by omega))
  have IS : Hid (Is (SU : Rat) SU 1) := Lib.hid (Is.int (by omega) (by omega))
  have IPR : Hid (Is (PR : Rat) PR 1) := Lib.hid (Is.int (by omega) (by omega))
  have hA : Rt.fit ((M : Rat) + (N : Rat)) = some (SU : Rat) := by rw [← hSU]; exact Rt.fit_int_add (by omega) (by omega)
  have hP : Rt.fit ((M : Rat) * (N : Rat)) = some (PR : Rat) := by rw [← hPR]; exact Rt.fit_int_mul (by omega) (by omega)
  have HAP := Lib.hid (And.intro hA hP)
  have wS := IntWalk.i64_in SU ⟨by omega, by omega⟩
  have wP := IntWalk.i64_in PR ⟨by omega, by omega⟩
  clear hA hP hpb
  go_enter Tryz.func5, Tryz.ntmps5
  go_wp2_with fail
  obtain ⟨w', hwX⟩ : ∃ w', w' = w.alloc (Obj.cells #[Value.int IntKind.i64 x0, Value.int IntKind.i64 x1, Value.int IntKind.i64 x2, Value.int IntKind.i64 x3, Value.int IntKind.i64 x4, Value.int IntKind.i64 x5] 44) := ⟨_, rfl⟩
  rw [← hwX]
  have HB0' : Hid (Below w.heap.size w w') := Lib.hid (by rw [hwX]; exact HB0.out.alloc HB0.out.size _)
  have bX : Hid (RowAt w' w.heap.size x0 x1 x2 x3 x4 x5) := Lib.hid (by rw [hwX]; exact ⟨by simp [go_sem], by simp [go_sem], by simp [go_sem], by simp [go_sem], by simp [go_sem], by simp [go_sem]⟩)
  clear hwX HB0
  refine (HS.out er _ (HT.out.below HB0'.out)).mono ?_
  rintro e w1 ⟨rfl, hB⟩
  have HB1 : Hid (Below w.heap.size w w1) := Lib.hid (HB0'.out.trans (hB.mono HB0'.out.size))
  have bX' := Lib.hid (bX.out.below hB)
  clear hB bX HB0'
  have bX := bX'
  clear bX'
  go_wp2_with fail
  refine (make_any M 1 M 1 0 er _ (by omega) (by omega) (by decide) (by decide) (HT.out.below HB1.out).err (by rw [Rt.mk_int (by omega) (by omega)]; rfl) (by rw [Rt.mk_int (by omega) (by omega)]; rfl) (by rw [Rt.mk_int (by omega) (by omega)]; rfl)).mono ?_
  rintro e w2 ⟨rfl, hB⟩
  have HB2 : Hid (Below w.heap.size w w2) := Lib.hid (HB1.out.trans (hB.mono HB1.out.size))
  have bX' := Lib.hid (bX.out.below hB)
  clear hB bX HB1
  have bX := bX'
  clear bX'
  go_wp2_with fail
  obtain ⟨w2', hwP⟩ : ∃ w2', w2' = w2.alloc (Obj.cells #[Value.int IntKind.i64 M, Value.int IntKind.i64 1] 25) := ⟨_, rfl⟩
  rw [← hwP]
  have HB2' : Hid (Below w.heap.size w w2') := Lib.hid (by rw [hwP]; exact HB2.out.alloc HB2.out.size _)
  have bX' : Hid (RowAt w2' w.heap.size x0 x1 x2 x3 x4 x5) := Lib.hid (by rw [hwP]; exact bX.out.alloc _)
  clear bX
  have bX := bX'
  clear bX'
  have bP : Hid (BoxAt w2' w2.heap.size M 1) := Lib.hid (by rw [hwP]; exact ⟨by simp [go_sem], by simp [go_sem]⟩)
  clear hwP HB2
  refine (make_any N 1 N 1 0 er _ (by omega) (by omega) (by decide) (by decide) (HT.out.below HB2'.out).err (by rw [Rt.mk_int (by omega) (by omega)]; rfl) (by rw [Rt.mk_int (by omega) (by omega)]; rfl) (by rw [Rt.mk_int (by omega) (by omega)]; rfl)).mono ?_
  rintro e w3 ⟨rfl, hB⟩
  have HB3 : Hid (Below w.heap.size w w3) := Lib.hid (HB2'.out.trans (hB.mono HB2'.out.size))
  have bX' := Lib.hid (bX.out.below hB)
  have bP' := Lib.hid (bP.out.below hB)
  clear hB bX bP HB2'
  have bX := bX'
  clear bX'
  have bP := bP'
  clear bP'
  have qP0 := bP.out.c0
  have qP1 := bP.out.c1
  have qPl := World.block_lt_of_cell? (h := qP0)
  go_wp2_with fail
  obtain ⟨w3', hwQ⟩ : ∃ w3', w3' = w3.alloc (Obj.cells #[Value.int IntKind.i64 N, Value.int IntKind.i64 1] 25) := ⟨_, rfl⟩
  rw [← hwQ]
  have HB3' : Hid (Below w.heap.size w w3') := Lib.hid (by rw [hwQ]; exact HB3.out.alloc HB3.out.size _)
  have bX' : Hid (RowAt w3' w.heap.size x0 x1 x2 x3 x4 x5) := Lib.hid (by rw [hwQ]; exact bX.out.alloc _)
  clear bX
  have bX := bX'
  clear bX'
  have bP' : Hid (BoxAt w3' w2.heap.size M 1) := Lib.hid (by rw [hwQ]; exact bP.out.alloc _)
  clear bP
  have bP := bP'
  clear bP'
  have bQ : Hid (BoxAt w3' w3.heap.size N 1) := Lib.hid (by rw [hwQ]; exact ⟨by simp [go_sem], by simp [go_sem]⟩)
  clear hwQ HB3
  refine (addF (M : Rat) (N : Rat) _ M 1 N 1 SU 1 0 er _ IM.out IN.out (HT.out.below HB3'.out).err HAP.out.1 IS.out.parts).mono ?_
  rintro e w4 ⟨rfl, hB⟩
  have HB4 : Hid (Below w.heap.size w w4) := Lib.hid (HB3'.out.trans (hB.mono HB3'.out.size))
  have bX' := Lib.hid (bX.out.below hB)
  have bP' := Lib.hid (bP.out.below hB)
  have bQ' := Lib.hid (bQ.out.below hB)
  clear hB bX bP bQ qP0 qP1 qPl HB3'
  have bX := bX'
  clear bX'
  have bP := bP'
  clear bP'
  have bQ := bQ'
  clear bQ'
  have qP0 := bP.out.c0
  have qP1 := bP.out.c1
  have qPl := World.block_lt_of_cell? (h := qP0)
  have qQ0 := bQ.out.c0
  have qQ1 := bQ.out.c1
  have qQl := World.block_lt_of_cell? (h := qQ0)
  go_wp2_with fail
  obtain ⟨w4', hwS⟩ : ∃ w4', w4' = w4.alloc (Obj.cells #[Value.int IntKind.i64 SU, Value.int IntKind.i64 1] 25) := ⟨_, rfl⟩
  rw [← hwS]
  have HB4' : Hid (Below w.heap.size w w4') := Lib.hid (by rw [hwS]; exact HB4.out.alloc HB4.out.size _)
  have bX' : Hid (RowAt w4' w.heap.size x0 x1 x2 x3 x4 x5) := Lib.hid (by rw [hwS]; exact bX.out.alloc _)
  clear bX
  have bX := bX'
  clear bX'
  have bP' : Hid (BoxAt w4' w2.heap.size M 1) := Lib.hid (by rw [hwS]; exact bP.out.alloc _)
  clear bP
  have bP := bP'
  clear bP'
  have bQ' : Hid (BoxAt w4' w3.heap.size N 1) := Lib.hid (by rw [hwS]; exact bQ.out.alloc _)
  clear bQ
  have bQ := bQ'
  clear bQ'
  have bS : Hid (BoxAt w4' w4.heap.size SU 1) := Lib.hid (by rw [hwS]; exact ⟨by simp [go_sem], by simp [go_sem]⟩)
  clear hwS HB4
  refine (mulF (M : Rat) (N : Rat) _ M 1 N 1 PR 1 0 er _ IM.out IN.out (HT.out.below HB4'.out).err HAP.out.2 IPR.out.parts).mono ?_
  rintro e w5 ⟨rfl, hB⟩
  have HB5 : Hid (Below w.heap.size w w5) := Lib.hid (HB4'.out.trans (hB.mono HB4'.out.size))
  have bX' := Lib.hid (bX.out.below hB)
  have bP' := Lib.hid (bP.out.below hB)
  have bQ' := Lib.hid (bQ.out.below hB)
  have bS' := Lib.hid (bS.out.below hB)
  clear hB bX bP bQ bS qP0 qP1 qPl qQ0 qQ1 qQl HB4'
  have bX := bX'
  clear bX'
  have bP := bP'
  clear bP'
  have bQ := bQ'
  clear bQ'
  have bS := bS'
  clear bS'
  have qS0 := bS.out.c0
  have qS1 := bS.out.c1
  have qSl := World.block_lt_of_cell? (h := qS0)
  go_wp2_with fail
  obtain ⟨w5', hwT⟩ : ∃ w5', w5' = w5.alloc (Obj.cells #[Value.int IntKind.i64 PR, Value.int IntKind.i64 1] 25) := ⟨_, rfl⟩
  rw [← hwT]
  have HB5' : Hid (Below w.heap.size w w5') := Lib.hid (by rw [hwT]; exact HB5.out.alloc HB5.out.size _)
  have bX' : Hid (RowAt w5' w.heap.size x0 x1 x2 x3 x4 x5) := Lib.hid (by rw [hwT]; exact bX.out.alloc _)
  clear bX
  have bX := bX'
  clear bX'
  have bP' : Hid (BoxAt w5' w2.heap.size M 1) := Lib.hid (by rw [hwT]; exact bP.out.alloc _)
  clear bP
  have bP := bP'
  clear bP'
  have bQ' : Hid (BoxAt w5' w3.heap.size N 1) := Lib.hid (by rw [hwT]; exact bQ.out.alloc _)
  clear bQ
  have bQ := bQ'
  clear bQ'
  have bS' : Hid (BoxAt w5' w4.heap.size SU 1) := Lib.hid (by rw [hwT]; exact bS.out.alloc _)
  clear bS
  have bS := bS'
  clear bS'
  have bT : Hid (BoxAt w5' w5.heap.size PR 1) := Lib.hid (by rw [hwT]; exact ⟨by simp [go_sem], by simp [go_sem]⟩)
  clear hwT HB5
  clear qS0 qS1 qSl
  have qS0 := bS.out.c0
  have qS1 := bS.out.c1
  have qSl := World.block_lt_of_cell? (h := qS0)
  have qT0 := bT.out.c0
  have qT1 := bT.out.c1
  have qTl := World.block_lt_of_cell? (h := qT0)
  have gS0 : ∀ d os, (Sort.grow (redrawn w5' d) os).cell? ⟨w4.heap.size, 0, none⟩ = _ := fun d os => cell_regrown qS0 d os
  have gS1 : ∀ d os, (Sort.grow (redrawn w5' d) os).cell? ⟨w4.heap.size, 1, none⟩ = _ := fun d os => cell_regrown qS1 d os
  have gT0 : ∀ d os, (Sort.grow (redrawn w5' d) os).cell? ⟨w5.heap.size, 0, none⟩ = _ := fun d os => cell_regrown qT0 d os
  have gT1 : ∀ d os, (Sort.grow (redrawn w5' d) os).cell? ⟨w5.heap.size, 1, none⟩ = _ := fun d os => cell_regrown qT1 d os
  have HTW := Lib.hid (HT.out.below HB5'.out)
  refine wp_region_quiet_below (by kernel_rfl) (by kernel_rfl) ?_
  repeat (quiet_step (first | (go_at_call 9; exact Calls.regrown_of (is_any _ _ _))))
  refine wpQuiet_nil ?_
  intro _ hw'
  obtain ⟨⟨dq, osq⟩, hw''⟩ := hw'
  subst hw''
  have hB := below_regrown w5' dq osq
  obtain ⟨w6, hw⟩ : ∃ w6, w6 = Sort.grow (redrawn w5' dq) osq := ⟨_, rfl⟩
  rw [← hw] at hB ⊢
  have HB6 : Hid (Below w.heap.size w w6) := Lib.hid (HB5'.out.trans (hB.mono HB5'.out.size))
  have bX' := Lib.hid (bX.out.below hB)
  have bP' := Lib.hid (bP.out.below hB)
  have bQ' := Lib.hid (bQ.out.below hB)
  have bS' := Lib.hid (bS.out.below hB)
  have bT' := Lib.hid (bT.out.below hB)
  clear hB hw HTW gS0 gS1 gT0 gT1 bX bP bQ bS bT qS0 qS1 qSl qT0 qT1 qTl HB5'
  have bX := bX'
  clear bX'
  have bP := bP'
  clear bP'
  have bQ := bQ'
  clear bQ'
  have bS := bS'
  clear bS'
  have bT := bT'
  clear bT'
  clear bS
  clear bT
  clear bP
  clear bQ
  have qX0 := bX.out.c0
  have qX1 := bX.out.c1
  have qX2 := bX.out.c2
  have qX3 := bX.out.c3
  have qX4 := bX.out.c4
  have qX5 := bX.out.c5
  have qXl := World.block_lt_of_cell? (h := qX0)
  go_wp2_with fail
  clear bX
  refine (made_six x0 x1 x2 x3 x4 x5 er _ HM.out.1 HM.out.2.1 HM.out.2.2.1 HM.out.2.2.2.1 HM.out.2.2.2.2.1 HM.out.2.2.2.2.2 (HT.out.below HB6.out).err).mono ?_
  rintro e w7 ⟨⟨v, a, b, c, d, f, t, rfl, hV⟩, hB⟩
  have HB7 : Hid (Below w.heap.size w w7) := Lib.hid (HB6.out.trans (hB.mono HB6.out.size))
  clear hB qX0 qX1 qX2 qX3 qX4 qX5 qXl HB6
  have HV := Lib.hid hV
  clear hV
  cases v with
  | false =>
    clear HV
    go_wp2_with fail
    obtain ⟨w7', hwL⟩ : ∃ w7', w7' = w7.alloc (Obj.cells #[Value.int IntKind.i64 a, Value.int IntKind.i64 b, Value.int IntKind.i64 c, Value.int IntKind.i64 d, Value.int IntKind.i64 f, Value.int IntKind.i64 t] 45) := ⟨_, rfl⟩
    rw [← hwL]
    have HB7' : Hid (Below w.heap.size w w7') := Lib.hid (by rw [hwL]; exact HB7.out.alloc HB7.out.size _)
    have bL : Hid (RowAt w7' w7.heap.size a b c d f t) := Lib.hid (by rw [hwL]; exact ⟨by simp [go_sem], by simp [go_sem], by simp [go_sem], by simp [go_sem], by simp [go_sem], by simp [go_sem]⟩)
    clear hwL HB7
    go_ret
    exact ⟨rfl, HB7'.out⟩
  | true =>
    obtain ⟨p, q, r, hp, hq, hr⟩ := HV.out rfl
    have HP := Lib.hid hp
    have HQ := Lib.hid hq
    have HR := Lib.hid hr
    clear HV hp hq hr
    go_wp2_with fail
    obtain ⟨w7', hwL⟩ : ∃ w7', w7' = w7.alloc (Obj.cells #[Value.int IntKind.i64 a, Value.int IntKind.i64 b, Value.int IntKind.i64 c, Value.int IntKind.i64 d, Value.int IntKind.i64 f, Value.int IntKind.i64 t] 45) := ⟨_, rfl⟩
    rw [← hwL]
    have HB7' : Hid (Below w.heap.size w w7') := Lib.hid (by rw [hwL]; exact HB7.out.alloc HB7.out.size _)
    have bL : Hid (RowAt w7' w7.heap.size a b c d f t) := Lib.hid (by rw [hwL]; exact ⟨by simp [go_sem], by simp [go_sem], by simp [go_sem], by simp [go_sem], by simp [go_sem], by simp [go_sem]⟩)
    clear hwL HB7
    obtain ⟨Ax, Ay, Az, hA⟩ : ∃ x y z, Parts (Rt.fit (p + q)) x y z := ⟨_, _, _, Parts.of _⟩
    have HA := Lib.hid hA
    clear hA
    obtain ⟨Cx, Cy, Cz, hC⟩ : ∃ x y z, Parts (Rt.fit (p * q)) x y z := ⟨_, _, _, Parts.of _⟩
    have HC := Lib.hid hC
    clear hC
    refine (addF p q _ a b c d Ax Ay Az er _ HP.out HQ.out (HT.out.below HB7'.out).err rfl HA.out).mono ?_
    rintro e w8 ⟨rfl, hB⟩
    have HB8 : Hid (Below w.heap.size w w8) := Lib.hid (HB7'.out.trans (hB.mono HB7'.out.size))
    have bL' := Lib.hid (bL.out.below hB)
    clear hB bL HB7'
    have bL := bL'
    clear bL'
    rcases HA.out.err with rfl | rfl
    · have HIA := Lib.hid (HA.out.is rfl).1
      have qL0 := bL.out.c0
      have qL1 := bL.out.c1
      have qL2 := bL.out.c2
      have qL3 := bL.out.c3
      have qL4 := bL.out.c4
      have qL5 := bL.out.c5
      have qLl := World.block_lt_of_cell? (h := qL0)
      go_wp2_with fail
      obtain ⟨w8', hwA⟩ : ∃ w8', w8' = w8.alloc (Obj.cells #[Value.int IntKind.i64 Ax, Value.int IntKind.i64 Ay] 25) := ⟨_, rfl⟩
      rw [← hwA]
      have HB8' : Hid (Below w.heap.size w w8') := Lib.hid (by rw [hwA]; exact HB8.out.alloc HB8.out.size _)
      have bL' : Hid (RowAt w8' w7.heap.size a b c d f t) := Lib.hid (by rw [hwA]; exact bL.out.alloc _)
      clear bL
      have bL := bL'
      clear bL'
      have bA : Hid (BoxAt w8' w8.heap.size Ax Ay) := Lib.hid (by rw [hwA]; exact ⟨by simp [go_sem], by simp [go_sem]⟩)
      clear hwA HB8
      clear bA
      refine (subF (p + q) q (some p) Ax Ay c d a b 0 er _ HIA.out HQ.out (HT.out.below HB8'.out).err (by rw [add_back]; exact Rt.fit_of HP.out.fits) HP.out.parts).mono ?_
      rintro e w9 ⟨rfl, hB⟩
      have HB9 : Hid (Below w.heap.size w w9) := Lib.hid (HB8'.out.trans (hB.mono HB8'.out.size))
      have bL' := Lib.hid (bL.out.below hB)
      clear hB bL qL0 qL1 qL2 qL3 qL4 qL5 qLl HB8'
      have bL := bL'
      clear bL'
      have qL0 := bL.out.c0
      have qL1 := bL.out.c1
      have qL2 := bL.out.c2
      have qL3 := bL.out.c3
      have qL4 := bL.out.c4
      have qL5 := bL.out.c5
      have qLl := World.block_lt_of_cell? (h := qL0)
      go_wp2_with fail
      obtain ⟨w9', hwB⟩ : ∃ w9', w9' = w9.alloc (Obj.cells #[Value.int IntKind.i64 a, Value.int IntKind.i64 b] 25) := ⟨_, rfl⟩
      rw [← hwB]
      have HB9' : Hid (Below w.heap.size w w9') := Lib.hid (by rw [hwB]; exact HB9.out.alloc HB9.out.size _)
      have bL' : Hid (RowAt w9' w7.heap.size a b c d f t) := Lib.hid (by rw [hwB]; exact bL.out.alloc _)
      clear bL
      have bL := bL'
      clear bL'
      have bB : Hid (BoxAt w9' w9.heap.size a b) := Lib.hid (by rw [hwB]; exact ⟨by simp [go_sem], by simp [go_sem]⟩)
      clear hwB HB9
      clear bB
      refine (mulF p q _ a b c d Cx Cy Cz er _ HP.out HQ.out (HT.out.below HB9'.out).err rfl HC.out).mono ?_
      rintro e w10 ⟨rfl, hB⟩
      have HB10 : Hid (Below w.heap.size w w10) := Lib.hid (HB9'.out.trans (hB.mono HB9'.out.size))
      have bL' := Lib.hid (bL.out.below hB)
      clear hB bL qL0 qL1 qL2 qL3 qL4 qL5 qLl HB9'
      have bL := bL'
      clear bL'
      rcases HC.out.err with rfl | rfl
      · by_cases hc : c = 0
        · subst hc
          have qL0 := bL.out.c0
          have qL1 := bL.out.c1
          have qL2 := bL.out.c2
          have qL3 := bL.out.c3
          have qL4 := bL.out.c4
          have qL5 := bL.out.c5
          have qLl := World.block_lt_of_cell? (h := qL0)
          go_wp2_with fail
          obtain ⟨w10', hwC⟩ : ∃ w10', w10' = w10.alloc (Obj.cells #[Value.int IntKind.i64 Cx, Value.int IntKind.i64 Cy] 25) := ⟨_, rfl⟩
          rw [← hwC]
          have HB10' : Hid (Below w.heap.size w w10') := Lib.hid (by rw [hwC]; exact HB10.out.alloc HB10.out.size _)
          have bL' : Hid (RowAt w10' w7.heap.size a b 0 d f t) := Lib.hid (by rw [hwC]; exact bL.out.alloc _)
          clear bL
          have bL := bL'
          clear bL'
          have bC : Hid (BoxAt w10' w10.heap.size Cx Cy) := Lib.hid (by rw [hwC]; exact ⟨by simp [go_sem], by simp [go_sem]⟩)
          clear hwC HB10
          go_ret
          exact ⟨rfl, HB10'.out⟩
        · have hq0 : q ≠ 0 := fun h => hc (by rw [← HQ.out.num, h]; rfl)
          have HQ0 := Lib.hid hq0
          have hcn : (c == 0) = false := by rw [beq_eq_false_iff_ne]; exact hc
          have HIC := Lib.hid (HC.out.is rfl).1
          clear hq0
          have qL0 := bL.out.c0
          have qL1 := bL.out.c1
          have qL2 := bL.out.c2
          have qL3 := bL.out.c3
          have qL4 := bL.out.c4
          have qL5 := bL.out.c5
          have qLl := World.block_lt_of_cell? (h := qL0)
          go_wp2_with fail
          obtain ⟨w10', hwC⟩ : ∃ w10', w10' = w10.alloc (Obj.cells #[Value.int IntKind.i64 Cx, Value.int IntKind.i64 Cy] 25) := ⟨_, rfl⟩
          rw [← hwC]
          have HB10' : Hid (Below w.heap.size w w10') := Lib.hid (by rw [hwC]; exact HB10.out.alloc HB10.out.size _)
          have bL' : Hid (RowAt w10' w7.heap.size a b c d f t) := Lib.hid (by rw [hwC]; exact bL.out.alloc _)
          clear bL
          have bL := bL'
          clear bL'
          have bC : Hid (BoxAt w10' w10.heap.size Cx Cy) := Lib.hid (by rw [hwC]; exact ⟨by simp [go_sem], by simp [go_sem]⟩)
          clear hwC HB10
          clear bC
          refine (divF (p * q) q (some p) Cx Cy c d a b 0 er _ HIC.out HQ.out (HT.out.below HB10'.out).err (by rw [if_neg HQ0.out, mul_back p q HQ0.out]; exact Rt.fit_of HP.out.fits) HP.out.parts).mono ?_
          rintro e w11 ⟨rfl, hB⟩
          have HB11 : Hid (Below w.heap.size w w11) := Lib.hid (HB10'.out.trans (hB.mono HB10'.out.size))
          have bL' := Lib.hid (bL.out.below hB)
          clear hB bL qL0 qL1 qL2 qL3 qL4 qL5 qLl HB10'
          have bL := bL'
          clear bL'
          have qL0 := bL.out.c0
          have qL1 := bL.out.c1
          have qL2 := bL.out.c2
          have qL3 := bL.out.c3
          have qL4 := bL.out.c4
          have qL5 := bL.out.c5
          have qLl := World.block_lt_of_cell? (h := qL0)
          go_wp2_with fail
          obtain ⟨w11', hwD⟩ : ∃ w11', w11' = w11.alloc (Obj.cells #[Value.int IntKind.i64 a, Value.int IntKind.i64 b] 25) := ⟨_, rfl⟩
          rw [← hwD]
          have HB11' : Hid (Below w.heap.size w w11') := Lib.hid (by rw [hwD]; exact HB11.out.alloc HB11.out.size _)
          have bL' : Hid (RowAt w11' w7.heap.size a b c d f t) := Lib.hid (by rw [hwD]; exact bL.out.alloc _)
          clear bL
          have bL := bL'
          clear bL'
          have bD : Hid (BoxAt w11' w11.heap.size a b) := Lib.hid (by rw [hwD]; exact ⟨by simp [go_sem], by simp [go_sem]⟩)
          clear hwD HB11
          go_ret
          exact ⟨rfl, HB11'.out⟩
      · skip
        have qL0 := bL.out.c0
        have qL1 := bL.out.c1
        have qL2 := bL.out.c2
        have qL3 := bL.out.c3
        have qL4 := bL.out.c4
        have qL5 := bL.out.c5
        have qLl := World.block_lt_of_cell? (h := qL0)
        go_wp2_with fail
        obtain ⟨w10', hwC⟩ : ∃ w10', w10' = w10.alloc (Obj.cells #[Value.int IntKind.i64 Cx, Value.int IntKind.i64 Cy] 25) := ⟨_, rfl⟩
        rw [← hwC]
        have HB10' : Hid (Below w.heap.size w w10') := Lib.hid (by rw [hwC]; exact HB10.out.alloc HB10.out.size _)
        have bL' : Hid (RowAt w10' w7.heap.size a b c d f t) := Lib.hid (by rw [hwC]; exact bL.out.alloc _)
        clear bL
        have bL := bL'
        clear bL'
        have bC : Hid (BoxAt w10' w10.heap.size Cx Cy) := Lib.hid (by rw [hwC]; exact ⟨by simp [go_sem], by simp [go_sem]⟩)
        clear hwC HB10
        go_ret
        exact ⟨rfl, HB10'.out⟩
    · skip
      have qL0 := bL.out.c0
      have qL1 := bL.out.c1
      have qL2 := bL.out.c2
      have qL3 := bL.out.c3
      have qL4 := bL.out.c4
      have qL5 := bL.out.c5
      have qLl := World.block_lt_of_cell? (h := qL0)
      go_wp2_with fail
      obtain ⟨w8', hwA⟩ : ∃ w8', w8' = w8.alloc (Obj.cells #[Value.int IntKind.i64 Ax, Value.int IntKind.i64 Ay] 25) := ⟨_, rfl⟩
      rw [← hwA]
      have HB8' : Hid (Below w.heap.size w w8') := Lib.hid (by rw [hwA]; exact HB8.out.alloc HB8.out.size _)
      have bL' : Hid (RowAt w8' w7.heap.size a b c d f t) := Lib.hid (by rw [hwA]; exact bL.out.alloc _)
      clear bL
      have bL := bL'
      clear bL'
      have bA : Hid (BoxAt w8' w8.heap.size Ax Ay) := Lib.hid (by rw [hwA]; exact ⟨by simp [go_sem], by simp [go_sem]⟩)
      clear hwA HB8
      clear bA
      refine (mulF p q _ a b c d Cx Cy Cz er _ HP.out HQ.out (HT.out.below HB8'.out).err rfl HC.out).mono ?_
      rintro e w12 ⟨rfl, hB⟩
      have HB12 : Hid (Below w.heap.size w w12) := Lib.hid (HB8'.out.trans (hB.mono HB8'.out.size))
      have bL' := Lib.hid (bL.out.below hB)
      clear hB bL qL0 qL1 qL2 qL3 qL4 qL5 qLl HB8'
      have bL := bL'
      clear bL'
      rcases HC.out.err with rfl | rfl
      · by_cases hc : c = 0
        · subst hc
          have qL0 := bL.out.c0
          have qL1 := bL.out.c1
          have qL2 := bL.out.c2
          have qL3 := bL.out.c3
          have qL4 := bL.out.c4
          have qL5 := bL.out.c5
          have qLl := World.block_lt_of_cell? (h := qL0)
          go_wp2_with fail
          obtain ⟨w12', hwC⟩ : ∃ w12', w12' = w12.alloc (Obj.cells #[Value.int IntKind.i64 Cx, Value.int IntKind.i64 Cy] 25) := ⟨_, rfl⟩
          rw [← hwC]
          have HB12' : Hid (Below w.heap.size w w12') := Lib.hid (by rw [hwC]; exact HB12.out.alloc HB12.out.size _)
          have bL' : Hid (RowAt w12' w7.heap.size a b 0 d f t) := Lib.hid (by rw [hwC]; exact bL.out.alloc _)
          clear bL
          have bL := bL'
          clear bL'
          have bC : Hid (BoxAt w12' w12.heap.size Cx Cy) := Lib.hid (by rw [hwC]; exact ⟨by simp [go_sem], by simp [go_sem]⟩)
          clear hwC HB12
          go_ret
          exact ⟨rfl, HB12'.out⟩
        · have hq0 : q ≠ 0 := fun h => hc (by rw [← HQ.out.num, h]; rfl)
          have HQ0 := Lib.hid hq0
          have hcn : (c == 0) = false := by rw [beq_eq_false_iff_ne]; exact hc
          have HIC := Lib.hid (HC.out.is rfl).1
          clear hq0
          have qL0 := bL.out.c0
          have qL1 := bL.out.c1
          have qL2 := bL.out.c2
          have qL3 := bL.out.c3
          have qL4 := bL.out.c4
          have qL5 := bL.out.c5
          have qLl := World.block_lt_of_cell? (h := qL0)
          go_wp2_with fail
          obtain ⟨w12', hwC⟩ : ∃ w12', w12' = w12.alloc (Obj.cells #[Value.int IntKind.i64 Cx, Value.int IntKind.i64 Cy] 25) := ⟨_, rfl⟩
          rw [← hwC]
          have HB12' : Hid (Below w.heap.size w w12') := Lib.hid (by rw [hwC]; exact HB12.out.alloc HB12.out.size _)
          have bL' : Hid (RowAt w12' w7.heap.size a b c d f t) := Lib.hid (by rw [hwC]; exact bL.out.alloc _)
          clear bL
          have bL := bL'
          clear bL'
          have bC : Hid (BoxAt w12' w12.heap.size Cx Cy) := Lib.hid (by rw [hwC]; exact ⟨by simp [go_sem], by simp [go_sem]⟩)
          clear hwC HB12
          clear bC
          refine (divF (p * q) q (some p) Cx Cy c d a b 0 er _ HIC.out HQ.out (HT.out.below HB12'.out).err (by rw [if_neg HQ0.out, mul_back p q HQ0.out]; exact Rt.fit_of HP.out.fits) HP.out.parts).mono ?_
          rintro e w13 ⟨rfl, hB⟩
          have HB13 : Hid (Below w.heap.size w w13) := Lib.hid (HB12'.out.trans (hB.mono HB12'.out.size))
          have bL' := Lib.hid (bL.out.below hB)
          clear hB bL qL0 qL1 qL2 qL3 qL4 qL5 qLl HB12'
          have bL := bL'
          clear bL'
          have qL0 := bL.out.c0
          have qL1 := bL.out.c1
          have qL2 := bL.out.c2
          have qL3 := bL.out.c3
          have qL4 := bL.out.c4
          have qL5 := bL.out.c5
          have qLl := World.block_lt_of_cell? (h := qL0)
          go_wp2_with fail
          obtain ⟨w13', hwD⟩ : ∃ w13', w13' = w13.alloc (Obj.cells #[Value.int IntKind.i64 a, Value.int IntKind.i64 b] 25) := ⟨_, rfl⟩
          rw [← hwD]
          have HB13' : Hid (Below w.heap.size w w13') := Lib.hid (by rw [hwD]; exact HB13.out.alloc HB13.out.size _)
          have bL' : Hid (RowAt w13' w7.heap.size a b c d f t) := Lib.hid (by rw [hwD]; exact bL.out.alloc _)
          clear bL
          have bL := bL'
          clear bL'
          have bD : Hid (BoxAt w13' w13.heap.size a b) := Lib.hid (by rw [hwD]; exact ⟨by simp [go_sem], by simp [go_sem]⟩)
          clear hwD HB13
          go_ret
          exact ⟨rfl, HB13'.out⟩
      · skip
        have qL0 := bL.out.c0
        have qL1 := bL.out.c1
        have qL2 := bL.out.c2
        have qL3 := bL.out.c3
        have qL4 := bL.out.c4
        have qL5 := bL.out.c5
        have qLl := World.block_lt_of_cell? (h := qL0)
        go_wp2_with fail
        obtain ⟨w12', hwC⟩ : ∃ w12', w12' = w12.alloc (Obj.cells #[Value.int IntKind.i64 Cx, Value.int IntKind.i64 Cy] 25) := ⟨_, rfl⟩
        rw [← hwC]
        have HB12' : Hid (Below w.heap.size w w12') := Lib.hid (by rw [hwC]; exact HB12.out.alloc HB12.out.size _)
        have bL' : Hid (RowAt w12' w7.heap.size a b c d f t) := Lib.hid (by rw [hwC]; exact bL.out.alloc _)
        clear bL
        have bL := bL'
        clear bL'
        have bC : Hid (BoxAt w12' w12.heap.size Cx Cy) := Lib.hid (by rw [hwC]; exact ⟨by simp [go_sem], by simp [go_sem]⟩)
        clear hwC HB12
        go_ret
        exact ⟨rfl, HB12'.out⟩
end Go.Proofs.YtphphamfejgdaaaGreatDoor
