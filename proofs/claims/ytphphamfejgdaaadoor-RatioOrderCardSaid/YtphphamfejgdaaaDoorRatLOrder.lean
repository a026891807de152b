/- The law RatioOrder: it returns true. Conditions: ints; what the functions of texts read of memory; what is shown of sane. (Written by a program.) -/
import Derived.Test.YtphphamfejgdaaaDoorRatT
namespace Go.Proofs.YtphphamfejgdaaaDoor
open Go.RowKit

set_option maxRecDepth 20000 in
set_option maxHeartbeats 4000000 in
theorem order_law (hS : SaneSays) (x0 x1 x2 x3 x4 x5 : Int) (er : Addr) (w : World) (hx0 : -9223372036854775808 ≤ x0 ∧ x0 ≤ 9223372036854775807) (hx1 : -9223372036854775808 ≤ x1 ∧ x1 ≤ 9223372036854775807) (hx2 : -9223372036854775808 ≤ x2 ∧ x2 ≤ 9223372036854775807) (hx3 : -9223372036854775808 ≤ x3 ∧ x3 ≤ 9223372036854775807) (hx4 : -9223372036854775808 ≤ x4 ∧ x4 ≤ 9223372036854775807) (hx5 : -9223372036854775808 ≤ x5 ∧ x5 ≤ 9223372036854775807) (hT : Txt w er) :
    Calls Tryd.prog 5 #[.agg #[.int .i64 x0, .int .i64 x1, .int .i64 x2, .int .i64 x3, .int .i64 x4, .int .i64 x5]] w fun e w' => e = .returned (.bool true) ∧ Below w.heap.size w w' := by
  have HT := Lib.hid hT
  have HS := Lib.hid hS
  have HM := Lib.hid (And.intro hx0 (And.intro hx1 (And.intro hx2 (And.intro hx3 (And.intro hx4 hx5)))))
  have HB0 : Hid (Below w.heap.size w w) := Lib.hid (Below.refl _ _)
  clear hT hS hx0 hx1 hx2 hx3 hx4 hx5
  go_enter Tryd.func5, Tryd.ntmps5
  go_wp2_with fail
  obtain ⟨w', hwX⟩ : ∃ w', w' = w.alloc (Obj.cells #[Value.int IntKind.i64 x0, Value.int IntKind.i64 x1, Value.int IntKind.i64 x2, Value.int IntKind.i64 x3, Value.int IntKind.i64 x4, Value.int IntKind.i64 x5] 23) := ⟨_, rfl⟩
  rw [← hwX]
  have HB0' : Hid (Below w.heap.size w w') := Lib.hid (by rw [hwX]; exact HB0.out.alloc HB0.out.size _)
  have bX : Hid (RowAt w' w.heap.size x0 x1 x2 x3 x4 x5) := Lib.hid (by rw [hwX]; exact ⟨by simp [go_sem], by simp [go_sem], by simp [go_sem], by simp [go_sem], by simp [go_sem], by simp [go_sem]⟩)
  clear hwX HB0
  refine (HS.out er _ (HT.out.below HB0'.out)).mono ?_
  rintro e w1 ⟨rfl, hB⟩
  have HB1 : Hid (Below w.heap.size w w1) := Lib.hid (HB0'.out.trans (hB.mono HB0'.out.size))
  have bX' := Lib.hid (bX.out.below hB)
  clear hB bX HB0'
  have bX := bX'
  clear bX'
  have qX0 := bX.out.c0
  have qX1 := bX.out.c1
  have qX2 := bX.out.c2
  have qX3 := bX.out.c3
  have qX4 := bX.out.c4
  have qX5 := bX.out.c5
  have qXl := World.block_lt_of_cell? (h := qX0)
  go_wp2_with fail
  clear bX
  refine (made_six x0 x1 x2 x3 x4 x5 er _ HM.out.1 HM.out.2.1 HM.out.2.2.1 HM.out.2.2.2.1 HM.out.2.2.2.2.1 HM.out.2.2.2.2.2 (HT.out.below HB1.out).err).mono ?_
  rintro e w2 ⟨⟨v, a, b, c, d, f, t, rfl, hV⟩, hB⟩
  have HB2 : Hid (Below w.heap.size w w2) := Lib.hid (HB1.out.trans (hB.mono HB1.out.size))
  clear hB qX0 qX1 qX2 qX3 qX4 qX5 qXl HB1
  have HV := Lib.hid hV
  clear hV
  cases v with
  | false =>
    clear HV
    go_wp2_with fail
    obtain ⟨w2', hwL⟩ : ∃ w2', w2' = w2.alloc (Obj.cells #[Value.int IntKind.i64 a, Value.int IntKind.i64 b, Value.int IntKind.i64 c, Value.int IntKind.i64 d, Value.int IntKind.i64 f, Value.int IntKind.i64 t] 27) := ⟨_, rfl⟩
    rw [← hwL]
    have HB2' : Hid (Below w.heap.size w w2') := Lib.hid (by rw [hwL]; exact HB2.out.alloc HB2.out.size _)
    have bL : Hid (RowAt w2' w2.heap.size a b c d f t) := Lib.hid (by rw [hwL]; exact ⟨by simp [go_sem], by simp [go_sem], by simp [go_sem], by simp [go_sem], by simp [go_sem], by simp [go_sem]⟩)
    clear hwL HB2
    go_ret
    exact ⟨rfl, HB2'.out⟩
  | true =>
    obtain ⟨p, q, r, hp, hq, hr⟩ := HV.out rfl
    have HP := Lib.hid hp
    have HQ := Lib.hid hq
    have HR := Lib.hid hr
    clear HV hp hq hr
    go_wp2_with fail
    obtain ⟨w2', hwL⟩ : ∃ w2', w2' = w2.alloc (Obj.cells #[Value.int IntKind.i64 a, Value.int IntKind.i64 b, Value.int IntKind.i64 c, Value.int IntKind.i64 d, Value.int IntKind.i64 f, Value.int IntKind.i64 t] 27) := ⟨_, rfl⟩
    rw [← hwL]
    have HB2' : Hid (Below w.heap.size w w2') := Lib.hid (by rw [hwL]; exact HB2.out.alloc HB2.out.size _)
    have bL : Hid (RowAt w2' w2.heap.size a b c d f t) := Lib.hid (by rw [hwL]; exact ⟨by simp [go_sem], by simp [go_sem], by simp [go_sem], by simp [go_sem], by simp [go_sem], by simp [go_sem]⟩)
    clear hwL HB2
    obtain ⟨B, hB0⟩ : ∃ B, Rt.cmpR q r = B := ⟨_, rfl⟩
    obtain ⟨C, hC0⟩ : ∃ C, Rt.cmpR p r = C := ⟨_, rfl⟩
    have HBV := Lib.hid hB0
    have HCV := Lib.hid hC0
    clear hB0 hC0
    obtain ⟨Dx, Dy, Dz, hD⟩ : ∃ x y z, Parts (Rt.fit (q - p)) x y z := ⟨_, _, _, Parts.of _⟩
    have HD := Lib.hid hD
    clear hD
    rcases Rt.cmpR_cases p q with ⟨ha, -⟩ | ⟨ha, hpq⟩ | ⟨ha, -⟩
    · have HAV := Lib.hid ha
      have hne : ¬ (a = c ∧ b = d) := by
        rintro ⟨rfl, rfl⟩
        have h := HP.out.eq HQ.out
        rw [Rt.cmpR_eq.2 h] at ha
        exact absurd ha (by decide)
      clear ha
      by_cases hac : a = c
      · subst hac
        have hbd : ¬ b = d := fun h => hne ⟨rfl, h⟩
        clear hne
        have qL0 := bL.out.c0
        have qL1 := bL.out.c1
        have qL2 := bL.out.c2
        have qL3 := bL.out.c3
        have qL4 := bL.out.c4
        have qL5 := bL.out.c5
        have qLl := World.block_lt_of_cell? (h := qL0)
        refine (cmpF p q a b a d (-1) er _ HP.out HQ.out (HT.out.below HB2'.out).err HAV.out).mono ?_
        rintro e w3 ⟨rfl, hB⟩
        have HB3 : Hid (Below w.heap.size w w3) := Lib.hid (HB2'.out.trans (hB.mono HB2'.out.size))
        have bL' := Lib.hid (bL.out.below hB)
        clear hB bL qL0 qL1 qL2 qL3 qL4 qL5 qLl HB2'
        have bL := bL'
        clear bL'
        have qL0 := bL.out.c0
        have qL1 := bL.out.c1
        have qL2 := bL.out.c2
        have qL3 := bL.out.c3
        have qL4 := bL.out.c4
        have qL5 := bL.out.c5
        have qLl := World.block_lt_of_cell? (h := qL0)
        go_wp2_with fail
        refine (cmpF q r a d f t B er _ HQ.out HR.out (HT.out.below HB3.out).err HBV.out).mono ?_
        rintro e w4 ⟨rfl, hB⟩
        have HB4 : Hid (Below w.heap.size w w4) := Lib.hid (HB3.out.trans (hB.mono HB3.out.size))
        have bL' := Lib.hid (bL.out.below hB)
        clear hB bL qL0 qL1 qL2 qL3 qL4 qL5 qLl HB3
        have bL := bL'
        clear bL'
        have qL0 := bL.out.c0
        have qL1 := bL.out.c1
        have qL2 := bL.out.c2
        have qL3 := bL.out.c3
        have qL4 := bL.out.c4
        have qL5 := bL.out.c5
        have qLl := World.block_lt_of_cell? (h := qL0)
        go_wp2_with fail
        refine (cmpF p r a b f t C er _ HP.out HR.out (HT.out.below HB4.out).err HCV.out).mono ?_
        rintro e w5 ⟨rfl, hB⟩
        have HB5 : Hid (Below w.heap.size w w5) := Lib.hid (HB4.out.trans (hB.mono HB4.out.size))
        have bL' := Lib.hid (bL.out.below hB)
        clear hB bL qL0 qL1 qL2 qL3 qL4 qL5 qLl HB4
        have bL := bL'
        clear bL'
        have qL0 := bL.out.c0
        have qL1 := bL.out.c1
        have qL2 := bL.out.c2
        have qL3 := bL.out.c3
        have qL4 := bL.out.c4
        have qL5 := bL.out.c5
        have qLl := World.block_lt_of_cell? (h := qL0)
        go_wp2_with fail
        refine (cmpF q p a d a b 1 er _ HQ.out HP.out (HT.out.below HB5.out).err (by rw [Rt.cmpR_neg, HAV.out]; first | done | rfl)).mono ?_
        rintro e w6 ⟨rfl, hB⟩
        have HB6 : Hid (Below w.heap.size w w6) := Lib.hid (HB5.out.trans (hB.mono HB5.out.size))
        have bL' := Lib.hid (bL.out.below hB)
        clear hB bL qL0 qL1 qL2 qL3 qL4 qL5 qLl HB5
        have bL := bL'
        clear bL'
        by_cases hb : B ≤ 0
        · have ht := Rt.cmpR_trans p q r (by rw [HAV.out]; decide) (by rw [HBV.out]; exact hb)
          rw [HCV.out, HAV.out] at ht
          have hc : C ≤ 0 := ht.1
          have hc2 : C < 0 := ht.2 (by decide)
          clear ht
          have qL0 := bL.out.c0
          have qL1 := bL.out.c1
          have qL2 := bL.out.c2
          have qL3 := bL.out.c3
          have qL4 := bL.out.c4
          have qL5 := bL.out.c5
          have qLl := World.block_lt_of_cell? (h := qL0)
          go_wp2_with fail
          clear bL
          refine (subF q p _ a d a b Dx Dy Dz er _ HQ.out HP.out (HT.out.below HB6.out).err rfl HD.out).mono ?_
          rintro e w7 ⟨rfl, hB⟩
          have HB7 : Hid (Below w.heap.size w w7) := Lib.hid (HB6.out.trans (hB.mono HB6.out.size))
          clear hB qL0 qL1 qL2 qL3 qL4 qL5 qLl HB6
          rcases HD.out.err with rfl | rfl
          · have hn : (q - p).num = Dx := (HD.out.is rfl).1.num
            have hs := Rt.sub_num p q
            rw [HAV.out, hn] at hs
            have d1 : 0 < Dx := hs.1.1 rfl
            have d2 : (Dx == 0) = false := by simp; omega
            clear hn hs
            go_wp2_with fail
            obtain ⟨w7', hwD⟩ : ∃ w7', w7' = w7.alloc (Obj.cells #[Value.int IntKind.i64 Dx, Value.int IntKind.i64 Dy] 26) := ⟨_, rfl⟩
            rw [← hwD]
            have HB7' : Hid (Below w.heap.size w w7') := Lib.hid (by rw [hwD]; exact HB7.out.alloc HB7.out.size _)
            have bD : Hid (BoxAt w7' w7.heap.size Dx Dy) := Lib.hid (by rw [hwD]; exact ⟨by simp [go_sem], by simp [go_sem]⟩)
            clear hwD HB7
            go_ret
            exact ⟨rfl, HB7'.out⟩
          · skip
            go_wp2_with fail
            obtain ⟨w7', hwD⟩ : ∃ w7', w7' = w7.alloc (Obj.cells #[Value.int IntKind.i64 Dx, Value.int IntKind.i64 Dy] 26) := ⟨_, rfl⟩
            rw [← hwD]
            have HB7' : Hid (Below w.heap.size w w7') := Lib.hid (by rw [hwD]; exact HB7.out.alloc HB7.out.size _)
            have bD : Hid (BoxAt w7' w7.heap.size Dx Dy) := Lib.hid (by rw [hwD]; exact ⟨by simp [go_sem], by simp [go_sem]⟩)
            clear hwD HB7
            go_ret
            exact ⟨rfl, HB7'.out⟩
        · skip
          have qL0 := bL.out.c0
          have qL1 := bL.out.c1
          have qL2 := bL.out.c2
          have qL3 := bL.out.c3
          have qL4 := bL.out.c4
          have qL5 := bL.out.c5
          have qLl := World.block_lt_of_cell? (h := qL0)
          go_wp2_with fail
          clear bL
          refine (subF q p _ a d a b Dx Dy Dz er _ HQ.out HP.out (HT.out.below HB6.out).err rfl HD.out).mono ?_
          rintro e w8 ⟨rfl, hB⟩
          have HB8 : Hid (Below w.heap.size w w8) := Lib.hid (HB6.out.trans (hB.mono HB6.out.size))
          clear hB qL0 qL1 qL2 qL3 qL4 qL5 qLl HB6
          rcases HD.out.err with rfl | rfl
          · have hn : (q - p).num = Dx := (HD.out.is rfl).1.num
            have hs := Rt.sub_num p q
            rw [HAV.out, hn] at hs
            have d1 : 0 < Dx := hs.1.1 rfl
            have d2 : (Dx == 0) = false := by simp; omega
            clear hn hs
            go_wp2_with fail
            obtain ⟨w8', hwD⟩ : ∃ w8', w8' = w8.alloc (Obj.cells #[Value.int IntKind.i64 Dx, Value.int IntKind.i64 Dy] 26) := ⟨_, rfl⟩
            rw [← hwD]
            have HB8' : Hid (Below w.heap.size w w8') := Lib.hid (by rw [hwD]; exact HB8.out.alloc HB8.out.size _)
            have bD : Hid (BoxAt w8' w8.heap.size Dx Dy) := Lib.hid (by rw [hwD]; exact ⟨by simp [go_sem], by simp [go_sem]⟩)
            clear hwD HB8
            go_ret
            exact ⟨rfl, HB8'.out⟩
          · skip
            go_wp2_with fail
            obtain ⟨w8', hwD⟩ : ∃ w8', w8' = w8.alloc (Obj.cells #[Value.int IntKind.i64 Dx, Value.int IntKind.i64 Dy] 26) := ⟨_, rfl⟩
            rw [← hwD]
            have HB8' : Hid (Below w.heap.size w w8') := Lib.hid (by rw [hwD]; exact HB8.out.alloc HB8.out.size _)
            have bD : Hid (BoxAt w8' w8.heap.size Dx Dy) := Lib.hid (by rw [hwD]; exact ⟨by simp [go_sem], by simp [go_sem]⟩)
            clear hwD HB8
            go_ret
            exact ⟨rfl, HB8'.out⟩
      · clear hne
        have qL0 := bL.out.c0
        have qL1 := bL.out.c1
        have qL2 := bL.out.c2
        have qL3 := bL.out.c3
        have qL4 := bL.out.c4
        have qL5 := bL.out.c5
        have qLl := World.block_lt_of_cell? (h := qL0)
        refine (cmpF p q a b c d (-1) er _ HP.out HQ.out (HT.out.below HB2'.out).err HAV.out).mono ?_
        rintro e w9 ⟨rfl, hB⟩
        have HB9 : Hid (Below w.heap.size w w9) := Lib.hid (HB2'.out.trans (hB.mono HB2'.out.size))
        have bL' := Lib.hid (bL.out.below hB)
        clear hB bL qL0 qL1 qL2 qL3 qL4 qL5 qLl HB2'
        have bL := bL'
        clear bL'
        have qL0 := bL.out.c0
        have qL1 := bL.out.c1
        have qL2 := bL.out.c2
        have qL3 := bL.out.c3
        have qL4 := bL.out.c4
        have qL5 := bL.out.c5
        have qLl := World.block_lt_of_cell? (h := qL0)
        go_wp2_with fail
        refine (cmpF q r c d f t B er _ HQ.out HR.out (HT.out.below HB9.out).err HBV.out).mono ?_
        rintro e w10 ⟨rfl, hB⟩
        have HB10 : Hid (Below w.heap.size w w10) := Lib.hid (HB9.out.trans (hB.mono HB9.out.size))
        have bL' := Lib.hid (bL.out.below hB)
        clear hB bL qL0 qL1 qL2 qL3 qL4 qL5 qLl HB9
        have bL := bL'
        clear bL'
        have qL0 := bL.out.c0
        have qL1 := bL.out.c1
        have qL2 := bL.out.c2
        have qL3 := bL.out.c3
        have qL4 := bL.out.c4
        have qL5 := bL.out.c5
        have qLl := World.block_lt_of_cell? (h := qL0)
        go_wp2_with fail
        refine (cmpF p r a b f t C er _ HP.out HR.out (HT.out.below HB10.out).err HCV.out).mono ?_
        rintro e w11 ⟨rfl, hB⟩
        have HB11 : Hid (Below w.heap.size w w11) := Lib.hid (HB10.out.trans (hB.mono HB10.out.size))
        have bL' := Lib.hid (bL.out.below hB)
        clear hB bL qL0 qL1 qL2 qL3 qL4 qL5 qLl HB10
        have bL := bL'
        clear bL'
        have qL0 := bL.out.c0
        have qL1 := bL.out.c1
        have qL2 := bL.out.c2
        have qL3 := bL.out.c3
        have qL4 := bL.out.c4
        have qL5 := bL.out.c5
        have qLl := World.block_lt_of_cell? (h := qL0)
        go_wp2_with fail
        refine (cmpF q p c d a b 1 er _ HQ.out HP.out (HT.out.below HB11.out).err (by rw [Rt.cmpR_neg, HAV.out]; first | done | rfl)).mono ?_
        rintro e w12 ⟨rfl, hB⟩
        have HB12 : Hid (Below w.heap.size w w12) := Lib.hid (HB11.out.trans (hB.mono HB11.out.size))
        have bL' := Lib.hid (bL.out.below hB)
        clear hB bL qL0 qL1 qL2 qL3 qL4 qL5 qLl HB11
        have bL := bL'
        clear bL'
        by_cases hb : B ≤ 0
        · have ht := Rt.cmpR_trans p q r (by rw [HAV.out]; decide) (by rw [HBV.out]; exact hb)
          rw [HCV.out, HAV.out] at ht
          have hc : C ≤ 0 := ht.1
          have hc2 : C < 0 := ht.2 (by decide)
          clear ht
          have qL0 := bL.out.c0
          have qL1 := bL.out.c1
          have qL2 := bL.out.c2
          have qL3 := bL.out.c3
          have qL4 := bL.out.c4
          have qL5 := bL.out.c5
          have qLl := World.block_lt_of_cell? (h := qL0)
          go_wp2_with fail
          clear bL
          refine (subF q p _ c d a b Dx Dy Dz er _ HQ.out HP.out (HT.out.below HB12.out).err rfl HD.out).mono ?_
          rintro e w13 ⟨rfl, hB⟩
          have HB13 : Hid (Below w.heap.size w w13) := Lib.hid (HB12.out.trans (hB.mono HB12.out.size))
          clear hB qL0 qL1 qL2 qL3 qL4 qL5 qLl HB12
          rcases HD.out.err with rfl | rfl
          · have hn : (q - p).num = Dx := (HD.out.is rfl).1.num
            have hs := Rt.sub_num p q
            rw [HAV.out, hn] at hs
            have d1 : 0 < Dx := hs.1.1 rfl
            have d2 : (Dx == 0) = false := by simp; omega
            clear hn hs
            go_wp2_with fail
            obtain ⟨w13', hwD⟩ : ∃ w13', w13' = w13.alloc (Obj.cells #[Value.int IntKind.i64 Dx, Value.int IntKind.i64 Dy] 26) := ⟨_, rfl⟩
            rw [← hwD]
            have HB13' : Hid (Below w.heap.size w w13') := Lib.hid (by rw [hwD]; exact HB13.out.alloc HB13.out.size _)
            have bD : Hid (BoxAt w13' w13.heap.size Dx Dy) := Lib.hid (by rw [hwD]; exact ⟨by simp [go_sem], by simp [go_sem]⟩)
            clear hwD HB13
            go_ret
            exact ⟨rfl, HB13'.out⟩
          · skip
            go_wp2_with fail
            obtain ⟨w13', hwD⟩ : ∃ w13', w13' = w13.alloc (Obj.cells #[Value.int IntKind.i64 Dx, Value.int IntKind.i64 Dy] 26) := ⟨_, rfl⟩
            rw [← hwD]
            have HB13' : Hid (Below w.heap.size w w13') := Lib.hid (by rw [hwD]; exact HB13.out.alloc HB13.out.size _)
            have bD : Hid (BoxAt w13' w13.heap.size Dx Dy) := Lib.hid (by rw [hwD]; exact ⟨by simp [go_sem], by simp [go_sem]⟩)
            clear hwD HB13
            go_ret
            exact ⟨rfl, HB13'.out⟩
        · skip
          have qL0 := bL.out.c0
          have qL1 := bL.out.c1
          have qL2 := bL.out.c2
          have qL3 := bL.out.c3
          have qL4 := bL.out.c4
          have qL5 := bL.out.c5
          have qLl := World.block_lt_of_cell? (h := qL0)
          go_wp2_with fail
          clear bL
          refine (subF q p _ c d a b Dx Dy Dz er _ HQ.out HP.out (HT.out.below HB12.out).err rfl HD.out).mono ?_
          rintro e w14 ⟨rfl, hB⟩
          have HB14 : Hid (Below w.heap.size w w14) := Lib.hid (HB12.out.trans (hB.mono HB12.out.size))
          clear hB qL0 qL1 qL2 qL3 qL4 qL5 qLl HB12
          rcases HD.out.err with rfl | rfl
          · have hn : (q - p).num = Dx := (HD.out.is rfl).1.num
            have hs := Rt.sub_num p q
            rw [HAV.out, hn] at hs
            have d1 : 0 < Dx := hs.1.1 rfl
            have d2 : (Dx == 0) = false := by simp; omega
            clear hn hs
            go_wp2_with fail
            obtain ⟨w14', hwD⟩ : ∃ w14', w14' = w14.alloc (Obj.cells #[Value.int IntKind.i64 Dx, Value.int IntKind.i64 Dy] 26) := ⟨_, rfl⟩
            rw [← hwD]
            have HB14' : Hid (Below w.heap.size w w14') := Lib.hid (by rw [hwD]; exact HB14.out.alloc HB14.out.size _)
            have bD : Hid (BoxAt w14' w14.heap.size Dx Dy) := Lib.hid (by rw [hwD]; exact ⟨by simp [go_sem], by simp [go_sem]⟩)
            clear hwD HB14
            go_ret
            exact ⟨rfl, HB14'.out⟩
          · skip
            go_wp2_with fail
            obtain ⟨w14', hwD⟩ : ∃ w14', w14' = w14.alloc (Obj.cells #[Value.int IntKind.i64 Dx, Value.int IntKind.i64 Dy] 26) := ⟨_, rfl⟩
            rw [← hwD]
            have HB14' : Hid (Below w.heap.size w w14') := Lib.hid (by rw [hwD]; exact HB14.out.alloc HB14.out.size _)
            have bD : Hid (BoxAt w14' w14.heap.size Dx Dy) := Lib.hid (by rw [hwD]; exact ⟨by simp [go_sem], by simp [go_sem]⟩)
            clear hwD HB14
            go_ret
            exact ⟨rfl, HB14'.out⟩
    · have HAV := Lib.hid ha
      obtain ⟨rfl, rfl⟩ : a = c ∧ b = d := by
        have h1 := HP.out.num; have h2 := HQ.out.num; have h3 := HP.out.den; have h4 := HQ.out.den
        rw [hpq] at h1 h3
        exact ⟨h1.symm.trans h2, h3.symm.trans h4⟩
      clear ha hpq
      have qL0 := bL.out.c0
      have qL1 := bL.out.c1
      have qL2 := bL.out.c2
      have qL3 := bL.out.c3
      have qL4 := bL.out.c4
      have qL5 := bL.out.c5
      have qLl := World.block_lt_of_cell? (h := qL0)
      refine (cmpF p q a b a b 0 er _ HP.out HQ.out (HT.out.below HB2'.out).err HAV.out).mono ?_
      rintro e w15 ⟨rfl, hB⟩
      have HB15 : Hid (Below w.heap.size w w15) := Lib.hid (HB2'.out.trans (hB.mono HB2'.out.size))
      have bL' := Lib.hid (bL.out.below hB)
      clear hB bL qL0 qL1 qL2 qL3 qL4 qL5 qLl HB2'
      have bL := bL'
      clear bL'
      have qL0 := bL.out.c0
      have qL1 := bL.out.c1
      have qL2 := bL.out.c2
      have qL3 := bL.out.c3
      have qL4 := bL.out.c4
      have qL5 := bL.out.c5
      have qLl := World.block_lt_of_cell? (h := qL0)
      go_wp2_with fail
      refine (cmpF q r a b f t B er _ HQ.out HR.out (HT.out.below HB15.out).err HBV.out).mono ?_
      rintro e w16 ⟨rfl, hB⟩
      have HB16 : Hid (Below w.heap.size w w16) := Lib.hid (HB15.out.trans (hB.mono HB15.out.size))
      have bL' := Lib.hid (bL.out.below hB)
      clear hB bL qL0 qL1 qL2 qL3 qL4 qL5 qLl HB15
      have bL := bL'
      clear bL'
      have qL0 := bL.out.c0
      have qL1 := bL.out.c1
      have qL2 := bL.out.c2
      have qL3 := bL.out.c3
      have qL4 := bL.out.c4
      have qL5 := bL.out.c5
      have qLl := World.block_lt_of_cell? (h := qL0)
      go_wp2_with fail
      refine (cmpF p r a b f t C er _ HP.out HR.out (HT.out.below HB16.out).err HCV.out).mono ?_
      rintro e w17 ⟨rfl, hB⟩
      have HB17 : Hid (Below w.heap.size w w17) := Lib.hid (HB16.out.trans (hB.mono HB16.out.size))
      have bL' := Lib.hid (bL.out.below hB)
      clear hB bL qL0 qL1 qL2 qL3 qL4 qL5 qLl HB16
      have bL := bL'
      clear bL'
      have qL0 := bL.out.c0
      have qL1 := bL.out.c1
      have qL2 := bL.out.c2
      have qL3 := bL.out.c3
      have qL4 := bL.out.c4
      have qL5 := bL.out.c5
      have qLl := World.block_lt_of_cell? (h := qL0)
      go_wp2_with fail
      refine (cmpF q p a b a b 0 er _ HQ.out HP.out (HT.out.below HB17.out).err (by rw [Rt.cmpR_neg, HAV.out]; first | done | rfl)).mono ?_
      rintro e w18 ⟨rfl, hB⟩
      have HB18 : Hid (Below w.heap.size w w18) := Lib.hid (HB17.out.trans (hB.mono HB17.out.size))
      have bL' := Lib.hid (bL.out.below hB)
      clear hB bL qL0 qL1 qL2 qL3 qL4 qL5 qLl HB17
      have bL := bL'
      clear bL'
      by_cases hb : B ≤ 0
      · have ht := Rt.cmpR_trans p q r (by rw [HAV.out]; decide) (by rw [HBV.out]; exact hb)
        rw [HCV.out, HAV.out] at ht
        have hc : C ≤ 0 := ht.1
        clear ht
        have qL0 := bL.out.c0
        have qL1 := bL.out.c1
        have qL2 := bL.out.c2
        have qL3 := bL.out.c3
        have qL4 := bL.out.c4
        have qL5 := bL.out.c5
        have qLl := World.block_lt_of_cell? (h := qL0)
        go_wp2_with fail
        clear bL
        refine (subF q p _ a b a b Dx Dy Dz er _ HQ.out HP.out (HT.out.below HB18.out).err rfl HD.out).mono ?_
        rintro e w19 ⟨rfl, hB⟩
        have HB19 : Hid (Below w.heap.size w w19) := Lib.hid (HB18.out.trans (hB.mono HB18.out.size))
        clear hB qL0 qL1 qL2 qL3 qL4 qL5 qLl HB18
        rcases HD.out.err with rfl | rfl
        · have hn : (q - p).num = Dx := (HD.out.is rfl).1.num
          have hs := Rt.sub_num p q
          rw [HAV.out, hn] at hs
          have d2 : Dx = 0 := hs.2.1 rfl
          subst d2
          clear hn hs
          go_wp2_with fail
          obtain ⟨w19', hwD⟩ : ∃ w19', w19' = w19.alloc (Obj.cells #[Value.int IntKind.i64 0, Value.int IntKind.i64 Dy] 26) := ⟨_, rfl⟩
          rw [← hwD]
          have HB19' : Hid (Below w.heap.size w w19') := Lib.hid (by rw [hwD]; exact HB19.out.alloc HB19.out.size _)
          have bD : Hid (BoxAt w19' w19.heap.size 0 Dy) := Lib.hid (by rw [hwD]; exact ⟨by simp [go_sem], by simp [go_sem]⟩)
          clear hwD HB19
          go_ret
          exact ⟨rfl, HB19'.out⟩
        · skip
          go_wp2_with fail
          obtain ⟨w19', hwD⟩ : ∃ w19', w19' = w19.alloc (Obj.cells #[Value.int IntKind.i64 Dx, Value.int IntKind.i64 Dy] 26) := ⟨_, rfl⟩
          rw [← hwD]
          have HB19' : Hid (Below w.heap.size w w19') := Lib.hid (by rw [hwD]; exact HB19.out.alloc HB19.out.size _)
          have bD : Hid (BoxAt w19' w19.heap.size Dx Dy) := Lib.hid (by rw [hwD]; exact ⟨by simp [go_sem], by simp [go_sem]⟩)
          clear hwD HB19
          go_ret
          exact ⟨rfl, HB19'.out⟩
      · skip
        have qL0 := bL.out.c0
        have qL1 := bL.out.c1
        have qL2 := bL.out.c2
        have qL3 := bL.out.c3
        have qL4 := bL.out.c4
        have qL5 := bL.out.c5
        have qLl := World.block_lt_of_cell? (h := qL0)
        go_wp2_with fail
        clear bL
        refine (subF q p _ a b a b Dx Dy Dz er _ HQ.out HP.out (HT.out.below HB18.out).err rfl HD.out).mono ?_
        rintro e w20 ⟨rfl, hB⟩
        have HB20 : Hid (Below w.heap.size w w20) := Lib.hid (HB18.out.trans (hB.mono HB18.out.size))
        clear hB qL0 qL1 qL2 qL3 qL4 qL5 qLl HB18
        rcases HD.out.err with rfl | rfl
        · have hn : (q - p).num = Dx := (HD.out.is rfl).1.num
          have hs := Rt.sub_num p q
          rw [HAV.out, hn] at hs
          have d2 : Dx = 0 := hs.2.1 rfl
          subst d2
          clear hn hs
          go_wp2_with fail
          obtain ⟨w20', hwD⟩ : ∃ w20', w20' = w20.alloc (Obj.cells #[Value.int IntKind.i64 0, Value.int IntKind.i64 Dy] 26) := ⟨_, rfl⟩
          rw [← hwD]
          have HB20' : Hid (Below w.heap.size w w20') := Lib.hid (by rw [hwD]; exact HB20.out.alloc HB20.out.size _)
          have bD : Hid (BoxAt w20' w20.heap.size 0 Dy) := Lib.hid (by rw [hwD]; exact ⟨by simp [go_sem], by simp [go_sem]⟩)
          clear hwD HB20
          go_ret
          exact ⟨rfl, HB20'.out⟩
        · skip
          go_wp2_with fail
          obtain ⟨w20', hwD⟩ : ∃ w20', w20' = w20.alloc (Obj.cells #[Value.int IntKind.i64 Dx, Value.int IntKind.i64 Dy] 26) := ⟨_, rfl⟩
          rw [← hwD]
          have HB20' : Hid (Below w.heap.size w w20') := Lib.hid (by rw [hwD]; exact HB20.out.alloc HB20.out.size _)
          have bD : Hid (BoxAt w20' w20.heap.size Dx Dy) := Lib.hid (by rw [hwD]; exact ⟨by simp [go_sem], by simp [go_sem]⟩)
          clear hwD HB20
          go_ret
          exact ⟨rfl, HB20'.out⟩
    · have HAV := Lib.hid ha
      have hne : ¬ (a = c ∧ b = d) := by
        rintro ⟨rfl, rfl⟩
        have h := HP.out.eq HQ.out
        rw [Rt.cmpR_eq.2 h] at ha
        exact absurd ha (by decide)
      clear ha
      by_cases hac : a = c
      · subst hac
        have hbd : ¬ b = d := fun h => hne ⟨rfl, h⟩
        clear hne
        have qL0 := bL.out.c0
        have qL1 := bL.out.c1
        have qL2 := bL.out.c2
        have qL3 := bL.out.c3
        have qL4 := bL.out.c4
        have qL5 := bL.out.c5
        have qLl := World.block_lt_of_cell? (h := qL0)
        refine (cmpF p q a b a d 1 er _ HP.out HQ.out (HT.out.below HB2'.out).err HAV.out).mono ?_
        rintro e w21 ⟨rfl, hB⟩
        have HB21 : Hid (Below w.heap.size w w21) := Lib.hid (HB2'.out.trans (hB.mono HB2'.out.size))
        have bL' := Lib.hid (bL.out.below hB)
        clear hB bL qL0 qL1 qL2 qL3 qL4 qL5 qLl HB2'
        have bL := bL'
        clear bL'
        have qL0 := bL.out.c0
        have qL1 := bL.out.c1
        have qL2 := bL.out.c2
        have qL3 := bL.out.c3
        have qL4 := bL.out.c4
        have qL5 := bL.out.c5
        have qLl := World.block_lt_of_cell? (h := qL0)
        go_wp2_with fail
        refine (cmpF q r a d f t B er _ HQ.out HR.out (HT.out.below HB21.out).err HBV.out).mono ?_
        rintro e w22 ⟨rfl, hB⟩
        have HB22 : Hid (Below w.heap.size w w22) := Lib.hid (HB21.out.trans (hB.mono HB21.out.size))
        have bL' := Lib.hid (bL.out.below hB)
        clear hB bL qL0 qL1 qL2 qL3 qL4 qL5 qLl HB21
        have bL := bL'
        clear bL'
        have qL0 := bL.out.c0
        have qL1 := bL.out.c1
        have qL2 := bL.out.c2
        have qL3 := bL.out.c3
        have qL4 := bL.out.c4
        have qL5 := bL.out.c5
        have qLl := World.block_lt_of_cell? (h := qL0)
        go_wp2_with fail
        refine (cmpF p r a b f t C er _ HP.out HR.out (HT.out.below HB22.out).err HCV.out).mono ?_
        rintro e w23 ⟨rfl, hB⟩
        have HB23 : Hid (Below w.heap.size w w23) := Lib.hid (HB22.out.trans (hB.mono HB22.out.size))
        have bL' := Lib.hid (bL.out.below hB)
        clear hB bL qL0 qL1 qL2 qL3 qL4 qL5 qLl HB22
        have bL := bL'
        clear bL'
        have qL0 := bL.out.c0
        have qL1 := bL.out.c1
        have qL2 := bL.out.c2
        have qL3 := bL.out.c3
        have qL4 := bL.out.c4
        have qL5 := bL.out.c5
        have qLl := World.block_lt_of_cell? (h := qL0)
        go_wp2_with fail
        refine (cmpF q p a d a b (-1) er _ HQ.out HP.out (HT.out.below HB23.out).err (by rw [Rt.cmpR_neg, HAV.out]; first | done | rfl)).mono ?_
        rintro e w24 ⟨rfl, hB⟩
        have HB24 : Hid (Below w.heap.size w w24) := Lib.hid (HB23.out.trans (hB.mono HB23.out.size))
        have bL' := Lib.hid (bL.out.below hB)
        clear hB bL qL0 qL1 qL2 qL3 qL4 qL5 qLl HB23
        have bL := bL'
        clear bL'
        have qL0 := bL.out.c0
        have qL1 := bL.out.c1
        have qL2 := bL.out.c2
        have qL3 := bL.out.c3
        have qL4 := bL.out.c4
        have qL5 := bL.out.c5
        have qLl := World.block_lt_of_cell? (h := qL0)
        go_wp2_with fail
        clear bL
        refine (subF q p _ a d a b Dx Dy Dz er _ HQ.out HP.out (HT.out.below HB24.out).err rfl HD.out).mono ?_
        rintro e w25 ⟨rfl, hB⟩
        have HB25 : Hid (Below w.heap.size w w25) := Lib.hid (HB24.out.trans (hB.mono HB24.out.size))
        clear hB qL0 qL1 qL2 qL3 qL4 qL5 qLl HB24
        rcases HD.out.err with rfl | rfl
        · have hn : (q - p).num = Dx := (HD.out.is rfl).1.num
          have hs := Rt.sub_num p q
          rw [HAV.out, hn] at hs
          have d1 : decide (0 < Dx) = false := decide_eq_false (fun h => by have := hs.1.2 h; omega)
          have d2 : (Dx == 0) = false := by
            rw [beq_eq_false_iff_ne]
            exact fun h => by have := hs.2.2 h; omega
          clear hn hs
          go_wp2_with fail
          obtain ⟨w25', hwD⟩ : ∃ w25', w25' = w25.alloc (Obj.cells #[Value.int IntKind.i64 Dx, Value.int IntKind.i64 Dy] 26) := ⟨_, rfl⟩
          rw [← hwD]
          have HB25' : Hid (Below w.heap.size w w25') := Lib.hid (by rw [hwD]; exact HB25.out.alloc HB25.out.size _)
          have bD : Hid (BoxAt w25' w25.heap.size Dx Dy) := Lib.hid (by rw [hwD]; exact ⟨by simp [go_sem], by simp [go_sem]⟩)
          clear hwD HB25
          go_ret
          exact ⟨rfl, HB25'.out⟩
        · skip
          go_wp2_with fail
          obtain ⟨w25', hwD⟩ : ∃ w25', w25' = w25.alloc (Obj.cells #[Value.int IntKind.i64 Dx, Value.int IntKind.i64 Dy] 26) := ⟨_, rfl⟩
          rw [← hwD]
          have HB25' : Hid (Below w.heap.size w w25') := Lib.hid (by rw [hwD]; exact HB25.out.alloc HB25.out.size _)
          have bD : Hid (BoxAt w25' w25.heap.size Dx Dy) := Lib.hid (by rw [hwD]; exact ⟨by simp [go_sem], by simp [go_sem]⟩)
          clear hwD HB25
          go_ret
          exact ⟨rfl, HB25'.out⟩
      · clear hne
        have qL0 := bL.out.c0
        have qL1 := bL.out.c1
        have qL2 := bL.out.c2
        have qL3 := bL.out.c3
        have qL4 := bL.out.c4
        have qL5 := bL.out.c5
        have qLl := World.block_lt_of_cell? (h := qL0)
        refine (cmpF p q a b c d 1 er _ HP.out HQ.out (HT.out.below HB2'.out).err HAV.out).mono ?_
        rintro e w26 ⟨rfl, hB⟩
        have HB26 : Hid (Below w.heap.size w w26) := Lib.hid (HB2'.out.trans (hB.mono HB2'.out.size))
        have bL' := Lib.hid (bL.out.below hB)
        clear hB bL qL0 qL1 qL2 qL3 qL4 qL5 qLl HB2'
        have bL := bL'
        clear bL'
        have qL0 := bL.out.c0
        have qL1 := bL.out.c1
        have qL2 := bL.out.c2
        have qL3 := bL.out.c3
        have qL4 := bL.out.c4
        have qL5 := bL.out.c5
        have qLl := World.block_lt_of_cell? (h := qL0)
        go_wp2_with fail
        refine (cmpF q r c d f t B er _ HQ.out HR.out (HT.out.below HB26.out).err HBV.out).mono ?_
        rintro e w27 ⟨rfl, hB⟩
        have HB27 : Hid (Below w.heap.size w w27) := Lib.hid (HB26.out.trans (hB.mono HB26.out.size))
        have bL' := Lib.hid (bL.out.below hB)
        clear hB bL qL0 qL1 qL2 qL3 qL4 qL5 qLl HB26
        have bL := bL'
        clear bL'
        have qL0 := bL.out.c0
        have qL1 := bL.out.c1
        have qL2 := bL.out.c2
        have qL3 := bL.out.c3
        have qL4 := bL.out.c4
        have qL5 := bL.out.c5
        have qLl := World.block_lt_of_cell? (h := qL0)
        go_wp2_with fail
        refine (cmpF p r a b f t C er _ HP.out HR.out (HT.out.below HB27.out).err HCV.out).mono ?_
        rintro e w28 ⟨rfl, hB⟩
        have HB28 : Hid (Below w.heap.size w w28) := Lib.hid (HB27.out.trans (hB.mono HB27.out.size))
        have bL' := Lib.hid (bL.out.below hB)
        clear hB bL qL0 qL1 qL2 qL3 qL4 qL5 qLl HB27
        have bL := bL'
        clear bL'
        have qL0 := bL.out.c0
        have qL1 := bL.out.c1
        have qL2 := bL.out.c2
        have qL3 := bL.out.c3
        have qL4 := bL.out.c4
        have qL5 := bL.out.c5
        have qLl := World.block_lt_of_cell? (h := qL0)
        go_wp2_with fail
        refine (cmpF q p c d a b (-1) er _ HQ.out HP.out (HT.out.below HB28.out).err (by rw [Rt.cmpR_neg, HAV.out]; first | done | rfl)).mono ?_
        rintro e w29 ⟨rfl, hB⟩
        have HB29 : Hid (Below w.heap.size w w29) := Lib.hid (HB28.out.trans (hB.mono HB28.out.size))
        have bL' := Lib.hid (bL.out.below hB)
        clear hB bL qL0 qL1 qL2 qL3 qL4 qL5 qLl HB28
        have bL := bL'
        clear bL'
        have qL0 := bL.out.c0
        have qL1 := bL.out.c1
        have qL2 := bL.out.c2
        have qL3 := bL.out.c3
        have qL4 := bL.out.c4
        have qL5 := bL.out.c5
        have qLl := World.block_lt_of_cell? (h := qL0)
        go_wp2_with fail
        clear bL
        refine (subF q p _ c d a b Dx Dy Dz er _ HQ.out HP.out (HT.out.below HB29.out).err rfl HD.out).mono ?_
        rintro e w30 ⟨rfl, hB⟩
        have HB30 : Hid (Below w.heap.size w w30) := Lib.hid (HB29.out.trans (hB.mono HB29.out.size))
        clear hB qL0 qL1 qL2 qL3 qL4 qL5 qLl HB29
        rcases HD.out.err with rfl | rfl
        · have hn : (q - p).num = Dx := (HD.out.is rfl).1.num
          have hs := Rt.sub_num p q
          rw [HAV.out, hn] at hs
          have d1 : decide (0 < Dx) = false := decide_eq_false (fun h => by have := hs.1.2 h; omega)
          have d2 : (Dx == 0) = false := by
            rw [beq_eq_false_iff_ne]
            exact fun h => by have := hs.2.2 h; omega
          clear hn hs
          go_wp2_with fail
          obtain ⟨w30', hwD⟩ : ∃ w30', w30' = w30.alloc (Obj.cells #[Value.int IntKind.i64 Dx, Value.int IntKind.i64 Dy] 26) := ⟨_, rfl⟩
          rw [← hwD]
          have HB30' : Hid (Below w.heap.size w w30') := Lib.hid (by rw [hwD]; exact HB30.out.alloc HB30.out.size _)
          have bD : Hid (BoxAt w30' w30.heap.size Dx Dy) := Lib.hid (by rw [hwD]; exact ⟨by simp [go_sem], by simp [go_sem]⟩)
          clear hwD HB30
          go_ret
          exact ⟨rfl, HB30'.out⟩
        · skip
          go_wp2_with fail
          obtain ⟨w30', hwD⟩ : ∃ w30', w30' = w30.alloc (Obj.cells #[Value.int IntKind.i64 Dx, Value.int IntKind.i64 Dy] 26) := ⟨_, rfl⟩
          rw [← hwD]
          have HB30' : Hid (Below w.heap.size w w30') := Lib.hid (by rw [hwD]; exact HB30.out.alloc HB30.out.size _)
          have bD : Hid (BoxAt w30' w30.heap.size Dx Dy) := Lib.hid (by rw [hwD]; exact ⟨by simp [go_sem], by simp [go_sem]⟩)
          clear hwD HB30
          go_ret
          exact ⟨rfl, HB30'.out⟩
end Go.Proofs.YtphphamfejgdaaaDoor
