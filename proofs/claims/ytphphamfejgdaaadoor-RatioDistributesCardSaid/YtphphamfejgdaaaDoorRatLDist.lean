/- The law RatioDistributes: it returns true. Conditions: ints; what the functions of texts read of memory; what is shown of sane. (Written by a program.) -/
import Derived.Test.YtphphamfejgdaaaDoorRatT
namespace Go.Proofs.YtphphamfejgdaaaDoor
open Go.RowKit

set_option maxRecDepth 20000 in
set_option maxHeartbeats 4000000 in
theorem dist_law (hS : SaneSays) (x0 x1 x2 x3 x4 x5 : Int) (er : Addr) (w : World) (hx0 : -9223372036854775808 ≤ x0 ∧ x0 ≤ 9223372036854775807) (hx1 : -9223372036854775808 ≤ x1 ∧ x1 ≤ 9223372036854775807) (hx2 : -9223372036854775808 ≤ x2 ∧ x2 ≤ 9223372036854775807) (hx3 : -9223372036854775808 ≤ x3 ∧ x3 ≤ 9223372036854775807) (hx4 : -9223372036854775808 ≤ x4 ∧ x4 ≤ 9223372036854775807) (hx5 : -9223372036854775808 ≤ x5 ∧ x5 ≤ 9223372036854775807) (hT : Txt w er) :
    Calls Tryd.prog 4 #[.agg #[.int .i64 x0, .int .i64 x1, .int .i64 x2, .int .i64 x3, .int .i64 x4, .int .i64 x5]] w fun e w' => e = .returned (.bool true) ∧ Below w.heap.size w w' := by
  have HT := Lib.hid hT
  have HS := Lib.hid hS
  have HM := Lib.hid (And.intro hx0 (And.intro hx1 (And.intro hx2 (And.intro hx3 (And.intro hx4 hx5)))))
  have HB0 : Hid (Below w.heap.size w w) := Lib.hid (Below.refl _ _)
  clear hT hS hx0 hx1 hx2 hx3 hx4 hx5
  go_enter Tryd.func4, Tryd.ntmps4
  go_wp2_with fail
  obtain ⟨w', hwX⟩ : ∃ w', w' = w.alloc (Obj.cells #[Value.int IntKind.i64 x0, Value.int IntKind.i64 x1, Value.int IntKind.i64 x2, Value.int IntKind.i64 x3, Value.int IntKind.i64 x4, Value.int IntKind.i64 x5] 23) := ⟨_, rfl⟩
  rw [← hwX]
  have HB0' : Hid (Below w.heap.size w w') := Lib.hid (by rw [hwX]; exact HB0.out.alloc HB0.out.size _)
  have bX : Hid (RowAt w' w.heap.size x0 x1 x2 x3 x4 x5) := Lib.hid (by rw [hwX]; exact ⟨by simp [go_sem], by simp [go_sem], by simp [go_sem], by simp [go_sem], by simp [go_sem], by simp [go_sem]⟩)
  clear hwX HB0
  refine (HS.out er _ (HT.out.below HB0'.out)).mono ?_
  rintro e w1 ⟨rfl, hB⟩
  have HB1 : Hid (Below w.heap.size w w1) := Lib.hid (HB0'.out.trans (hB.mono HB0'.out.size))
  have bX' := Lib.hid (bX.out.below hB)
  clear hB bX HB0'
  have bX := bX'
  clear bX'
  have qX0 := bX.out.c0
  have qX1 := bX.out.c1
  have qX2 := bX.out.c2
  have qX3 := bX.out.c3
  have qX4 := bX.out.c4
  have qX5 := bX.out.c5
  have qXl := World.block_lt_of_cell? (h := qX0)
  go_wp2_with fail
  clear bX
  refine (made_six x0 x1 x2 x3 x4 x5 er _ HM.out.1 HM.out.2.1 HM.out.2.2.1 HM.out.2.2.2.1 HM.out.2.2.2.2.1 HM.out.2.2.2.2.2 (HT.out.below HB1.out).err).mono ?_
  rintro e w2 ⟨⟨v, a, b, c, d, f, t, rfl, hV⟩, hB⟩
  have HB2 : Hid (Below w.heap.size w w2) := Lib.hid (HB1.out.trans (hB.mono HB1.out.size))
  clear hB qX0 qX1 qX2 qX3 qX4 qX5 qXl HB1
  have HV := Lib.hid hV
  clear hV
  cases v with
  | false =>
    clear HV
    go_wp2_with fail
    obtain ⟨w2', hwL⟩ : ∃ w2', w2' = w2.alloc (Obj.cells #[Value.int IntKind.i64 a, Value.int IntKind.i64 b, Value.int IntKind.i64 c, Value.int IntKind.i64 d, Value.int IntKind.i64 f, Value.int IntKind.i64 t] 27) := ⟨_, rfl⟩
    rw [← hwL]
    have HB2' : Hid (Below w.heap.size w w2') := Lib.hid (by rw [hwL]; exact HB2.out.alloc HB2.out.size _)
    have bL : Hid (RowAt w2' w2.heap.size a b c d f t) := Lib.hid (by rw [hwL]; exact ⟨by simp [go_sem], by simp [go_sem], by simp [go_sem], by simp [go_sem], by simp [go_sem], by simp [go_sem]⟩)
    clear hwL HB2
    go_ret
    exact ⟨rfl, HB2'.out⟩
  | true =>
    obtain ⟨p, q, r, hp, hq, hr⟩ := HV.out rfl
    have HP := Lib.hid hp
    have HQ := Lib.hid hq
    have HR := Lib.hid hr
    clear HV hp hq hr
    go_wp2_with fail
    obtain ⟨w2', hwL⟩ : ∃ w2', w2' = w2.alloc (Obj.cells #[Value.int IntKind.i64 a, Value.int IntKind.i64 b, Value.int IntKind.i64 c, Value.int IntKind.i64 d, Value.int IntKind.i64 f, Value.int IntKind.i64 t] 27) := ⟨_, rfl⟩
    rw [← hwL]
    have HB2' : Hid (Below w.heap.size w w2') := Lib.hid (by rw [hwL]; exact HB2.out.alloc HB2.out.size _)
    have bL : Hid (RowAt w2' w2.heap.size a b c d f t) := Lib.hid (by rw [hwL]; exact ⟨by simp [go_sem], by simp [go_sem], by simp [go_sem], by simp [go_sem], by simp [go_sem], by simp [go_sem]⟩)
    clear hwL HB2
    obtain ⟨Ax, Ay, Az, hA⟩ : ∃ x y z, Parts (Rt.fit (q + r)) x y z := ⟨_, _, _, Parts.of _⟩
    have HA := Lib.hid hA
    clear hA
    obtain ⟨Bx, By, Bz, hB⟩ : ∃ x y z, Parts (Rt.fit (p * q)) x y z := ⟨_, _, _, Parts.of _⟩
    have HB := Lib.hid hB
    clear hB
    obtain ⟨Cx, Cy, Cz, hC⟩ : ∃ x y z, Parts (Rt.fit (p * r)) x y z := ⟨_, _, _, Parts.of _⟩
    have HC := Lib.hid hC
    clear hC
    refine (addF q r _ c d f t Ax Ay Az er _ HQ.out HR.out (HT.out.below HB2'.out).err rfl HA.out).mono ?_
    rintro e w3 ⟨rfl, hB⟩
    have HB3 : Hid (Below w.heap.size w w3) := Lib.hid (HB2'.out.trans (hB.mono HB2'.out.size))
    have bL' := Lib.hid (bL.out.below hB)
    clear hB bL HB2'
    have bL := bL'
    clear bL'
    have qL0 := bL.out.c0
    have qL1 := bL.out.c1
    have qL2 := bL.out.c2
    have qL3 := bL.out.c3
    have qL4 := bL.out.c4
    have qL5 := bL.out.c5
    have qLl := World.block_lt_of_cell? (h := qL0)
    go_wp2_with fail
    obtain ⟨w3', hwA⟩ : ∃ w3', w3' = w3.alloc (Obj.cells #[Value.int IntKind.i64 Ax, Value.int IntKind.i64 Ay] 26) := ⟨_, rfl⟩
    rw [← hwA]
    have HB3' : Hid (Below w.heap.size w w3') := Lib.hid (by rw [hwA]; exact HB3.out.alloc HB3.out.size _)
    have bL' : Hid (RowAt w3' w2.heap.size a b c d f t) := Lib.hid (by rw [hwA]; exact bL.out.alloc _)
    clear bL
    have bL := bL'
    clear bL'
    have bA : Hid (BoxAt w3' w3.heap.size Ax Ay) := Lib.hid (by rw [hwA]; exact ⟨by simp [go_sem], by simp [go_sem]⟩)
    clear hwA HB3
    refine (mulF p q _ a b c d Bx By Bz er _ HP.out HQ.out (HT.out.below HB3'.out).err rfl HB.out).mono ?_
    rintro e w4 ⟨rfl, hB⟩
    have HB4 : Hid (Below w.heap.size w w4) := Lib.hid (HB3'.out.trans (hB.mono HB3'.out.size))
    have bL' := Lib.hid (bL.out.below hB)
    have bA' := Lib.hid (bA.out.below hB)
    clear hB bL bA qL0 qL1 qL2 qL3 qL4 qL5 qLl HB3'
    have bL := bL'
    clear bL'
    have bA := bA'
    clear bA'
    have qL0 := bL.out.c0
    have qL1 := bL.out.c1
    have qL2 := bL.out.c2
    have qL3 := bL.out.c3
    have qL4 := bL.out.c4
    have qL5 := bL.out.c5
    have qLl := World.block_lt_of_cell? (h := qL0)
    go_wp2_with fail
    obtain ⟨w4', hwB⟩ : ∃ w4', w4' = w4.alloc (Obj.cells #[Value.int IntKind.i64 Bx, Value.int IntKind.i64 By] 26) := ⟨_, rfl⟩
    rw [← hwB]
    have HB4' : Hid (Below w.heap.size w w4') := Lib.hid (by rw [hwB]; exact HB4.out.alloc HB4.out.size _)
    have bL' : Hid (RowAt w4' w2.heap.size a b c d f t) := Lib.hid (by rw [hwB]; exact bL.out.alloc _)
    clear bL
    have bL := bL'
    clear bL'
    have bA' : Hid (BoxAt w4' w3.heap.size Ax Ay) := Lib.hid (by rw [hwB]; exact bA.out.alloc _)
    clear bA
    have bA := bA'
    clear bA'
    have bB : Hid (BoxAt w4' w4.heap.size Bx By) := Lib.hid (by rw [hwB]; exact ⟨by simp [go_sem], by simp [go_sem]⟩)
    clear hwB HB4
    refine (mulF p r _ a b f t Cx Cy Cz er _ HP.out HR.out (HT.out.below HB4'.out).err rfl HC.out).mono ?_
    rintro e w5 ⟨rfl, hB⟩
    have HB5 : Hid (Below w.heap.size w w5) := Lib.hid (HB4'.out.trans (hB.mono HB4'.out.size))
    have bL' := Lib.hid (bL.out.below hB)
    have bA' := Lib.hid (bA.out.below hB)
    have bB' := Lib.hid (bB.out.below hB)
    clear hB bL bA bB qL0 qL1 qL2 qL3 qL4 qL5 qLl HB4'
    have bL := bL'
    clear bL'
    have bA := bA'
    clear bA'
    have bB := bB'
    clear bB'
    rcases HA.out.err with rfl | rfl
    · rcases HB.out.err with rfl | rfl
      · rcases HC.out.err with rfl | rfl
        · have HIA := Lib.hid (HA.out.is rfl).1
          have HIB := Lib.hid (HB.out.is rfl).1
          have HIC := Lib.hid (HC.out.is rfl).1
          obtain ⟨Dx, Dy, Dz, hD⟩ : ∃ x y z, Parts (Rt.fit (p * (q + r))) x y z := ⟨_, _, _, Parts.of _⟩
          have HD := Lib.hid hD
          clear hD
          have qL0 := bL.out.c0
          have qL1 := bL.out.c1
          have qL2 := bL.out.c2
          have qL3 := bL.out.c3
          have qL4 := bL.out.c4
          have qL5 := bL.out.c5
          have qLl := World.block_lt_of_cell? (h := qL0)
          have qA0 := bA.out.c0
          have qA1 := bA.out.c1
          have qAl := World.block_lt_of_cell? (h := qA0)
          go_wp2_with fail
          obtain ⟨w5', hwC⟩ : ∃ w5', w5' = w5.alloc (Obj.cells #[Value.int IntKind.i64 Cx, Value.int IntKind.i64 Cy] 26) := ⟨_, rfl⟩
          rw [← hwC]
          have HB5' : Hid (Below w.heap.size w w5') := Lib.hid (by rw [hwC]; exact HB5.out.alloc HB5.out.size _)
          have bL' : Hid (RowAt w5' w2.heap.size a b c d f t) := Lib.hid (by rw [hwC]; exact bL.out.alloc _)
          clear bL
          have bL := bL'
          clear bL'
          have bA' : Hid (BoxAt w5' w3.heap.size Ax Ay) := Lib.hid (by rw [hwC]; exact bA.out.alloc _)
          clear bA
          have bA := bA'
          clear bA'
          have bB' : Hid (BoxAt w5' w4.heap.size Bx By) := Lib.hid (by rw [hwC]; exact bB.out.alloc _)
          clear bB
          have bB := bB'
          clear bB'
          have bC : Hid (BoxAt w5' w5.heap.size Cx Cy) := Lib.hid (by rw [hwC]; exact ⟨by simp [go_sem], by simp [go_sem]⟩)
          clear hwC HB5
          clear bL
          clear bA
          refine (mulF p (q + r) _ a b Ax Ay Dx Dy Dz er _ HP.out HIA.out (HT.out.below HB5'.out).err rfl HD.out).mono ?_
          rintro e w6 ⟨rfl, hB⟩
          have HB6 : Hid (Below w.heap.size w w6) := Lib.hid (HB5'.out.trans (hB.mono HB5'.out.size))
          have bB' := Lib.hid (bB.out.below hB)
          have bC' := Lib.hid (bC.out.below hB)
          clear hB bB bC qL0 qL1 qL2 qL3 qL4 qL5 qLl qA0 qA1 qAl HB5'
          have bB := bB'
          clear bB'
          have bC := bC'
          clear bC'
          have qB0 := bB.out.c0
          have qB1 := bB.out.c1
          have qBl := World.block_lt_of_cell? (h := qB0)
          have qC0 := bC.out.c0
          have qC1 := bC.out.c1
          have qCl := World.block_lt_of_cell? (h := qC0)
          go_wp2_with fail
          obtain ⟨w6', hwD⟩ : ∃ w6', w6' = w6.alloc (Obj.cells #[Value.int IntKind.i64 Dx, Value.int IntKind.i64 Dy] 26) := ⟨_, rfl⟩
          rw [← hwD]
          have HB6' : Hid (Below w.heap.size w w6') := Lib.hid (by rw [hwD]; exact HB6.out.alloc HB6.out.size _)
          have bB' : Hid (BoxAt w6' w4.heap.size Bx By) := Lib.hid (by rw [hwD]; exact bB.out.alloc _)
          clear bB
          have bB := bB'
          clear bB'
          have bC' : Hid (BoxAt w6' w5.heap.size Cx Cy) := Lib.hid (by rw [hwD]; exact bC.out.alloc _)
          clear bC
          have bC := bC'
          clear bC'
          have bD : Hid (BoxAt w6' w6.heap.size Dx Dy) := Lib.hid (by rw [hwD]; exact ⟨by simp [go_sem], by simp [go_sem]⟩)
          clear hwD HB6
          clear bB
          clear bC
          refine (addF (p * q) (p * r) _ Bx By Cx Cy Dx Dy Dz er _ HIB.out HIC.out (HT.out.below HB6'.out).err (by rw [Rat.mul_add]) HD.out).mono ?_
          rintro e w7 ⟨rfl, hB⟩
          have HB7 : Hid (Below w.heap.size w w7) := Lib.hid (HB6'.out.trans (hB.mono HB6'.out.size))
          have bD' := Lib.hid (bD.out.below hB)
          clear hB bD qB0 qB1 qBl qC0 qC1 qCl HB6'
          have bD := bD'
          clear bD'
          have qD0 := bD.out.c0
          have qD1 := bD.out.c1
          have qDl := World.block_lt_of_cell? (h := qD0)
          go_wp2_with fail
          obtain ⟨w7', hwE⟩ : ∃ w7', w7' = w7.alloc (Obj.cells #[Value.int IntKind.i64 Dx, Value.int IntKind.i64 Dy] 26) := ⟨_, rfl⟩
          rw [← hwE]
          have HB7' : Hid (Below w.heap.size w w7') := Lib.hid (by rw [hwE]; exact HB7.out.alloc HB7.out.size _)
          have bD' : Hid (BoxAt w7' w6.heap.size Dx Dy) := Lib.hid (by rw [hwE]; exact bD.out.alloc _)
          clear bD
          have bD := bD'
          clear bD'
          have bE : Hid (BoxAt w7' w7.heap.size Dx Dy) := Lib.hid (by rw [hwE]; exact ⟨by simp [go_sem], by simp [go_sem]⟩)
          clear hwE HB7
          go_ret
          exact ⟨rfl, HB7'.out⟩
        · skip
          go_wp2_with fail
          obtain ⟨w5', hwC⟩ : ∃ w5', w5' = w5.alloc (Obj.cells #[Value.int IntKind.i64 Cx, Value.int IntKind.i64 Cy] 26) := ⟨_, rfl⟩
          rw [← hwC]
          have HB5' : Hid (Below w.heap.size w w5') := Lib.hid (by rw [hwC]; exact HB5.out.alloc HB5.out.size _)
          have bL' : Hid (RowAt w5' w2.heap.size a b c d f t) := Lib.hid (by rw [hwC]; exact bL.out.alloc _)
          clear bL
          have bL := bL'
          clear bL'
          have bA' : Hid (BoxAt w5' w3.heap.size Ax Ay) := Lib.hid (by rw [hwC]; exact bA.out.alloc _)
          clear bA
          have bA := bA'
          clear bA'
          have bB' : Hid (BoxAt w5' w4.heap.size Bx By) := Lib.hid (by rw [hwC]; exact bB.out.alloc _)
          clear bB
          have bB := bB'
          clear bB'
          have bC : Hid (BoxAt w5' w5.heap.size Cx Cy) := Lib.hid (by rw [hwC]; exact ⟨by simp [go_sem], by simp [go_sem]⟩)
          clear hwC HB5
          go_ret
          exact ⟨rfl, HB5'.out⟩
      · skip
        go_wp2_with fail
        obtain ⟨w5', hwC⟩ : ∃ w5', w5' = w5.alloc (Obj.cells #[Value.int IntKind.i64 Cx, Value.int IntKind.i64 Cy] 26) := ⟨_, rfl⟩
        rw [← hwC]
        have HB5' : Hid (Below w.heap.size w w5') := Lib.hid (by rw [hwC]; exact HB5.out.alloc HB5.out.size _)
        have bL' : Hid (RowAt w5' w2.heap.size a b c d f t) := Lib.hid (by rw [hwC]; exact bL.out.alloc _)
        clear bL
        have bL := bL'
        clear bL'
        have bA' : Hid (BoxAt w5' w3.heap.size Ax Ay) := Lib.hid (by rw [hwC]; exact bA.out.alloc _)
        clear bA
        have bA := bA'
        clear bA'
        have bB' : Hid (BoxAt w5' w4.heap.size Bx By) := Lib.hid (by rw [hwC]; exact bB.out.alloc _)
        clear bB
        have bB := bB'
        clear bB'
        have bC : Hid (BoxAt w5' w5.heap.size Cx Cy) := Lib.hid (by rw [hwC]; exact ⟨by simp [go_sem], by simp [go_sem]⟩)
        clear hwC HB5
        go_ret
        exact ⟨rfl, HB5'.out⟩
    · skip
      go_wp2_with fail
      obtain ⟨w5', hwC⟩ : ∃ w5', w5' = w5.alloc (Obj.cells #[Value.int IntKind.i64 Cx, Value.int IntKind.i64 Cy] 26) := ⟨_, rfl⟩
      rw [← hwC]
      have HB5' : Hid (Below w.heap.size w w5') := Lib.hid (by rw [hwC]; exact HB5.out.alloc HB5.out.size _)
      have bL' : Hid (RowAt w5' w2.heap.size a b c d f t) := Lib.hid (by rw [hwC]; exact bL.out.alloc _)
      clear bL
      have bL := bL'
      clear bL'
      have bA' : Hid (BoxAt w5' w3.heap.size Ax Ay) := Lib.hid (by rw [hwC]; exact bA.out.alloc _)
      clear bA
      have bA := bA'
      clear bA'
      have bB' : Hid (BoxAt w5' w4.heap.size Bx By) := Lib.hid (by rw [hwC]; exact bB.out.alloc _)
      clear bB
      have bB := bB'
      clear bB'
      have bC : Hid (BoxAt w5' w5.heap.size Cx Cy) := Lib.hid (by rw [hwC]; exact ⟨by simp [go_sem], by simp [go_sem]⟩)
      clear hwC HB5
      go_ret
      exact ⟨rfl, HB5'.out⟩
end Go.Proofs.YtphphamfejgdaaaDoor
