/- The law RatioCommutes: it returns true. Conditions: ints; what the functions of texts read of memory; what is shown of sane. (Written by a program.) -/
import Derived.Test.YtphphamfejgdaaaDoorRatT
namespace Go.Proofs.YtphphamfejgdaaaDoor
open Go.RowKit

set_option maxRecDepth 20000 in
set_option maxHeartbeats 4000000 in
theorem comm_law (hS : SaneSays) (x0 x1 x2 x3 x4 x5 : Int) (er : Addr) (w : World) (hx0 : -9223372036854775808 ≤ x0 ∧ x0 ≤ 9223372036854775807) (hx1 : -9223372036854775808 ≤ x1 ∧ x1 ≤ 9223372036854775807) (hx2 : -9223372036854775808 ≤ x2 ∧ x2 ≤ 9223372036854775807) (hx3 : -9223372036854775808 ≤ x3 ∧ x3 ≤ 9223372036854775807) (hx4 : -9223372036854775808 ≤ x4 ∧ x4 ≤ 9223372036854775807) (hx5 : -9223372036854775808 ≤ x5 ∧ x5 ≤ 9223372036854775807) (hT : Txt w er) :
    Calls Tryd.prog 3 #[.agg #[.int .i64 x0, .int .i64 x1, .int .i64 x2, .int .i64 x3, .int .i64 x4, .int .i64 x5]] w fun e w' => e = .returned (.bool true) ∧ Below w.heap.size w w' := by
  have HT := Lib.hid hT
  have HS := Lib.hid hS
  have HM := Lib.hid (And.intro hx0 (And.intro hx1 (And.intro hx2 (And.intro hx3 (And.intro hx4 hx5)))))
  have HB0 : Hid (Below w.heap.size w w) := Lib.hid (Below.refl _ _)
  clear hT hS hx0 hx1 hx2 hx3 hx4 hx5
  go_enter Tryd.func3, Tryd.ntmps3
  go_wp2_with fail
  obtain ⟨w', hwX⟩ : ∃ w', w' = w.alloc (Obj.cells #[Value.int IntKind.i64 x0, Value.int IntKind.i64 x1, Value.int IntKind.i64 x2, Value.int IntKind.i64 x3, Value.int IntKind.i64 x4, Value.int IntKind.i64 x5] 23) := ⟨_, rfl⟩
  rw [← hwX]
  have HB0' : Hid (Below w.heap.size w w') := Lib.hid (by rw [hwX]; exact HB0.out.alloc HB0.out.size _)
  have bX : Hid (RowAt w' w.heap.size x0 x1 x2 x3 x4 x5) := Lib.hid (by rw [hwX]; exact ⟨by simp [go_sem], by simp [go_sem], by simp [go_sem], by simp [go_sem], by simp [go_sem], by simp [go_sem]⟩)
  clear hwX HB0
  refine (HS.out er _ (HT.out.below HB0'.out)).mono ?_
  rintro e w1 ⟨rfl, hB⟩
  have HB1 : Hid (Below w.heap.size w w1) := Lib.hid (HB0'.out.trans (hB.mono HB0'.out.size))
  have bX' := Lib.hid (bX.out.below hB)
  clear hB bX HB0'
  have bX := bX'
  clear bX'
  have qX0 := bX.out.c0
  have qX1 := bX.out.c1
  have qX2 := bX.out.c2
  have qX3 := bX.out.c3
  have qX4 := bX.out.c4
  have qX5 := bX.out.c5
  have qXl := World.block_lt_of_cell? (h := qX0)
  go_wp2_with fail
  clear bX
  refine (made_six x0 x1 x2 x3 x4 x5 er _ HM.out.1 HM.out.2.1 HM.out.2.2.1 HM.out.2.2.2.1 HM.out.2.2.2.2.1 HM.out.2.2.2.2.2 (HT.out.below HB1.out).err).mono ?_
  rintro e w2 ⟨⟨v, a, b, c, d, f, t, rfl, hV⟩, hB⟩
  have HB2 : Hid (Below w.heap.size w w2) := Lib.hid (HB1.out.trans (hB.mono HB1.out.size))
  clear hB qX0 qX1 qX2 qX3 qX4 qX5 qXl HB1
  have HV := Lib.hid hV
  clear hV
  cases v with
  | false =>
    clear HV
    go_wp2_with fail
    obtain ⟨w2', hwL⟩ : ∃ w2', w2' = w2.alloc (Obj.cells #[Value.int IntKind.i64 a, Value.int IntKind.i64 b, Value.int IntKind.i64 c, Value.int IntKind.i64 d, Value.int IntKind.i64 f, Value.int IntKind.i64 t] 27) := ⟨_, rfl⟩
    rw [← hwL]
    have HB2' : Hid (Below w.heap.size w w2') := Lib.hid (by rw [hwL]; exact HB2.out.alloc HB2.out.size _)
    have bL : Hid (RowAt w2' w2.heap.size a b c d f t) := Lib.hid (by rw [hwL]; exact ⟨by simp [go_sem], by simp [go_sem], by simp [go_sem], by simp [go_sem], by simp [go_sem], by simp [go_sem]⟩)
    clear hwL HB2
    go_ret
    exact ⟨rfl, HB2'.out⟩
  | true =>
    obtain ⟨p, q, r, hp, hq, hr⟩ := HV.out rfl
    have HP := Lib.hid hp
    have HQ := Lib.hid hq
    have HR := Lib.hid hr
    clear HV hp hq hr
    go_wp2_with fail
    obtain ⟨w2', hwL⟩ : ∃ w2', w2' = w2.alloc (Obj.cells #[Value.int IntKind.i64 a, Value.int IntKind.i64 b, Value.int IntKind.i64 c, Value.int IntKind.i64 d, Value.int IntKind.i64 f, Value.int IntKind.i64 t] 27) := ⟨_, rfl⟩
    rw [← hwL]
    have HB2' : Hid (Below w.heap.size w w2') := Lib.hid (by rw [hwL]; exact HB2.out.alloc HB2.out.size _)
    have bL : Hid (RowAt w2' w2.heap.size a b c d f t) := Lib.hid (by rw [hwL]; exact ⟨by simp [go_sem], by simp [go_sem], by simp [go_sem], by simp [go_sem], by simp [go_sem], by simp [go_sem]⟩)
    clear hwL HB2
    obtain ⟨Ax, Ay, Az, hA⟩ : ∃ x y z, Parts (Rt.fit (p + q)) x y z := ⟨_, _, _, Parts.of _⟩
    have HA := Lib.hid hA
    clear hA
    obtain ⟨Cx, Cy, Cz, hC⟩ : ∃ x y z, Parts (Rt.fit (p * q)) x y z := ⟨_, _, _, Parts.of _⟩
    have HC := Lib.hid hC
    clear hC
    obtain ⟨Tx, Ty, Tz, hT⟩ : ∃ x y z, Parts (Rt.fit (q + r)) x y z := ⟨_, _, _, Parts.of _⟩
    have HT' := Lib.hid hT
    clear hT
    refine (addF p q _ a b c d Ax Ay Az er _ HP.out HQ.out (HT.out.below HB2'.out).err rfl HA.out).mono ?_
    rintro e w3 ⟨rfl, hB⟩
    have HB3 : Hid (Below w.heap.size w w3) := Lib.hid (HB2'.out.trans (hB.mono HB2'.out.size))
    have bL' := Lib.hid (bL.out.below hB)
    clear hB bL HB2'
    have bL := bL'
    clear bL'
    have qL0 := bL.out.c0
    have qL1 := bL.out.c1
    have qL2 := bL.out.c2
    have qL3 := bL.out.c3
    have qL4 := bL.out.c4
    have qL5 := bL.out.c5
    have qLl := World.block_lt_of_cell? (h := qL0)
    go_wp2_with fail
    obtain ⟨w3', hwA⟩ : ∃ w3', w3' = w3.alloc (Obj.cells #[Value.int IntKind.i64 Ax, Value.int IntKind.i64 Ay] 26) := ⟨_, rfl⟩
    rw [← hwA]
    have HB3' : Hid (Below w.heap.size w w3') := Lib.hid (by rw [hwA]; exact HB3.out.alloc HB3.out.size _)
    have bL' : Hid (RowAt w3' w2.heap.size a b c d f t) := Lib.hid (by rw [hwA]; exact bL.out.alloc _)
    clear bL
    have bL := bL'
    clear bL'
    have bA : Hid (BoxAt w3' w3.heap.size Ax Ay) := Lib.hid (by rw [hwA]; exact ⟨by simp [go_sem], by simp [go_sem]⟩)
    clear hwA HB3
    refine (addF q p _ c d a b Ax Ay Az er _ HQ.out HP.out (HT.out.below HB3'.out).err (by rw [Rat.add_comm]) HA.out).mono ?_
    rintro e w4 ⟨rfl, hB⟩
    have HB4 : Hid (Below w.heap.size w w4) := Lib.hid (HB3'.out.trans (hB.mono HB3'.out.size))
    have bL' := Lib.hid (bL.out.below hB)
    have bA' := Lib.hid (bA.out.below hB)
    clear hB bL bA qL0 qL1 qL2 qL3 qL4 qL5 qLl HB3'
    have bL := bL'
    clear bL'
    have bA := bA'
    clear bA'
    have qL0 := bL.out.c0
    have qL1 := bL.out.c1
    have qL2 := bL.out.c2
    have qL3 := bL.out.c3
    have qL4 := bL.out.c4
    have qL5 := bL.out.c5
    have qLl := World.block_lt_of_cell? (h := qL0)
    go_wp2_with fail
    obtain ⟨w4', hwB⟩ : ∃ w4', w4' = w4.alloc (Obj.cells #[Value.int IntKind.i64 Ax, Value.int IntKind.i64 Ay] 26) := ⟨_, rfl⟩
    rw [← hwB]
    have HB4' : Hid (Below w.heap.size w w4') := Lib.hid (by rw [hwB]; exact HB4.out.alloc HB4.out.size _)
    have bL' : Hid (RowAt w4' w2.heap.size a b c d f t) := Lib.hid (by rw [hwB]; exact bL.out.alloc _)
    clear bL
    have bL := bL'
    clear bL'
    have bA' : Hid (BoxAt w4' w3.heap.size Ax Ay) := Lib.hid (by rw [hwB]; exact bA.out.alloc _)
    clear bA
    have bA := bA'
    clear bA'
    have bB : Hid (BoxAt w4' w4.heap.size Ax Ay) := Lib.hid (by rw [hwB]; exact ⟨by simp [go_sem], by simp [go_sem]⟩)
    clear hwB HB4
    refine (mulF p q _ a b c d Cx Cy Cz er _ HP.out HQ.out (HT.out.below HB4'.out).err rfl HC.out).mono ?_
    rintro e w5 ⟨rfl, hB⟩
    have HB5 : Hid (Below w.heap.size w w5) := Lib.hid (HB4'.out.trans (hB.mono HB4'.out.size))
    have bL' := Lib.hid (bL.out.below hB)
    have bA' := Lib.hid (bA.out.below hB)
    have bB' := Lib.hid (bB.out.below hB)
    clear hB bL bA bB qL0 qL1 qL2 qL3 qL4 qL5 qLl HB4'
    have bL := bL'
    clear bL'
    have bA := bA'
    clear bA'
    have bB := bB'
    clear bB'
    have qL0 := bL.out.c0
    have qL1 := bL.out.c1
    have qL2 := bL.out.c2
    have qL3 := bL.out.c3
    have qL4 := bL.out.c4
    have qL5 := bL.out.c5
    have qLl := World.block_lt_of_cell? (h := qL0)
    go_wp2_with fail
    obtain ⟨w5', hwC⟩ : ∃ w5', w5' = w5.alloc (Obj.cells #[Value.int IntKind.i64 Cx, Value.int IntKind.i64 Cy] 26) := ⟨_, rfl⟩
    rw [← hwC]
    have HB5' : Hid (Below w.heap.size w w5') := Lib.hid (by rw [hwC]; exact HB5.out.alloc HB5.out.size _)
    have bL' : Hid (RowAt w5' w2.heap.size a b c d f t) := Lib.hid (by rw [hwC]; exact bL.out.alloc _)
    clear bL
    have bL := bL'
    clear bL'
    have bA' : Hid (BoxAt w5' w3.heap.size Ax Ay) := Lib.hid (by rw [hwC]; exact bA.out.alloc _)
    clear bA
    have bA := bA'
    clear bA'
    have bB' : Hid (BoxAt w5' w4.heap.size Ax Ay) := Lib.hid (by rw [hwC]; exact bB.out.alloc _)
    clear bB
    have bB := bB'
    clear bB'
    have bC : Hid (BoxAt w5' w5.heap.size Cx Cy) := Lib.hid (by rw [hwC]; exact ⟨by simp [go_sem], by simp [go_sem]⟩)
    clear hwC HB5
    refine (mulF q p _ c d a b Cx Cy Cz er _ HQ.out HP.out (HT.out.below HB5'.out).err (by rw [Rat.mul_comm]) HC.out).mono ?_
    rintro e w6 ⟨rfl, hB⟩
    have HB6 : Hid (Below w.heap.size w w6) := Lib.hid (HB5'.out.trans (hB.mono HB5'.out.size))
    have bL' := Lib.hid (bL.out.below hB)
    have bA' := Lib.hid (bA.out.below hB)
    have bB' := Lib.hid (bB.out.below hB)
    have bC' := Lib.hid (bC.out.below hB)
    clear hB bL bA bB bC qL0 qL1 qL2 qL3 qL4 qL5 qLl HB5'
    have bL := bL'
    clear bL'
    have bA := bA'
    clear bA'
    have bB := bB'
    clear bB'
    have bC := bC'
    clear bC'
    have qA0 := bA.out.c0
    have qA1 := bA.out.c1
    have qAl := World.block_lt_of_cell? (h := qA0)
    have qB0 := bB.out.c0
    have qB1 := bB.out.c1
    have qBl := World.block_lt_of_cell? (h := qB0)
    have qC0 := bC.out.c0
    have qC1 := bC.out.c1
    have qCl := World.block_lt_of_cell? (h := qC0)
    have qL0 := bL.out.c0
    have qL1 := bL.out.c1
    have qL2 := bL.out.c2
    have qL3 := bL.out.c3
    have qL4 := bL.out.c4
    have qL5 := bL.out.c5
    have qLl := World.block_lt_of_cell? (h := qL0)
    go_wp2_with fail
    obtain ⟨w6', hwD⟩ : ∃ w6', w6' = w6.alloc (Obj.cells #[Value.int IntKind.i64 Cx, Value.int IntKind.i64 Cy] 26) := ⟨_, rfl⟩
    rw [← hwD]
    have HB6' : Hid (Below w.heap.size w w6') := Lib.hid (by rw [hwD]; exact HB6.out.alloc HB6.out.size _)
    have bL' : Hid (RowAt w6' w2.heap.size a b c d f t) := Lib.hid (by rw [hwD]; exact bL.out.alloc _)
    clear bL
    have bL := bL'
    clear bL'
    have bA' : Hid (BoxAt w6' w3.heap.size Ax Ay) := Lib.hid (by rw [hwD]; exact bA.out.alloc _)
    clear bA
    have bA := bA'
    clear bA'
    have bB' : Hid (BoxAt w6' w4.heap.size Ax Ay) := Lib.hid (by rw [hwD]; exact bB.out.alloc _)
    clear bB
    have bB := bB'
    clear bB'
    have bC' : Hid (BoxAt w6' w5.heap.size Cx Cy) := Lib.hid (by rw [hwD]; exact bC.out.alloc _)
    clear bC
    have bC := bC'
    clear bC'
    have bD : Hid (BoxAt w6' w6.heap.size Cx Cy) := Lib.hid (by rw [hwD]; exact ⟨by simp [go_sem], by simp [go_sem]⟩)
    clear hwD HB6
    clear bB
    clear bD
    refine (addF q r _ c d f t Tx Ty Tz er _ HQ.out HR.out (HT.out.below HB6'.out).err rfl HT'.out).mono ?_
    rintro e w7 ⟨rfl, hB⟩
    have HB7 : Hid (Below w.heap.size w w7) := Lib.hid (HB6'.out.trans (hB.mono HB6'.out.size))
    have bL' := Lib.hid (bL.out.below hB)
    have bA' := Lib.hid (bA.out.below hB)
    have bC' := Lib.hid (bC.out.below hB)
    clear hB bL bA bC qA0 qA1 qAl qB0 qB1 qBl qC0 qC1 qCl qL0 qL1 qL2 qL3 qL4 qL5 qLl HB6'
    have bL := bL'
    clear bL'
    have bA := bA'
    clear bA'
    have bC := bC'
    clear bC'
    rcases HA.out.err with rfl | rfl
    · rcases HT'.out.err with rfl | rfl
      · have HIA := Lib.hid (HA.out.is rfl).1
        have HIT := Lib.hid (HT'.out.is rfl).1
        obtain ⟨M'x, M'y, M'z, hM'⟩ : ∃ x y z, Parts (Rt.fit (p + q + r)) x y z := ⟨_, _, _, Parts.of _⟩
        have HM' := Lib.hid hM'
        clear hM'
        have qA0 := bA.out.c0
        have qA1 := bA.out.c1
        have qAl := World.block_lt_of_cell? (h := qA0)
        have qL0 := bL.out.c0
        have qL1 := bL.out.c1
        have qL2 := bL.out.c2
        have qL3 := bL.out.c3
        have qL4 := bL.out.c4
        have qL5 := bL.out.c5
        have qLl := World.block_lt_of_cell? (h := qL0)
        go_wp2_with fail
        obtain ⟨w7', hwI⟩ : ∃ w7', w7' = w7.alloc (Obj.cells #[Value.int IntKind.i64 Tx, Value.int IntKind.i64 Ty] 26) := ⟨_, rfl⟩
        rw [← hwI]
        have HB7' : Hid (Below w.heap.size w w7') := Lib.hid (by rw [hwI]; exact HB7.out.alloc HB7.out.size _)
        have bL' : Hid (RowAt w7' w2.heap.size a b c d f t) := Lib.hid (by rw [hwI]; exact bL.out.alloc _)
        clear bL
        have bL := bL'
        clear bL'
        have bA' : Hid (BoxAt w7' w3.heap.size Ax Ay) := Lib.hid (by rw [hwI]; exact bA.out.alloc _)
        clear bA
        have bA := bA'
        clear bA'
        have bC' : Hid (BoxAt w7' w5.heap.size Cx Cy) := Lib.hid (by rw [hwI]; exact bC.out.alloc _)
        clear bC
        have bC := bC'
        clear bC'
        have bI : Hid (BoxAt w7' w7.heap.size Tx Ty) := Lib.hid (by rw [hwI]; exact ⟨by simp [go_sem], by simp [go_sem]⟩)
        clear hwI HB7
        clear bA
        refine (addF (p + q) r _ Ax Ay f t M'x M'y M'z er _ HIA.out HR.out (HT.out.below HB7'.out).err rfl HM'.out).mono ?_
        rintro e w8 ⟨rfl, hB⟩
        have HB8 : Hid (Below w.heap.size w w8) := Lib.hid (HB7'.out.trans (hB.mono HB7'.out.size))
        have bL' := Lib.hid (bL.out.below hB)
        have bC' := Lib.hid (bC.out.below hB)
        have bI' := Lib.hid (bI.out.below hB)
        clear hB bL bC bI qA0 qA1 qAl qL0 qL1 qL2 qL3 qL4 qL5 qLl HB7'
        have bL := bL'
        clear bL'
        have bC := bC'
        clear bC'
        have bI := bI'
        clear bI'
        have qL0 := bL.out.c0
        have qL1 := bL.out.c1
        have qL2 := bL.out.c2
        have qL3 := bL.out.c3
        have qL4 := bL.out.c4
        have qL5 := bL.out.c5
        have qLl := World.block_lt_of_cell? (h := qL0)
        have qI0 := bI.out.c0
        have qI1 := bI.out.c1
        have qIl := World.block_lt_of_cell? (h := qI0)
        go_wp2_with fail
        obtain ⟨w8', hwM⟩ : ∃ w8', w8' = w8.alloc (Obj.cells #[Value.int IntKind.i64 M'x, Value.int IntKind.i64 M'y] 26) := ⟨_, rfl⟩
        rw [← hwM]
        have HB8' : Hid (Below w.heap.size w w8') := Lib.hid (by rw [hwM]; exact HB8.out.alloc HB8.out.size _)
        have bL' : Hid (RowAt w8' w2.heap.size a b c d f t) := Lib.hid (by rw [hwM]; exact bL.out.alloc _)
        clear bL
        have bL := bL'
        clear bL'
        have bC' : Hid (BoxAt w8' w5.heap.size Cx Cy) := Lib.hid (by rw [hwM]; exact bC.out.alloc _)
        clear bC
        have bC := bC'
        clear bC'
        have bI' : Hid (BoxAt w8' w7.heap.size Tx Ty) := Lib.hid (by rw [hwM]; exact bI.out.alloc _)
        clear bI
        have bI := bI'
        clear bI'
        have bM : Hid (BoxAt w8' w8.heap.size M'x M'y) := Lib.hid (by rw [hwM]; exact ⟨by simp [go_sem], by simp [go_sem]⟩)
        clear hwM HB8
        clear bI
        refine (addF p (q + r) _ a b Tx Ty M'x M'y M'z er _ HP.out HIT.out (HT.out.below HB8'.out).err (by rw [Rat.add_assoc]) HM'.out).mono ?_
        rintro e w9 ⟨rfl, hB⟩
        have HB9 : Hid (Below w.heap.size w w9) := Lib.hid (HB8'.out.trans (hB.mono HB8'.out.size))
        have bL' := Lib.hid (bL.out.below hB)
        have bC' := Lib.hid (bC.out.below hB)
        have bM' := Lib.hid (bM.out.below hB)
        clear hB bL bC bM qL0 qL1 qL2 qL3 qL4 qL5 qLl qI0 qI1 qIl HB8'
        have bL := bL'
        clear bL'
        have bC := bC'
        clear bC'
        have bM := bM'
        clear bM'
        have qM0 := bM.out.c0
        have qM1 := bM.out.c1
        have qMl := World.block_lt_of_cell? (h := qM0)
        have qL0 := bL.out.c0
        have qL1 := bL.out.c1
        have qL2 := bL.out.c2
        have qL3 := bL.out.c3
        have qL4 := bL.out.c4
        have qL5 := bL.out.c5
        have qLl := World.block_lt_of_cell? (h := qL0)
        go_wp2_with fail
        obtain ⟨w9', hwN⟩ : ∃ w9', w9' = w9.alloc (Obj.cells #[Value.int IntKind.i64 M'x, Value.int IntKind.i64 M'y] 26) := ⟨_, rfl⟩
        rw [← hwN]
        have HB9' : Hid (Below w.heap.size w w9') := Lib.hid (by rw [hwN]; exact HB9.out.alloc HB9.out.size _)
        have bL' : Hid (RowAt w9' w2.heap.size a b c d f t) := Lib.hid (by rw [hwN]; exact bL.out.alloc _)
        clear bL
        have bL := bL'
        clear bL'
        have bC' : Hid (BoxAt w9' w5.heap.size Cx Cy) := Lib.hid (by rw [hwN]; exact bC.out.alloc _)
        clear bC
        have bC := bC'
        clear bC'
        have bM' : Hid (BoxAt w9' w8.heap.size M'x M'y) := Lib.hid (by rw [hwN]; exact bM.out.alloc _)
        clear bM
        have bM := bM'
        clear bM'
        have bN : Hid (BoxAt w9' w9.heap.size M'x M'y) := Lib.hid (by rw [hwN]; exact ⟨by simp [go_sem], by simp [go_sem]⟩)
        clear hwN HB9
        clear bM
        clear bN
        obtain ⟨Q'x, Q'y, Q'z, hQ'⟩ : ∃ x y z, Parts (Rt.fit (q * r)) x y z := ⟨_, _, _, Parts.of _⟩
        have HQ' := Lib.hid hQ'
        clear hQ'
        refine (mulF q r _ c d f t Q'x Q'y Q'z er _ HQ.out HR.out (HT.out.below HB9'.out).err rfl HQ'.out).mono ?_
        rintro e w10 ⟨rfl, hB⟩
        have HB10 : Hid (Below w.heap.size w w10) := Lib.hid (HB9'.out.trans (hB.mono HB9'.out.size))
        have bL' := Lib.hid (bL.out.below hB)
        have bC' := Lib.hid (bC.out.below hB)
        clear hB bL bC qM0 qM1 qMl qL0 qL1 qL2 qL3 qL4 qL5 qLl HB9'
        have bL := bL'
        clear bL'
        have bC := bC'
        clear bC'
        rcases HC.out.err with rfl | rfl
        · rcases HQ'.out.err with rfl | rfl
          · have HIC := Lib.hid (HC.out.is rfl).1
            have HIQ := Lib.hid (HQ'.out.is rfl).1
            obtain ⟨Nx, Ny, Nz, hN⟩ : ∃ x y z, Parts (Rt.fit (p * q * r)) x y z := ⟨_, _, _, Parts.of _⟩
            have HN := Lib.hid hN
            clear hN
            have qC0 := bC.out.c0
            have qC1 := bC.out.c1
            have qCl := World.block_lt_of_cell? (h := qC0)
            have qL0 := bL.out.c0
            have qL1 := bL.out.c1
            have qL2 := bL.out.c2
            have qL3 := bL.out.c3
            have qL4 := bL.out.c4
            have qL5 := bL.out.c5
            have qLl := World.block_lt_of_cell? (h := qL0)
            go_wp2_with fail
            obtain ⟨w10', hwP⟩ : ∃ w10', w10' = w10.alloc (Obj.cells #[Value.int IntKind.i64 Q'x, Value.int IntKind.i64 Q'y] 26) := ⟨_, rfl⟩
            rw [← hwP]
            have HB10' : Hid (Below w.heap.size w w10') := Lib.hid (by rw [hwP]; exact HB10.out.alloc HB10.out.size _)
            have bL' : Hid (RowAt w10' w2.heap.size a b c d f t) := Lib.hid (by rw [hwP]; exact bL.out.alloc _)
            clear bL
            have bL := bL'
            clear bL'
            have bC' : Hid (BoxAt w10' w5.heap.size Cx Cy) := Lib.hid (by rw [hwP]; exact bC.out.alloc _)
            clear bC
            have bC := bC'
            clear bC'
            have bP : Hid (BoxAt w10' w10.heap.size Q'x Q'y) := Lib.hid (by rw [hwP]; exact ⟨by simp [go_sem], by simp [go_sem]⟩)
            clear hwP HB10
            clear bC
            refine (mulF (p * q) r _ Cx Cy f t Nx Ny Nz er _ HIC.out HR.out (HT.out.below HB10'.out).err rfl HN.out).mono ?_
            rintro e w11 ⟨rfl, hB⟩
            have HB11 : Hid (Below w.heap.size w w11) := Lib.hid (HB10'.out.trans (hB.mono HB10'.out.size))
            have bL' := Lib.hid (bL.out.below hB)
            have bP' := Lib.hid (bP.out.below hB)
            clear hB bL bP qC0 qC1 qCl qL0 qL1 qL2 qL3 qL4 qL5 qLl HB10'
            have bL := bL'
            clear bL'
            have bP := bP'
            clear bP'
            have qL0 := bL.out.c0
            have qL1 := bL.out.c1
            have qL2 := bL.out.c2
            have qL3 := bL.out.c3
            have qL4 := bL.out.c4
            have qL5 := bL.out.c5
            have qLl := World.block_lt_of_cell? (h := qL0)
            have qP0 := bP.out.c0
            have qP1 := bP.out.c1
            have qPl := World.block_lt_of_cell? (h := qP0)
            go_wp2_with fail
            obtain ⟨w11', hwM⟩ : ∃ w11', w11' = w11.alloc (Obj.cells #[Value.int IntKind.i64 Nx, Value.int IntKind.i64 Ny] 26) := ⟨_, rfl⟩
            rw [← hwM]
            have HB11' : Hid (Below w.heap.size w w11') := Lib.hid (by rw [hwM]; exact HB11.out.alloc HB11.out.size _)
            have bL' : Hid (RowAt w11' w2.heap.size a b c d f t) := Lib.hid (by rw [hwM]; exact bL.out.alloc _)
            clear bL
            have bL := bL'
            clear bL'
            have bP' : Hid (BoxAt w11' w10.heap.size Q'x Q'y) := Lib.hid (by rw [hwM]; exact bP.out.alloc _)
            clear bP
            have bP := bP'
            clear bP'
            have bM : Hid (BoxAt w11' w11.heap.size Nx Ny) := Lib.hid (by rw [hwM]; exact ⟨by simp [go_sem], by simp [go_sem]⟩)
            clear hwM HB11
            clear bL
            clear bP
            refine (mulF p (q * r) _ a b Q'x Q'y Nx Ny Nz er _ HP.out HIQ.out (HT.out.below HB11'.out).err (by rw [Rat.mul_assoc]) HN.out).mono ?_
            rintro e w12 ⟨rfl, hB⟩
            have HB12 : Hid (Below w.heap.size w w12) := Lib.hid (HB11'.out.trans (hB.mono HB11'.out.size))
            have bM' := Lib.hid (bM.out.below hB)
            clear hB bM qL0 qL1 qL2 qL3 qL4 qL5 qLl qP0 qP1 qPl HB11'
            have bM := bM'
            clear bM'
            have qM0 := bM.out.c0
            have qM1 := bM.out.c1
            have qMl := World.block_lt_of_cell? (h := qM0)
            go_wp2_with fail
            obtain ⟨w12', hwN⟩ : ∃ w12', w12' = w12.alloc (Obj.cells #[Value.int IntKind.i64 Nx, Value.int IntKind.i64 Ny] 26) := ⟨_, rfl⟩
            rw [← hwN]
            have HB12' : Hid (Below w.heap.size w w12') := Lib.hid (by rw [hwN]; exact HB12.out.alloc HB12.out.size _)
            have bM' : Hid (BoxAt w12' w11.heap.size Nx Ny) := Lib.hid (by rw [hwN]; exact bM.out.alloc _)
            clear bM
            have bM := bM'
            clear bM'
            have bN : Hid (BoxAt w12' w12.heap.size Nx Ny) := Lib.hid (by rw [hwN]; exact ⟨by simp [go_sem], by simp [go_sem]⟩)
            clear hwN HB12
            go_ret
            exact ⟨rfl, HB12'.out⟩
          · skip
            go_wp2_with fail
            obtain ⟨w10', hwP⟩ : ∃ w10', w10' = w10.alloc (Obj.cells #[Value.int IntKind.i64 Q'x, Value.int IntKind.i64 Q'y] 26) := ⟨_, rfl⟩
            rw [← hwP]
            have HB10' : Hid (Below w.heap.size w w10') := Lib.hid (by rw [hwP]; exact HB10.out.alloc HB10.out.size _)
            have bL' : Hid (RowAt w10' w2.heap.size a b c d f t) := Lib.hid (by rw [hwP]; exact bL.out.alloc _)
            clear bL
            have bL := bL'
            clear bL'
            have bC' : Hid (BoxAt w10' w5.heap.size Cx Cy) := Lib.hid (by rw [hwP]; exact bC.out.alloc _)
            clear bC
            have bC := bC'
            clear bC'
            have bP : Hid (BoxAt w10' w10.heap.size Q'x Q'y) := Lib.hid (by rw [hwP]; exact ⟨by simp [go_sem], by simp [go_sem]⟩)
            clear hwP HB10
            go_ret
            exact ⟨rfl, HB10'.out⟩
        · skip
          go_wp2_with fail
          obtain ⟨w10', hwP⟩ : ∃ w10', w10' = w10.alloc (Obj.cells #[Value.int IntKind.i64 Q'x, Value.int IntKind.i64 Q'y] 26) := ⟨_, rfl⟩
          rw [← hwP]
          have HB10' : Hid (Below w.heap.size w w10') := Lib.hid (by rw [hwP]; exact HB10.out.alloc HB10.out.size _)
          have bL' : Hid (RowAt w10' w2.heap.size a b c d f t) := Lib.hid (by rw [hwP]; exact bL.out.alloc _)
          clear bL
          have bL := bL'
          clear bL'
          have bC' : Hid (BoxAt w10' w5.heap.size Cx Cy) := Lib.hid (by rw [hwP]; exact bC.out.alloc _)
          clear bC
          have bC := bC'
          clear bC'
          have bP : Hid (BoxAt w10' w10.heap.size Q'x Q'y) := Lib.hid (by rw [hwP]; exact ⟨by simp [go_sem], by simp [go_sem]⟩)
          clear hwP HB10
          go_ret
          exact ⟨rfl, HB10'.out⟩
      · skip
        clear bA
        have qL0 := bL.out.c0
        have qL1 := bL.out.c1
        have qL2 := bL.out.c2
        have qL3 := bL.out.c3
        have qL4 := bL.out.c4
        have qL5 := bL.out.c5
        have qLl := World.block_lt_of_cell? (h := qL0)
        go_wp2_with fail
        obtain ⟨w7', hwI⟩ : ∃ w7', w7' = w7.alloc (Obj.cells #[Value.int IntKind.i64 Tx, Value.int IntKind.i64 Ty] 26) := ⟨_, rfl⟩
        rw [← hwI]
        have HB7' : Hid (Below w.heap.size w w7') := Lib.hid (by rw [hwI]; exact HB7.out.alloc HB7.out.size _)
        have bL' : Hid (RowAt w7' w2.heap.size a b c d f t) := Lib.hid (by rw [hwI]; exact bL.out.alloc _)
        clear bL
        have bL := bL'
        clear bL'
        have bC' : Hid (BoxAt w7' w5.heap.size Cx Cy) := Lib.hid (by rw [hwI]; exact bC.out.alloc _)
        clear bC
        have bC := bC'
        clear bC'
        have bI : Hid (BoxAt w7' w7.heap.size Tx Ty) := Lib.hid (by rw [hwI]; exact ⟨by simp [go_sem], by simp [go_sem]⟩)
        clear hwI HB7
        clear bI
        obtain ⟨Q'x, Q'y, Q'z, hQ'⟩ : ∃ x y z, Parts (Rt.fit (q * r)) x y z := ⟨_, _, _, Parts.of _⟩
        have HQ' := Lib.hid hQ'
        clear hQ'
        refine (mulF q r _ c d f t Q'x Q'y Q'z er _ HQ.out HR.out (HT.out.below HB7'.out).err rfl HQ'.out).mono ?_
        rintro e w13 ⟨rfl, hB⟩
        have HB13 : Hid (Below w.heap.size w w13) := Lib.hid (HB7'.out.trans (hB.mono HB7'.out.size))
        have bL' := Lib.hid (bL.out.below hB)
        have bC' := Lib.hid (bC.out.below hB)
        clear hB bL bC qL0 qL1 qL2 qL3 qL4 qL5 qLl HB7'
        have bL := bL'
        clear bL'
        have bC := bC'
        clear bC'
        rcases HC.out.err with rfl | rfl
        · rcases HQ'.out.err with rfl | rfl
          · have HIC := Lib.hid (HC.out.is rfl).1
            have HIQ := Lib.hid (HQ'.out.is rfl).1
            obtain ⟨Nx, Ny, Nz, hN⟩ : ∃ x y z, Parts (Rt.fit (p * q * r)) x y z := ⟨_, _, _, Parts.of _⟩
            have HN := Lib.hid hN
            clear hN
            have qC0 := bC.out.c0
            have qC1 := bC.out.c1
            have qCl := World.block_lt_of_cell? (h := qC0)
            have qL0 := bL.out.c0
            have qL1 := bL.out.c1
            have qL2 := bL.out.c2
            have qL3 := bL.out.c3
            have qL4 := bL.out.c4
            have qL5 := bL.out.c5
            have qLl := World.block_lt_of_cell? (h := qL0)
            go_wp2_with fail
            obtain ⟨w13', hwP⟩ : ∃ w13', w13' = w13.alloc (Obj.cells #[Value.int IntKind.i64 Q'x, Value.int IntKind.i64 Q'y] 26) := ⟨_, rfl⟩
            rw [← hwP]
            have HB13' : Hid (Below w.heap.size w w13') := Lib.hid (by rw [hwP]; exact HB13.out.alloc HB13.out.size _)
            have bL' : Hid (RowAt w13' w2.heap.size a b c d f t) := Lib.hid (by rw [hwP]; exact bL.out.alloc _)
            clear bL
            have bL := bL'
            clear bL'
            have bC' : Hid (BoxAt w13' w5.heap.size Cx Cy) := Lib.hid (by rw [hwP]; exact bC.out.alloc _)
            clear bC
            have bC := bC'
            clear bC'
            have bP : Hid (BoxAt w13' w13.heap.size Q'x Q'y) := Lib.hid (by rw [hwP]; exact ⟨by simp [go_sem], by simp [go_sem]⟩)
            clear hwP HB13
            clear bC
            refine (mulF (p * q) r _ Cx Cy f t Nx Ny Nz er _ HIC.out HR.out (HT.out.below HB13'.out).err rfl HN.out).mono ?_
            rintro e w14 ⟨rfl, hB⟩
            have HB14 : Hid (Below w.heap.size w w14) := Lib.hid (HB13'.out.trans (hB.mono HB13'.out.size))
            have bL' := Lib.hid (bL.out.below hB)
            have bP' := Lib.hid (bP.out.below hB)
            clear hB bL bP qC0 qC1 qCl qL0 qL1 qL2 qL3 qL4 qL5 qLl HB13'
            have bL := bL'
            clear bL'
            have bP := bP'
            clear bP'
            have qL0 := bL.out.c0
            have qL1 := bL.out.c1
            have qL2 := bL.out.c2
            have qL3 := bL.out.c3
            have qL4 := bL.out.c4
            have qL5 := bL.out.c5
            have qLl := World.block_lt_of_cell? (h := qL0)
            have qP0 := bP.out.c0
            have qP1 := bP.out.c1
            have qPl := World.block_lt_of_cell? (h := qP0)
            go_wp2_with fail
            obtain ⟨w14', hwM⟩ : ∃ w14', w14' = w14.alloc (Obj.cells #[Value.int IntKind.i64 Nx, Value.int IntKind.i64 Ny] 26) := ⟨_, rfl⟩
            rw [← hwM]
            have HB14' : Hid (Below w.heap.size w w14') := Lib.hid (by rw [hwM]; exact HB14.out.alloc HB14.out.size _)
            have bL' : Hid (RowAt w14' w2.heap.size a b c d f t) := Lib.hid (by rw [hwM]; exact bL.out.alloc _)
            clear bL
            have bL := bL'
            clear bL'
            have bP' : Hid (BoxAt w14' w13.heap.size Q'x Q'y) := Lib.hid (by rw [hwM]; exact bP.out.alloc _)
            clear bP
            have bP := bP'
            clear bP'
            have bM : Hid (BoxAt w14' w14.heap.size Nx Ny) := Lib.hid (by rw [hwM]; exact ⟨by simp [go_sem], by simp [go_sem]⟩)
            clear hwM HB14
            clear bL
            clear bP
            refine (mulF p (q * r) _ a b Q'x Q'y Nx Ny Nz er _ HP.out HIQ.out (HT.out.below HB14'.out).err (by rw [Rat.mul_assoc]) HN.out).mono ?_
            rintro e w15 ⟨rfl, hB⟩
            have HB15 : Hid (Below w.heap.size w w15) := Lib.hid (HB14'.out.trans (hB.mono HB14'.out.size))
            have bM' := Lib.hid (bM.out.below hB)
            clear hB bM qL0 qL1 qL2 qL3 qL4 qL5 qLl qP0 qP1 qPl HB14'
            have bM := bM'
            clear bM'
            have qM0 := bM.out.c0
            have qM1 := bM.out.c1
            have qMl := World.block_lt_of_cell? (h := qM0)
            go_wp2_with fail
            obtain ⟨w15', hwN⟩ : ∃ w15', w15' = w15.alloc (Obj.cells #[Value.int IntKind.i64 Nx, Value.int IntKind.i64 Ny] 26) := ⟨_, rfl⟩
            rw [← hwN]
            have HB15' : Hid (Below w.heap.size w w15') := Lib.hid (by rw [hwN]; exact HB15.out.alloc HB15.out.size _)
            have bM' : Hid (BoxAt w15' w14.heap.size Nx Ny) := Lib.hid (by rw [hwN]; exact bM.out.alloc _)
            clear bM
            have bM := bM'
            clear bM'
            have bN : Hid (BoxAt w15' w15.heap.size Nx Ny) := Lib.hid (by rw [hwN]; exact ⟨by simp [go_sem], by simp [go_sem]⟩)
            clear hwN HB15
            go_ret
            exact ⟨rfl, HB15'.out⟩
          · skip
            go_wp2_with fail
            obtain ⟨w13', hwP⟩ : ∃ w13', w13' = w13.alloc (Obj.cells #[Value.int IntKind.i64 Q'x, Value.int IntKind.i64 Q'y] 26) := ⟨_, rfl⟩
            rw [← hwP]
            have HB13' : Hid (Below w.heap.size w w13') := Lib.hid (by rw [hwP]; exact HB13.out.alloc HB13.out.size _)
            have bL' : Hid (RowAt w13' w2.heap.size a b c d f t) := Lib.hid (by rw [hwP]; exact bL.out.alloc _)
            clear bL
            have bL := bL'
            clear bL'
            have bC' : Hid (BoxAt w13' w5.heap.size Cx Cy) := Lib.hid (by rw [hwP]; exact bC.out.alloc _)
            clear bC
            have bC := bC'
            clear bC'
            have bP : Hid (BoxAt w13' w13.heap.size Q'x Q'y) := Lib.hid (by rw [hwP]; exact ⟨by simp [go_sem], by simp [go_sem]⟩)
            clear hwP HB13
            go_ret
            exact ⟨rfl, HB13'.out⟩
        · skip
          go_wp2_with fail
          obtain ⟨w13', hwP⟩ : ∃ w13', w13' = w13.alloc (Obj.cells #[Value.int IntKind.i64 Q'x, Value.int IntKind.i64 Q'y] 26) := ⟨_, rfl⟩
          rw [← hwP]
          have HB13' : Hid (Below w.heap.size w w13') := Lib.hid (by rw [hwP]; exact HB13.out.alloc HB13.out.size _)
          have bL' : Hid (RowAt w13' w2.heap.size a b c d f t) := Lib.hid (by rw [hwP]; exact bL.out.alloc _)
          clear bL
          have bL := bL'
          clear bL'
          have bC' : Hid (BoxAt w13' w5.heap.size Cx Cy) := Lib.hid (by rw [hwP]; exact bC.out.alloc _)
          clear bC
          have bC := bC'
          clear bC'
          have bP : Hid (BoxAt w13' w13.heap.size Q'x Q'y) := Lib.hid (by rw [hwP]; exact ⟨by simp [go_sem], by simp [go_sem]⟩)
          clear hwP HB13
          go_ret
          exact ⟨rfl, HB13'.out⟩
    · skip
      clear bA
      have qL0 := bL.out.c0
      have qL1 := bL.out.c1
      have qL2 := bL.out.c2
      have qL3 := bL.out.c3
      have qL4 := bL.out.c4
      have qL5 := bL.out.c5
      have qLl := World.block_lt_of_cell? (h := qL0)
      go_wp2_with fail
      obtain ⟨w7', hwI⟩ : ∃ w7', w7' = w7.alloc (Obj.cells #[Value.int IntKind.i64 Tx, Value.int IntKind.i64 Ty] 26) := ⟨_, rfl⟩
      rw [← hwI]
      have HB7' : Hid (Below w.heap.size w w7') := Lib.hid (by rw [hwI]; exact HB7.out.alloc HB7.out.size _)
      have bL' : Hid (RowAt w7' w2.heap.size a b c d f t) := Lib.hid (by rw [hwI]; exact bL.out.alloc _)
      clear bL
      have bL := bL'
      clear bL'
      have bC' : Hid (BoxAt w7' w5.heap.size Cx Cy) := Lib.hid (by rw [hwI]; exact bC.out.alloc _)
      clear bC
      have bC := bC'
      clear bC'
      have bI : Hid (BoxAt w7' w7.heap.size Tx Ty) := Lib.hid (by rw [hwI]; exact ⟨by simp [go_sem], by simp [go_sem]⟩)
      clear hwI HB7
      clear bI
      obtain ⟨Q'x, Q'y, Q'z, hQ'⟩ : ∃ x y z, Parts (Rt.fit (q * r)) x y z := ⟨_, _, _, Parts.of _⟩
      have HQ' := Lib.hid hQ'
      clear hQ'
      refine (mulF q r _ c d f t Q'x Q'y Q'z er _ HQ.out HR.out (HT.out.below HB7'.out).err rfl HQ'.out).mono ?_
      rintro e w16 ⟨rfl, hB⟩
      have HB16 : Hid (Below w.heap.size w w16) := Lib.hid (HB7'.out.trans (hB.mono HB7'.out.size))
      have bL' := Lib.hid (bL.out.below hB)
      have bC' := Lib.hid (bC.out.below hB)
      clear hB bL bC qL0 qL1 qL2 qL3 qL4 qL5 qLl HB7'
      have bL := bL'
      clear bL'
      have bC := bC'
      clear bC'
      rcases HC.out.err with rfl | rfl
      · rcases HQ'.out.err with rfl | rfl
        · have HIC := Lib.hid (HC.out.is rfl).1
          have HIQ := Lib.hid (HQ'.out.is rfl).1
          obtain ⟨Nx, Ny, Nz, hN⟩ : ∃ x y z, Parts (Rt.fit (p * q * r)) x y z := ⟨_, _, _, Parts.of _⟩
          have HN := Lib.hid hN
          clear hN
          have qC0 := bC.out.c0
          have qC1 := bC.out.c1
          have qCl := World.block_lt_of_cell? (h := qC0)
          have qL0 := bL.out.c0
          have qL1 := bL.out.c1
          have qL2 := bL.out.c2
          have qL3 := bL.out.c3
          have qL4 := bL.out.c4
          have qL5 := bL.out.c5
          have qLl := World.block_lt_of_cell? (h := qL0)
          go_wp2_with fail
          obtain ⟨w16', hwP⟩ : ∃ w16', w16' = w16.alloc (Obj.cells #[Value.int IntKind.i64 Q'x, Value.int IntKind.i64 Q'y] 26) := ⟨_, rfl⟩
          rw [← hwP]
          have HB16' : Hid (Below w.heap.size w w16') := Lib.hid (by rw [hwP]; exact HB16.out.alloc HB16.out.size _)
          have bL' : Hid (RowAt w16' w2.heap.size a b c d f t) := Lib.hid (by rw [hwP]; exact bL.out.alloc _)
          clear bL
          have bL := bL'
          clear bL'
          have bC' : Hid (BoxAt w16' w5.heap.size Cx Cy) := Lib.hid (by rw [hwP]; exact bC.out.alloc _)
          clear bC
          have bC := bC'
          clear bC'
          have bP : Hid (BoxAt w16' w16.heap.size Q'x Q'y) := Lib.hid (by rw [hwP]; exact ⟨by simp [go_sem], by simp [go_sem]⟩)
          clear hwP HB16
          clear bC
          refine (mulF (p * q) r _ Cx Cy f t Nx Ny Nz er _ HIC.out HR.out (HT.out.below HB16'.out).err rfl HN.out).mono ?_
          rintro e w17 ⟨rfl, hB⟩
          have HB17 : Hid (Below w.heap.size w w17) := Lib.hid (HB16'.out.trans (hB.mono HB16'.out.size))
          have bL' := Lib.hid (bL.out.below hB)
          have bP' := Lib.hid (bP.out.below hB)
          clear hB bL bP qC0 qC1 qCl qL0 qL1 qL2 qL3 qL4 qL5 qLl HB16'
          have bL := bL'
          clear bL'
          have bP := bP'
          clear bP'
          have qL0 := bL.out.c0
          have qL1 := bL.out.c1
          have qL2 := bL.out.c2
          have qL3 := bL.out.c3
          have qL4 := bL.out.c4
          have qL5 := bL.out.c5
          have qLl := World.block_lt_of_cell? (h := qL0)
          have qP0 := bP.out.c0
          have qP1 := bP.out.c1
          have qPl := World.block_lt_of_cell? (h := qP0)
          go_wp2_with fail
          obtain ⟨w17', hwM⟩ : ∃ w17', w17' = w17.alloc (Obj.cells #[Value.int IntKind.i64 Nx, Value.int IntKind.i64 Ny] 26) := ⟨_, rfl⟩
          rw [← hwM]
          have HB17' : Hid (Below w.heap.size w w17') := Lib.hid (by rw [hwM]; exact HB17.out.alloc HB17.out.size _)
          have bL' : Hid (RowAt w17' w2.heap.size a b c d f t) := Lib.hid (by rw [hwM]; exact bL.out.alloc _)
          clear bL
          have bL := bL'
          clear bL'
          have bP' : Hid (BoxAt w17' w16.heap.size Q'x Q'y) := Lib.hid (by rw [hwM]; exact bP.out.alloc _)
          clear bP
          have bP := bP'
          clear bP'
          have bM : Hid (BoxAt w17' w17.heap.size Nx Ny) := Lib.hid (by rw [hwM]; exact ⟨by simp [go_sem], by simp [go_sem]⟩)
          clear hwM HB17
          clear bL
          clear bP
          refine (mulF p (q * r) _ a b Q'x Q'y Nx Ny Nz er _ HP.out HIQ.out (HT.out.below HB17'.out).err (by rw [Rat.mul_assoc]) HN.out).mono ?_
          rintro e w18 ⟨rfl, hB⟩
          have HB18 : Hid (Below w.heap.size w w18) := Lib.hid (HB17'.out.trans (hB.mono HB17'.out.size))
          have bM' := Lib.hid (bM.out.below hB)
          clear hB bM qL0 qL1 qL2 qL3 qL4 qL5 qLl qP0 qP1 qPl HB17'
          have bM := bM'
          clear bM'
          have qM0 := bM.out.c0
          have qM1 := bM.out.c1
          have qMl := World.block_lt_of_cell? (h := qM0)
          go_wp2_with fail
          obtain ⟨w18', hwN⟩ : ∃ w18', w18' = w18.alloc (Obj.cells #[Value.int IntKind.i64 Nx, Value.int IntKind.i64 Ny] 26) := ⟨_, rfl⟩
          rw [← hwN]
          have HB18' : Hid (Below w.heap.size w w18') := Lib.hid (by rw [hwN]; exact HB18.out.alloc HB18.out.size _)
          have bM' : Hid (BoxAt w18' w17.heap.size Nx Ny) := Lib.hid (by rw [hwN]; exact bM.out.alloc _)
          clear bM
          have bM := bM'
          clear bM'
          have bN : Hid (BoxAt w18' w18.heap.size Nx Ny) := Lib.hid (by rw [hwN]; exact ⟨by simp [go_sem], by simp [go_sem]⟩)
          clear hwN HB18
          go_ret
          exact ⟨rfl, HB18'.out⟩
        · skip
          go_wp2_with fail
          obtain ⟨w16', hwP⟩ : ∃ w16', w16' = w16.alloc (Obj.cells #[Value.int IntKind.i64 Q'x, Value.int IntKind.i64 Q'y] 26) := ⟨_, rfl⟩
          rw [← hwP]
          have HB16' : Hid (Below w.heap.size w w16') := Lib.hid (by rw [hwP]; exact HB16.out.alloc HB16.out.size _)
          have bL' : Hid (RowAt w16' w2.heap.size a b c d f t) := Lib.hid (by rw [hwP]; exact bL.out.alloc _)
          clear bL
          have bL := bL'
          clear bL'
          have bC' : Hid (BoxAt w16' w5.heap.size Cx Cy) := Lib.hid (by rw [hwP]; exact bC.out.alloc _)
          clear bC
          have bC := bC'
          clear bC'
          have bP : Hid (BoxAt w16' w16.heap.size Q'x Q'y) := Lib.hid (by rw [hwP]; exact ⟨by simp [go_sem], by simp [go_sem]⟩)
          clear hwP HB16
          go_ret
          exact ⟨rfl, HB16'.out⟩
      · skip
        go_wp2_with fail
        obtain ⟨w16', hwP⟩ : ∃ w16', w16' = w16.alloc (Obj.cells #[Value.int IntKind.i64 Q'x, Value.int IntKind.i64 Q'y] 26) := ⟨_, rfl⟩
        rw [← hwP]
        have HB16' : Hid (Below w.heap.size w w16') := Lib.hid (by rw [hwP]; exact HB16.out.alloc HB16.out.size _)
        have bL' : Hid (RowAt w16' w2.heap.size a b c d f t) := Lib.hid (by rw [hwP]; exact bL.out.alloc _)
        clear bL
        have bL := bL'
        clear bL'
        have bC' : Hid (BoxAt w16' w5.heap.size Cx Cy) := Lib.hid (by rw [hwP]; exact bC.out.alloc _)
        clear bC
        have bC := bC'
        clear bC'
        have bP : Hid (BoxAt w16' w16.heap.size Q'x Q'y) := Lib.hid (by rw [hwP]; exact ⟨by simp [go_sem], by simp [go_sem]⟩)
        clear hwP HB16
        go_ret
        exact ⟨rfl, HB16'.out⟩
end Go.Proofs.YtphphamfejgdaaaDoor
