/- The law RatioMatchesReference: it returns true. Conditions: ints; what the functions of texts read of memory; what is shown of sane. (Written by gen_match.py.) -/
import Derived.Test.YtphphamfejgdaaaGreatDoorRatRefD
namespace Go.Proofs.YtphphamfejgdaaaGreatDoor
open Go.RowKit

/-- A fraction in a variable that is written to. -/
structure VarAt (w : World) (N : Nat) (x y : Int) : Prop where
  c0 : w.cell? ⟨N, 0, none⟩ = some (.int .i64 x)
  c1 : w.cell? ⟨N, 1, none⟩ = some (.int .i64 y)
  z0 : w.frozen? ⟨N, 0, none⟩ = false
  z1 : w.frozen? ⟨N, 1, none⟩ = false
theorem VarAt.below {w w' : World} {N : Nat} {x y : Int} (h : VarAt w N x y) (hb : Below w.heap.size w w') : VarAt w' N x y := by
  have hl := World.block_lt_of_cell? (h := h.c0)
  obtain ⟨hc, hz⟩ := bcell hb
  exact ⟨by rw [hc _ _ hl]; exact h.c0, by rw [hc _ _ hl]; exact h.c1, by rw [hz _ _ hl]; exact h.z0, by rw [hz _ _ hl]; exact h.z1⟩
theorem VarAt.alloc {w : World} {N : Nat} {x y : Int} (h : VarAt w N x y) (o : Obj) : VarAt (w.alloc o) N x y := h.below ((Below.refl _ _).alloc (Nat.le_refl _) _)
theorem VarAt.set {w : World} {N M : Nat} {x y : Int} (h : VarAt w N x y) (hn : N ≠ M) (u v : Value) : VarAt ((w.setCell ⟨M, 0, none⟩ u).setCell ⟨M, 1, none⟩ v) N x y :=
  ⟨by rw [cell_set (cell_set h.c0), if_neg (fun e => hn (by injection e with e1; exact e1.symm)), if_neg (fun e => hn (by injection e with e1; exact e1.symm))],
   by rw [cell_set (cell_set h.c1), if_neg (fun e => hn (by injection e with e1; exact e1.symm)), if_neg (fun e => hn (by injection e with e1; exact e1.symm))],
   by rw [World.frozen?_setCell, World.frozen?_setCell]; exact h.z0, by rw [World.frozen?_setCell, World.frozen?_setCell]; exact h.z1⟩
theorem VarAt.put {w : World} {N : Nat} {x y : Int} (h : VarAt w N x y) (u v : Int) : VarAt ((w.setCell ⟨N, 0, none⟩ (.int .i64 u)).setCell ⟨N, 1, none⟩ (.int .i64 v)) N u v :=
  ⟨by rw [cell_set (cell_set h.c0)]; simp, by rw [cell_set (cell_set h.c1)]; simp, by rw [World.frozen?_setCell, World.frozen?_setCell]; exact h.z0, by rw [World.frozen?_setCell, World.frozen?_setCell]; exact h.z1⟩
/-- Four integers in a row. -/
structure FourAt (w : World) (N : Nat) (a b c d : Int) : Prop where
  c0 : w.cell? ⟨N, 0, none⟩ = some (.int .i64 a)
  c1 : w.cell? ⟨N, 1, none⟩ = some (.int .i64 b)
  c2 : w.cell? ⟨N, 2, none⟩ = some (.int .i64 c)
  c3 : w.cell? ⟨N, 3, none⟩ = some (.int .i64 d)
theorem FourAt.below {w w' : World} {N : Nat} {a b c d : Int} (h : FourAt w N a b c d) (hb : Below w.heap.size w w') : FourAt w' N a b c d := by
  have hl := World.block_lt_of_cell? (h := h.c0)
  obtain ⟨hc, _⟩ := bcell hb
  exact ⟨by rw [hc _ _ hl]; exact h.c0, by rw [hc _ _ hl]; exact h.c1, by rw [hc _ _ hl]; exact h.c2, by rw [hc _ _ hl]; exact h.c3⟩
theorem FourAt.alloc {w : World} {N : Nat} {a b c d : Int} (h : FourAt w N a b c d) (o : Obj) : FourAt (w.alloc o) N a b c d := h.below ((Below.refl _ _).alloc (Nat.le_refl _) _)
theorem balloc {W w' : World} (h : Below W.heap.size W w') (o : Obj) : Below W.heap.size W (w'.alloc o) := h.alloc h.size _
theorem Parts.bounds {n d x y z : Int} (h : Parts (Rt.mk n d) x y z) : (-9223372036854775808 ≤ x ∧ x ≤ 9223372036854775807) ∧ -9223372036854775808 ≤ y ∧ y ≤ 9223372036854775807 := by
  rcases h.cases with ⟨_, q, hq, hx, hy⟩ | ⟨_, rfl, rfl, _⟩
  · have hb := (Is.made hq).bounds
    rw [hx, hy] at hb
    omega
  · omega
/-- The rows of the loop. -/
def rowF (a b c d x0 x1 x2 x3 : Int) (k : Nat) : Int :=
  match k with
  | 0 => a | 1 => b | 2 => c | 3 => d | 4 => x0 | 5 => x1 | 6 => x2 | 7 => x3 | 8 => a | 9 => b | 10 => x2 | _ => x3
theorem rowF_bounds {a b c d x0 x1 x2 x3 : Int} (ha : -9223372036854775808 ≤ a ∧ a ≤ 9223372036854775807) (hb : -9223372036854775808 ≤ b ∧ b ≤ 9223372036854775807) (hc : -9223372036854775808 ≤ c ∧ c ≤ 9223372036854775807) (hd : -9223372036854775808 ≤ d ∧ d ≤ 9223372036854775807)
    (h0 : -9223372036854775808 ≤ x0 ∧ x0 ≤ 9223372036854775807) (h1 : -9223372036854775808 ≤ x1 ∧ x1 ≤ 9223372036854775807) (h2 : -9223372036854775808 ≤ x2 ∧ x2 ≤ 9223372036854775807) (h3 : -9223372036854775808 ≤ x3 ∧ x3 ≤ 9223372036854775807) (k : Nat) :
    -9223372036854775808 ≤ rowF a b c d x0 x1 x2 x3 k ∧ rowF a b c d x0 x1 x2 x3 k ≤ 9223372036854775807 := by
  unfold rowF
  split <;> assumption

set_option maxRecDepth 20000 in
set_option maxHeartbeats 8000000 in
theorem match_law (hS : SaneSays) (x0 x1 x2 x3 K : Int) (er : Addr) (w : World) (hx0 : -9223372036854775808 ≤ x0 ∧ x0 ≤ 9223372036854775807) (hx1 : -9223372036854775808 ≤ x1 ∧ x1 ≤ 9223372036854775807) (hx2 : -9223372036854775808 ≤ x2 ∧ x2 ≤ 9223372036854775807) (hx3 : -9223372036854775808 ≤ x3 ∧ x3 ≤ 9223372036854775807)
    (hK : -9223372036854775808 ≤ K ∧ K ≤ 9223372036854775807) (hT : Txt w er) :
    Calls Tryz.prog 3 #[.agg #[.int .i64 x0, .int .i64 x1, .int .i64 x2, .int .i64 x3], .int .i64 K] w fun e w' => e = .returned (.bool true) ∧ Below w.heap.size w w' := by
  have HT := Lib.hid hT
  have HS := Lib.hid hS
  have HB0 : Hid (Below w.heap.size w w) := Lib.hid (Below.refl _ _)
  obtain ⟨mx, my, mz, hm⟩ : ∃ x y z, Parts (Rt.mk x0 x1) x y z := ⟨_, _, _, Parts.of _⟩
  obtain ⟨ox, oy, oz, ho⟩ : ∃ x y z, Parts (Rt.mk x2 x3) x y z := ⟨_, _, _, Parts.of _⟩
  have HM := Lib.hid (And.intro hx0 (And.intro hx1 (And.intro hx2 (And.intro hx3 hK))))
  have HPM := Lib.hid hm
  have HPO := Lib.hid ho
  have HF : Hid (∀ k, -9223372036854775808 ≤ rowF mx my ox oy x0 x1 x2 x3 k ∧ rowF mx my ox oy x0 x1 x2 x3 k ≤ 9223372036854775807) := Lib.hid (rowF_bounds hm.bounds.1 hm.bounds.2 ho.bounds.1 ho.bounds.2 hx0 hx1 hx2 hx3)
  have HMB : Hid ((-9223372036854775808 ≤ mx ∧ mx ≤ 9223372036854775807) ∧ -9223372036854775808 ≤ my ∧ my ≤ 9223372036854775807) := Lib.hid hm.bounds
  clear hT hS hx0 hx1 hx2 hx3 hK hm ho
  go_enter Tryz.func3, Tryz.ntmps3
  go_wp2_with fail
  obtain ⟨w', hwX⟩ : ∃ w', w' = w.alloc (Obj.cells #[Value.int IntKind.i64 x0, Value.int IntKind.i64 x1, Value.int IntKind.i64 x2, Value.int IntKind.i64 x3] 22) := ⟨_, rfl⟩
  obtain ⟨NX, hNX⟩ : ∃ N, N = w.heap.size := ⟨_, rfl⟩
  rw [← hwX, ← hNX]
  have HB0' : Hid (Below w.heap.size w w') := Lib.hid (by rw [hwX]; exact HB0.out.alloc HB0.out.size _)
  have NBX : Hid (w.heap.size ≤ NX) := Lib.hid (by rw [hNX]; exact HB0.out.size)
  have bX : Hid (FourAt w' NX x0 x1 x2 x3) := Lib.hid (by rw [hwX, hNX]; exact ⟨by simp [go_sem], by simp [go_sem], by simp [go_sem], by simp [go_sem]⟩)
  clear hwX hNX HB0
  refine (HS.out er _ (HT.out.below HB0'.out)).mono ?_
  rintro e w1 ⟨rfl, hB⟩
  have Hw1 : Hid (Below w.heap.size w w1) := Lib.hid (HB0'.out.trans (hB.mono HB0'.out.size))
  have bX' := Lib.hid (bX.out.below hB)
  clear hB bX HB0'
  have bX := bX'
  clear bX'
  have qX0 := bX.out.c0
  have qX1 := bX.out.c1
  have qX2 := bX.out.c2
  have qX3 := bX.out.c3
  have qXl := World.block_lt_of_cell? (h := qX0)
  go_wp2_with fail
  refine (make_any x0 x1 mx my mz er _ HM.out.1.1 HM.out.1.2 HM.out.2.1.1 HM.out.2.1.2 (HT.out.below Hw1.out).err HPM.out.nm HPM.out.dn HPM.out.er).mono ?_
  rintro e w2 ⟨rfl, hB⟩
  have Hw2 : Hid (Below w.heap.size w w2) := Lib.hid (Hw1.out.trans (hB.mono Hw1.out.size))
  have bX' := Lib.hid (bX.out.below hB)
  clear hB bX qX0 qX1 qX2 qX3 qXl Hw1
  have bX := bX'
  clear bX'
  have qX0 := bX.out.c0
  have qX1 := bX.out.c1
  have qX2 := bX.out.c2
  have qX3 := bX.out.c3
  have qXl := World.block_lt_of_cell? (h := qX0)
  go_wp2_with fail
  obtain ⟨w2', hwA⟩ : ∃ w2', w2' = w2.alloc (Obj.cells #[Value.int IntKind.i64 mx, Value.int IntKind.i64 my] 25) := ⟨_, rfl⟩
  obtain ⟨NA, hNA⟩ : ∃ N, N = w2.heap.size := ⟨_, rfl⟩
  rw [← hwA, ← hNA]
  have Hw2' : Hid (Below w.heap.size w w2') := Lib.hid (by rw [hwA]; exact Hw2.out.alloc Hw2.out.size _)
  have NBA : Hid (w.heap.size ≤ NA) := Lib.hid (by rw [hNA]; exact Hw2.out.size)
  have NEXA : Hid (NX ≠ NA) := Lib.hid (by rw [hNA]; exact Nat.ne_of_lt (World.block_lt_of_cell? (h := bX.out.c0)))
  have bX' : Hid (FourAt w2' NX x0 x1 x2 x3) := Lib.hid (by rw [hwA]; exact bX.out.alloc _)
  clear bX
  have bX := bX'
  clear bX'
  have bA : Hid (VarAt w2' NA mx my) := Lib.hid (by rw [hwA, hNA]; exact ⟨by simp [go_sem], by simp [go_sem], by simp [go_sem], by simp [go_sem]⟩)
  clear hwA hNA Hw2
  refine (rmake_any x0 x1 mx my mz _ HM.out.1.1 HM.out.1.2 HM.out.2.1.1 HM.out.2.1.2 HPM.out).mono ?_
  rintro e w3 ⟨rfl, hB⟩
  have Hw3 : Hid (Below w.heap.size w w3) := Lib.hid (Hw2'.out.trans (hB.mono Hw2'.out.size))
  have bX' := Lib.hid (bX.out.below hB)
  have bA' := Lib.hid (bA.out.below hB)
  clear hB bX bA qX0 qX1 qX2 qX3 qXl Hw2'
  have bX := bX'
  clear bX'
  have bA := bA'
  clear bA'
  have qX0 := bX.out.c0
  have qX1 := bX.out.c1
  have qX2 := bX.out.c2
  have qX3 := bX.out.c3
  have qXl := World.block_lt_of_cell? (h := qX0)
  go_wp2_with fail
  obtain ⟨w3', hwB⟩ : ∃ w3', w3' = w3.alloc (Obj.cells #[Value.int IntKind.i64 mx, Value.int IntKind.i64 my] 25) := ⟨_, rfl⟩
  obtain ⟨NB, hNB⟩ : ∃ N, N = w3.heap.size := ⟨_, rfl⟩
  rw [← hwB, ← hNB]
  have Hw3' : Hid (Below w.heap.size w w3') := Lib.hid (by rw [hwB]; exact Hw3.out.alloc Hw3.out.size _)
  have NBB : Hid (w.heap.size ≤ NB) := Lib.hid (by rw [hNB]; exact Hw3.out.size)
  have NEXB : Hid (NX ≠ NB) := Lib.hid (by rw [hNB]; exact Nat.ne_of_lt (World.block_lt_of_cell? (h := bX.out.c0)))
  have NEAB : Hid (NA ≠ NB) := Lib.hid (by rw [hNB]; exact Nat.ne_of_lt (World.block_lt_of_cell? (h := bA.out.c0)))
  have bX' : Hid (FourAt w3' NX x0 x1 x2 x3) := Lib.hid (by rw [hwB]; exact bX.out.alloc _)
  clear bX
  have bX := bX'
  clear bX'
  have bA' : Hid (VarAt w3' NA mx my) := Lib.hid (by rw [hwB]; exact bA.out.alloc _)
  clear bA
  have bA := bA'
  clear bA'
  have bB : Hid (VarAt w3' NB mx my) := Lib.hid (by rw [hwB, hNB]; exact ⟨by simp [go_sem], by simp [go_sem], by simp [go_sem], by simp [go_sem]⟩)
  clear hwB hNB Hw3
  refine (make_any x2 x3 ox oy oz er _ HM.out.2.2.1.1 HM.out.2.2.1.2 HM.out.2.2.2.1.1 HM.out.2.2.2.1.2 (HT.out.below Hw3'.out).err HPO.out.nm HPO.out.dn HPO.out.er).mono ?_
  rintro e w4 ⟨rfl, hB⟩
  have Hw4 : Hid (Below w.heap.size w w4) := Lib.hid (Hw3'.out.trans (hB.mono Hw3'.out.size))
  have bX' := Lib.hid (bX.out.below hB)
  have bA' := Lib.hid (bA.out.below hB)
  have bB' := Lib.hid (bB.out.below hB)
  clear hB bX bA bB qX0 qX1 qX2 qX3 qXl Hw3'
  have bX := bX'
  clear bX'
  have bA := bA'
  clear bA'
  have bB := bB'
  clear bB'
  have qX0 := bX.out.c0
  have qX1 := bX.out.c1
  have qX2 := bX.out.c2
  have qX3 := bX.out.c3
  have qXl := World.block_lt_of_cell? (h := qX0)
  go_wp2_with fail
  obtain ⟨w4', hwC⟩ : ∃ w4', w4' = w4.alloc (Obj.cells #[Value.int IntKind.i64 ox, Value.int IntKind.i64 oy] 25) := ⟨_, rfl⟩
  obtain ⟨NC, hNC⟩ : ∃ N, N = w4.heap.size := ⟨_, rfl⟩
  rw [← hwC, ← hNC]
  have Hw4' : Hid (Below w.heap.size w w4') := Lib.hid (by rw [hwC]; exact Hw4.out.alloc Hw4.out.size _)
  have NBC : Hid (w.heap.size ≤ NC) := Lib.hid (by rw [hNC]; exact Hw4.out.size)
  have NEXC : Hid (NX ≠ NC) := Lib.hid (by rw [hNC]; exact Nat.ne_of_lt (World.block_lt_of_cell? (h := bX.out.c0)))
  have NEAC : Hid (NA ≠ NC) := Lib.hid (by rw [hNC]; exact Nat.ne_of_lt (World.block_lt_of_cell? (h := bA.out.c0)))
  have NEBC : Hid (NB ≠ NC) := Lib.hid (by rw [hNC]; exact Nat.ne_of_lt (World.block_lt_of_cell? (h := bB.out.c0)))
  have bX' : Hid (FourAt w4' NX x0 x1 x2 x3) := Lib.hid (by rw [hwC]; exact bX.out.alloc _)
  clear bX
  have bX := bX'
  clear bX'
  have bA' : Hid (VarAt w4' NA mx my) := Lib.hid (by rw [hwC]; exact bA.out.alloc _)
  clear bA
  have bA := bA'
  clear bA'
  have bB' : Hid (VarAt w4' NB mx my) := Lib.hid (by rw [hwC]; exact bB.out.alloc _)
  clear bB
  have bB := bB'
  clear bB'
  have bC : Hid (VarAt w4' NC ox oy) := Lib.hid (by rw [hwC, hNC]; exact ⟨by simp [go_sem], by simp [go_sem], by simp [go_sem], by simp [go_sem]⟩)
  clear hwC hNC Hw4
  refine (rmake_any x2 x3 ox oy oz _ HM.out.2.2.1.1 HM.out.2.2.1.2 HM.out.2.2.2.1.1 HM.out.2.2.2.1.2 HPO.out).mono ?_
  rintro e w5 ⟨rfl, hB⟩
  have Hw5 : Hid (Below w.heap.size w w5) := Lib.hid (Hw4'.out.trans (hB.mono Hw4'.out.size))
  have bX' := Lib.hid (bX.out.below hB)
  have bA' := Lib.hid (bA.out.below hB)
  have bB' := Lib.hid (bB.out.below hB)
  have bC' := Lib.hid (bC.out.below hB)
  clear hB bX bA bB bC qX0 qX1 qX2 qX3 qXl Hw4'
  have bX := bX'
  clear bX'
  have bA := bA'
  clear bA'
  have bB := bB'
  clear bB'
  have bC := bC'
  clear bC'
  have qA0 := bA.out.c0
  have qA1 := bA.out.c1
  have qAl := World.block_lt_of_cell? (h := qA0)
  have qB0 := bB.out.c0
  have qB1 := bB.out.c1
  have qBl := World.block_lt_of_cell? (h := qB0)
  have qC0 := bC.out.c0
  have qC1 := bC.out.c1
  have qCl := World.block_lt_of_cell? (h := qC0)
  go_wp2_with fail
  obtain ⟨w5', hwD⟩ : ∃ w5', w5' = w5.alloc (Obj.cells #[Value.int IntKind.i64 ox, Value.int IntKind.i64 oy] 25) := ⟨_, rfl⟩
  obtain ⟨ND, hND⟩ : ∃ N, N = w5.heap.size := ⟨_, rfl⟩
  rw [← hwD, ← hND]
  have Hw5' : Hid (Below w.heap.size w w5') := Lib.hid (by rw [hwD]; exact Hw5.out.alloc Hw5.out.size _)
  have NBD : Hid (w.heap.size ≤ ND) := Lib.hid (by rw [hND]; exact Hw5.out.size)
  have NEXD : Hid (NX ≠ ND) := Lib.hid (by rw [hND]; exact Nat.ne_of_lt (World.block_lt_of_cell? (h := bX.out.c0)))
  have NEAD : Hid (NA ≠ ND) := Lib.hid (by rw [hND]; exact Nat.ne_of_lt (World.block_lt_of_cell? (h := bA.out.c0)))
  have NEBD : Hid (NB ≠ ND) := Lib.hid (by rw [hND]; exact Nat.ne_of_lt (World.block_lt_of_cell? (h := bB.out.c0)))
  have NECD : Hid (NC ≠ ND) := Lib.hid (by rw [hND]; exact Nat.ne_of_lt (World.block_lt_of_cell? (h := bC.out.c0)))
  have bX' : Hid (FourAt w5' NX x0 x1 x2 x3) := Lib.hid (by rw [hwD]; exact bX.out.alloc _)
  clear bX
  have bX := bX'
  clear bX'
  have bA' : Hid (VarAt w5' NA mx my) := Lib.hid (by rw [hwD]; exact bA.out.alloc _)
  clear bA
  have bA := bA'
  clear bA'
  have bB' : Hid (VarAt w5' NB mx my) := Lib.hid (by rw [hwD]; exact bB.out.alloc _)
  clear bB
  have bB := bB'
  clear bB'
  have bC' : Hid (VarAt w5' NC ox oy) := Lib.hid (by rw [hwD]; exact bC.out.alloc _)
  clear bC
  have bC := bC'
  clear bC'
  have bD : Hid (VarAt w5' ND ox oy) := Lib.hid (by rw [hwD, hND]; exact ⟨by simp [go_sem], by simp [go_sem], by simp [go_sem], by simp [go_sem]⟩)
  clear hwD hND Hw5
  clear qA0 qA1 qAl qB0 qB1 qBl qC0 qC1 qCl
  clear bB
  clear bD
  have qA0 := bA.out.c0
  have qA1 := bA.out.c1
  have qAl := World.block_lt_of_cell? (h := qA0)
  have qC0 := bC.out.c0
  have qC1 := bC.out.c1
  have qCl := World.block_lt_of_cell? (h := qC0)
  have qX0 := bX.out.c0
  have qX1 := bX.out.c1
  have qX2 := bX.out.c2
  have qX3 := bX.out.c3
  have qXl := World.block_lt_of_cell? (h := qX0)
  have HK : ∀ w' : World, Below w5'.heap.size w5' w' → w'.cell? ⟨NA, 0, none⟩ = some (.int .i64 mx) ∧ w'.cell? ⟨NA, 1, none⟩ = some (.int .i64 my) ∧ w'.cell? ⟨NC, 0, none⟩ = some (.int .i64 ox) ∧ w'.cell? ⟨NC, 1, none⟩ = some (.int .i64 oy) ∧ w'.cell? ⟨NX, 0, none⟩ = some (.int .i64 x0) ∧ w'.cell? ⟨NX, 1, none⟩ = some (.int .i64 x1) ∧ w'.cell? ⟨NX, 2, none⟩ = some (.int .i64 x2) ∧ w'.cell? ⟨NX, 3, none⟩ = some (.int .i64 x3) ∧ Below w5'.heap.size w5' w' := fun w' h' =>
    ⟨(bA.out.below h').c0, (bA.out.below h').c1, (bC.out.below h').c0, (bC.out.below h').c1, (bX.out.below h').c0, (bX.out.below h').c1, (bX.out.below h').c2, (bX.out.below h').c3, h'⟩
  have HKK := Lib.hid HK
  clear HK
  have KIS : Hid (∀ a b V, Below w5'.heap.size w5' V → Calls Tryz.prog 9 #[.int .i64 a, .int .i64 b] V fun e w' => e = .returned (frac a b) ∧ (w'.cell? ⟨NA, 0, none⟩ = some (.int .i64 mx) ∧ w'.cell? ⟨NA, 1, none⟩ = some (.int .i64 my) ∧ w'.cell? ⟨NC, 0, none⟩ = some (.int .i64 ox) ∧ w'.cell? ⟨NC, 1, none⟩ = some (.int .i64 oy) ∧ w'.cell? ⟨NX, 0, none⟩ = some (.int .i64 x0) ∧ w'.cell? ⟨NX, 1, none⟩ = some (.int .i64 x1) ∧ w'.cell? ⟨NX, 2, none⟩ = some (.int .i64 x2) ∧ w'.cell? ⟨NX, 3, none⟩ = some (.int .i64 x3) ∧ Below w5'.heap.size w5' w')) := Lib.hid (fun a b V h1 => (is_any a b V).mono fun e w' ⟨he, h2⟩ => ⟨he, HKK.out _ (h1.trans (h2.mono h1.size))⟩)
  go_region_held3 (fun w' => w'.cell? ⟨NA, 0, none⟩ = some (.int .i64 mx) ∧ w'.cell? ⟨NA, 1, none⟩ = some (.int .i64 my) ∧ w'.cell? ⟨NC, 0, none⟩ = some (.int .i64 ox) ∧ w'.cell? ⟨NC, 1, none⟩ = some (.int .i64 oy) ∧ w'.cell? ⟨NX, 0, none⟩ = some (.int .i64 x0) ∧ w'.cell? ⟨NX, 1, none⟩ = some (.int .i64 x1) ∧ w'.cell? ⟨NX, 2, none⟩ = some (.int .i64 x2) ∧ w'.cell? ⟨NX, 3, none⟩ = some (.int .i64 x3) ∧ Below w5'.heap.size w5' w') (first | exact ⟨qA0, qA1, qC0, qC1, qX0, qX1, qX2, qX3, Below.refl _ _⟩ | exact ⟨qA0, qA1, qC0, qC1, qX0, qX1, qX2, qX3, (Below.refl _ _).drew⟩ | assumption | exact HKK.out _ (balloc (by first | exact Below.refl _ _ | exact (Below.refl _ _).drew | assumption | exact (show _ ∧ _ ∧ _ ∧ _ ∧ _ ∧ _ ∧ _ ∧ _ ∧ _ from by assumption).2.2.2.2.2.2.2.2) _)) ((first | (go_at_call 9; refine (KIS.out _ _ _ (by first | exact Below.refl _ _ | exact (Below.refl _ _).drew | assumption | exact (show _ ∧ _ ∧ _ ∧ _ ∧ _ ∧ _ ∧ _ ∧ _ ∧ _ from by assumption).2.2.2.2.2.2.2.2)).mono ?_; rintro e w5 ⟨rfl, hH5⟩)))
  all_goals
    have hb5 : Below w5'.heap.size w5' w5 := hH5.2.2.2.2.2.2.2.2
    obtain ⟨wb, hwb⟩ : ∃ wb, wb = w5.alloc (Obj.cells #[Value.int IntKind.i64 mx, Value.int IntKind.i64 my, Value.int IntKind.i64 ox, Value.int IntKind.i64 oy, Value.int IntKind.i64 x0, Value.int IntKind.i64 x1, Value.int IntKind.i64 x2, Value.int IntKind.i64 x3, Value.int IntKind.i64 mx, Value.int IntKind.i64 my, Value.int IntKind.i64 x2, Value.int IntKind.i64 x3] 29) := ⟨_, rfl⟩
    obtain ⟨R, hR⟩ : ∃ R, R = w5.heap.size := ⟨_, rfl⟩
    rw [← hwb, ← hR]
    have hbb : Below w5'.heap.size w5' wb := by rw [hwb]; exact balloc hb5 _
    have HBW : Hid (Below w.heap.size w wb) := Lib.hid (Hw5'.out.trans (hbb.mono Hw5'.out.size))
    have bA' : Hid (VarAt wb NA mx my) := Lib.hid (bA.out.below hbb)
    have bR : Hid (∀ k, k < 12 → wb.cell? ⟨R, k, none⟩ = some (.int .i64 (rowF mx my ox oy x0 x1 x2 x3 k))) := Lib.hid (fun k hk => by
      rw [hwb, hR]
      match k, hk with
      | 0, _ => simp [go_sem, rowF]
      | 1, _ => simp [go_sem, rowF]
      | 2, _ => simp [go_sem, rowF]
      | 3, _ => simp [go_sem, rowF]
      | 4, _ => simp [go_sem, rowF]
      | 5, _ => simp [go_sem, rowF]
      | 6, _ => simp [go_sem, rowF]
      | 7, _ => simp [go_sem, rowF]
      | 8, _ => simp [go_sem, rowF]
      | 9, _ => simp [go_sem, rowF]
      | 10, _ => simp [go_sem, rowF]
      | 11, _ => simp [go_sem, rowF]
      )
    have HRB : Hid (R < wb.heap.size) := Lib.hid (by rw [hwb, hR]; simp)
    have HTB : Hid (Txt wb er) := Lib.hid (HT.out.below HBW.out)
    clear hwb hR hb5 hH5 hbb bA bC bX qA0 qA1 qAl qC0 qC1 qCl qX0 qX1 qX2 qX3 qXl HKK KIS Hw5'
    go_wp2_with fail
    go_loopw [100] (fun c wr => ∃ i : Nat, i ≤ 3 ∧ c = .int .i64 i ∧ Hid (Below wb.heap.size wb wr)) (fun c _ => 3 - (intOf c).toNat)
    case atStart => exact ⟨0, by omega, rfl, Lib.hid (Below.refl _ _)⟩
    case round =>
      obtain ⟨i, hi, rfl, HBr⟩ := hrel
      by_cases hlt : i < 3
      · have Hwr0 : Hid (Below wr.heap.size wr wr) := Lib.hid (Below.refl _ _)
        have HTr : Hid (Txt wr er) := Lib.hid (HTB.out.below HBr.out)
        have bA : Hid (VarAt wr NA mx my) := Lib.hid (bA'.out.below HBr.out)
        obtain ⟨a, ha⟩ : ∃ a, rowF mx my ox oy x0 x1 x2 x3 (i * 4) = a := ⟨_, rfl⟩
        have ta : wr.cell? ⟨R, i * 4, none⟩ = some (.int .i64 a) := by rw [(bcell HBr.out).1 _ _ HRB.out, ← ha]; exact bR.out _ (by omega)
        have Ba := HF.out (i * 4)
        rw [ha] at Ba
        obtain ⟨b, hb⟩ : ∃ b, rowF mx my ox oy x0 x1 x2 x3 (i * 4 + 1) = b := ⟨_, rfl⟩
        have tb : wr.cell? ⟨R, i * 4 + 1, none⟩ = some (.int .i64 b) := by rw [(bcell HBr.out).1 _ _ HRB.out, ← hb]; exact bR.out _ (by omega)
        have Bb := HF.out (i * 4 + 1)
        rw [hb] at Bb
        obtain ⟨c, hc⟩ : ∃ c, rowF mx my ox oy x0 x1 x2 x3 (i * 4 + 2) = c := ⟨_, rfl⟩
        have tc : wr.cell? ⟨R, i * 4 + 2, none⟩ = some (.int .i64 c) := by rw [(bcell HBr.out).1 _ _ HRB.out, ← hc]; exact bR.out _ (by omega)
        have Bc := HF.out (i * 4 + 2)
        rw [hc] at Bc
        obtain ⟨e, he⟩ : ∃ e, rowF mx my ox oy x0 x1 x2 x3 (i * 4 + 3) = e := ⟨_, rfl⟩
        have te : wr.cell? ⟨R, i * 4 + 3, none⟩ = some (.int .i64 e) := by rw [(bcell HBr.out).1 _ _ HRB.out, ← he]; exact bR.out _ (by omega)
        have Be := HF.out (i * 4 + 3)
        rw [he] at Be
        have HV := Lib.hid (And.intro Ba (And.intro Bb (And.intro Bc Be)))
        have i0 : (0 : Int) ≤ (i : Int) := by omega
        have i1 : (i : Int) < 3 := by omega
        obtain ⟨Sx, Sy, Sz, hS⟩ : ∃ x y z, Parts (Rt.addO a b c e) x y z := ⟨_, _, _, Parts.of _⟩
        have HPS := Lib.hid hS
        clear hS
        obtain ⟨Tx, Ty, Tz, hT⟩ : ∃ x y z, Parts (Rt.subO a b c e) x y z := ⟨_, _, _, Parts.of _⟩
        have HPT := Lib.hid hT
        clear hT
        obtain ⟨Ux, Uy, Uz, hU⟩ : ∃ x y z, Parts (Rt.mulO a b c e) x y z := ⟨_, _, _, Parts.of _⟩
        have HPU := Lib.hid hU
        clear hU
        obtain ⟨Vx, Vy, Vz, hV⟩ : ∃ x y z, Parts (Rt.divO a b c e) x y z := ⟨_, _, _, Parts.of _⟩
        have HPV := Lib.hid hV
        clear hV
        obtain ⟨Wx, Wy, Wz, hW⟩ : ∃ x y z, Parts (Rt.roundO a b K) x y z := ⟨_, _, _, Parts.of _⟩
        have HPW := Lib.hid hW
        clear hW
        obtain ⟨cr, hcr⟩ : ∃ x, Rt.cmpO a b c e = x := ⟨_, rfl⟩
        have Hcr := Lib.hid hcr
        clear hcr
        obtain ⟨fr, hfr⟩ : ∃ x, Rt.floorO a b = x := ⟨_, rfl⟩
        have Hfr := Lib.hid hfr
        clear hfr
        obtain ⟨vr, hvr⟩ : ∃ x, (Rt.rd a b).isSome = x := ⟨_, rfl⟩
        have Hvr := Lib.hid hvr
        clear hvr
        obtain ⟨lx, hlx⟩ : ∃ x, Rt.nm (clampO a b c e mx my) = x := ⟨_, rfl⟩
        have Hlx := Lib.hid hlx
        clear hlx
        obtain ⟨ly, hly⟩ : ∃ x, Rt.dn (clampO a b c e mx my) = x := ⟨_, rfl⟩
        have Hly := Lib.hid hly
        clear hly
        obtain ⟨nx, hnx⟩ : ∃ x, Rt.nm (clampO mx my a b c e) = x := ⟨_, rfl⟩
        have Hnx := Lib.hid hnx
        clear hnx
        obtain ⟨ny, hny⟩ : ∃ x, Rt.dn (clampO mx my a b c e) = x := ⟨_, rfl⟩
        have Hny := Lib.hid hny
        clear hny
        clear Ba Bb Bc Be ha hb hc he
        go_wp2_with fail
        obtain ⟨wr0, hw⟩ : ∃ wr0, wr0 = (((wr.alloc (Obj.cells #[Value.int IntKind.i64 a, Value.int IntKind.i64 b, Value.int IntKind.i64 c, Value.int IntKind.i64 e] 29)).alloc (Obj.cells #[Value.int IntKind.i64 a, Value.int IntKind.i64 b] 25)).alloc (Obj.cells #[Value.int IntKind.i64 c, Value.int IntKind.i64 e] 25)) := ⟨_, rfl⟩
        obtain ⟨NV, hNV⟩ : ∃ N, N = wr.heap.size + 1 + 1 := ⟨_, rfl⟩
        obtain ⟨NU, hNU⟩ : ∃ N, N = wr.heap.size + 1 := ⟨_, rfl⟩
        rw [← hw, ← hNV, ← hNU]
        have Hwr0' : Hid (Below wr.heap.size wr wr0) := Lib.hid (by rw [hw]; exact balloc (balloc (balloc (Below.refl _ _) _) _) _)
        have bU : Hid (VarAt wr0 NU a b) := Lib.hid (by rw [hw, hNU]; exact ⟨by simp [go_sem], by simp [go_sem], by simp [go_sem], by simp [go_sem]⟩)
        have bV : Hid (VarAt wr0 NV c e) := Lib.hid (by rw [hw, hNV]; exact ⟨by simp [go_sem], by simp [go_sem], by simp [go_sem], by simp [go_sem]⟩)
        have bA2 : Hid (VarAt wr0 NA mx my) := Lib.hid (bA.out.below (by rw [hw]; exact balloc (balloc (balloc (Below.refl _ _) _) _) _))
        clear bA
        have bA := bA2
        clear bA2 hw hNU hNV ta tb tc te
        refine (add_any a b c e Sx Sy Sz er _ HV.out.1.1 HV.out.1.2 HV.out.2.1.1 HV.out.2.1.2 HV.out.2.2.1.1 HV.out.2.2.1.2 HV.out.2.2.2.1 HV.out.2.2.2.2 (HTr.out.below Hwr0'.out).err HPS.out.nm HPS.out.dn HPS.out.er).mono ?_
        rintro e wr1 ⟨rfl, hB⟩
        have Hwr1 : Hid (Below wr.heap.size wr wr1) := Lib.hid (Hwr0'.out.trans (hB.mono Hwr0'.out.size))
        have bA' := Lib.hid (bA.out.below hB)
        have bU' := Lib.hid (bU.out.below hB)
        have bV' := Lib.hid (bV.out.below hB)
        clear hB bA bU bV Hwr0'
        have bA := bA'
        clear bA'
        have bU := bU'
        clear bU'
        have bV := bV'
        clear bV'
        have qU0 := bU.out.c0
        have qU1 := bU.out.c1
        have qUl := World.block_lt_of_cell? (h := qU0)
        have qV0 := bV.out.c0
        have qV1 := bV.out.c1
        have qVl := World.block_lt_of_cell? (h := qV0)
        go_wp2_with fail
        obtain ⟨wr1', hwQ1⟩ : ∃ wr1', wr1' = wr1.alloc (Obj.cells #[Value.int IntKind.i64 Sx, Value.int IntKind.i64 Sy] 25) := ⟨_, rfl⟩
        obtain ⟨NQ1, hNQ1⟩ : ∃ N, N = wr1.heap.size := ⟨_, rfl⟩
        rw [← hwQ1, ← hNQ1]
        have Hwr1' : Hid (Below wr.heap.size wr wr1') := Lib.hid (by rw [hwQ1]; exact Hwr1.out.alloc Hwr1.out.size _)
        have NBQ1 : Hid (wr.heap.size ≤ NQ1) := Lib.hid (by rw [hNQ1]; exact Hwr1.out.size)
        have NEAQ1 : Hid (NA ≠ NQ1) := Lib.hid (by rw [hNQ1]; exact Nat.ne_of_lt (World.block_lt_of_cell? (h := bA.out.c0)))
        have NEUQ1 : Hid (NU ≠ NQ1) := Lib.hid (by rw [hNQ1]; exact Nat.ne_of_lt (World.block_lt_of_cell? (h := bU.out.c0)))
        have NEVQ1 : Hid (NV ≠ NQ1) := Lib.hid (by rw [hNQ1]; exact Nat.ne_of_lt (World.block_lt_of_cell? (h := bV.out.c0)))
        have bA' : Hid (VarAt wr1' NA mx my) := Lib.hid (by rw [hwQ1]; exact bA.out.alloc _)
        clear bA
        have bA := bA'
        clear bA'
        have bU' : Hid (VarAt wr1' NU a b) := Lib.hid (by rw [hwQ1]; exact bU.out.alloc _)
        clear bU
        have bU := bU'
        clear bU'
        have bV' : Hid (VarAt wr1' NV c e) := Lib.hid (by rw [hwQ1]; exact bV.out.alloc _)
        clear bV
        have bV := bV'
        clear bV'
        have bQ1 : Hid (VarAt wr1' NQ1 Sx Sy) := Lib.hid (by rw [hwQ1, hNQ1]; exact ⟨by simp [go_sem], by simp [go_sem], by simp [go_sem], by simp [go_sem]⟩)
        clear hwQ1 hNQ1 Hwr1
        refine (radd_any a b c e Sx Sy Sz _ HV.out.1.1 HV.out.1.2 HV.out.2.1.1 HV.out.2.1.2 HV.out.2.2.1.1 HV.out.2.2.1.2 HV.out.2.2.2.1 HV.out.2.2.2.2 HPS.out).mono ?_
        rintro e wr2 ⟨rfl, hB⟩
        have Hwr2 : Hid (Below wr.heap.size wr wr2) := Lib.hid (Hwr1'.out.trans (hB.mono Hwr1'.out.size))
        have bA' := Lib.hid (bA.out.below hB)
        have bU' := Lib.hid (bU.out.below hB)
        have bV' := Lib.hid (bV.out.below hB)
        have bQ1' := Lib.hid (bQ1.out.below hB)
        clear hB bA bU bV bQ1 qU0 qU1 qUl qV0 qV1 qVl Hwr1'
        have bA := bA'
        clear bA'
        have bU := bU'
        clear bU'
        have bV := bV'
        clear bV'
        have bQ1 := bQ1'
        clear bQ1'
        have qU0 := bU.out.c0
        have qU1 := bU.out.c1
        have qUl := World.block_lt_of_cell? (h := qU0)
        have qV0 := bV.out.c0
        have qV1 := bV.out.c1
        have qVl := World.block_lt_of_cell? (h := qV0)
        go_wp2_with fail
        obtain ⟨wr2', hwQ2⟩ : ∃ wr2', wr2' = wr2.alloc (Obj.cells #[Value.int IntKind.i64 Sx, Value.int IntKind.i64 Sy] 25) := ⟨_, rfl⟩
        obtain ⟨NQ2, hNQ2⟩ : ∃ N, N = wr2.heap.size := ⟨_, rfl⟩
        rw [← hwQ2, ← hNQ2]
        have Hwr2' : Hid (Below wr.heap.size wr wr2') := Lib.hid (by rw [hwQ2]; exact Hwr2.out.alloc Hwr2.out.size _)
        have NBQ2 : Hid (wr.heap.size ≤ NQ2) := Lib.hid (by rw [hNQ2]; exact Hwr2.out.size)
        have NEAQ2 : Hid (NA ≠ NQ2) := Lib.hid (by rw [hNQ2]; exact Nat.ne_of_lt (World.block_lt_of_cell? (h := bA.out.c0)))
        have NEUQ2 : Hid (NU ≠ NQ2) := Lib.hid (by rw [hNQ2]; exact Nat.ne_of_lt (World.block_lt_of_cell? (h := bU.out.c0)))
        have NEVQ2 : Hid (NV ≠ NQ2) := Lib.hid (by rw [hNQ2]; exact Nat.ne_of_lt (World.block_lt_of_cell? (h := bV.out.c0)))
        have NEQ1Q2 : Hid (NQ1 ≠ NQ2) := Lib.hid (by rw [hNQ2]; exact Nat.ne_of_lt (World.block_lt_of_cell? (h := bQ1.out.c0)))
        have bA' : Hid (VarAt wr2' NA mx my) := Lib.hid (by rw [hwQ2]; exact bA.out.alloc _)
        clear bA
        have bA := bA'
        clear bA'
        have bU' : Hid (VarAt wr2' NU a b) := Lib.hid (by rw [hwQ2]; exact bU.out.alloc _)
        clear bU
        have bU := bU'
        clear bU'
        have bV' : Hid (VarAt wr2' NV c e) := Lib.hid (by rw [hwQ2]; exact bV.out.alloc _)
        clear bV
        have bV := bV'
        clear bV'
        have bQ1' : Hid (VarAt wr2' NQ1 Sx Sy) := Lib.hid (by rw [hwQ2]; exact bQ1.out.alloc _)
        clear bQ1
        have bQ1 := bQ1'
        clear bQ1'
        have bQ2 : Hid (VarAt wr2' NQ2 Sx Sy) := Lib.hid (by rw [hwQ2, hNQ2]; exact ⟨by simp [go_sem], by simp [go_sem], by simp [go_sem], by simp [go_sem]⟩)
        clear hwQ2 hNQ2 Hwr2
        refine (sub_any a b c e Tx Ty Tz er _ HV.out.1.1 HV.out.1.2 HV.out.2.1.1 HV.out.2.1.2 HV.out.2.2.1.1 HV.out.2.2.1.2 HV.out.2.2.2.1 HV.out.2.2.2.2 (HTr.out.below Hwr2'.out).err HPT.out.nm HPT.out.dn HPT.out.er).mono ?_
        rintro e wr3 ⟨rfl, hB⟩
        have Hwr3 : Hid (Below wr.heap.size wr wr3) := Lib.hid (Hwr2'.out.trans (hB.mono Hwr2'.out.size))
        have bA' := Lib.hid (bA.out.below hB)
        have bU' := Lib.hid (bU.out.below hB)
        have bV' := Lib.hid (bV.out.below hB)
        have bQ1' := Lib.hid (bQ1.out.below hB)
        have bQ2' := Lib.hid (bQ2.out.below hB)
        clear hB bA bU bV bQ1 bQ2 qU0 qU1 qUl qV0 qV1 qVl Hwr2'
        have bA := bA'
        clear bA'
        have bU := bU'
        clear bU'
        have bV := bV'
        clear bV'
        have bQ1 := bQ1'
        clear bQ1'
        have bQ2 := bQ2'
        clear bQ2'
        have qU0 := bU.out.c0
        have qU1 := bU.out.c1
        have qUl := World.block_lt_of_cell? (h := qU0)
        have qV0 := bV.out.c0
        have qV1 := bV.out.c1
        have qVl := World.block_lt_of_cell? (h := qV0)
        go_wp2_with fail
        obtain ⟨wr3', hwQ3⟩ : ∃ wr3', wr3' = wr3.alloc (Obj.cells #[Value.int IntKind.i64 Tx, Value.int IntKind.i64 Ty] 25) := ⟨_, rfl⟩
        obtain ⟨NQ3, hNQ3⟩ : ∃ N, N = wr3.heap.size := ⟨_, rfl⟩
        rw [← hwQ3, ← hNQ3]
        have Hwr3' : Hid (Below wr.heap.size wr wr3') := Lib.hid (by rw [hwQ3]; exact Hwr3.out.alloc Hwr3.out.size _)
        have NBQ3 : Hid (wr.heap.size ≤ NQ3) := Lib.hid (by rw [hNQ3]; exact Hwr3.out.size)
        have NEAQ3 : Hid (NA ≠ NQ3) := Lib.hid (by rw [hNQ3]; exact Nat.ne_of_lt (World.block_lt_of_cell? (h := bA.out.c0)))
        have NEUQ3 : Hid (NU ≠ NQ3) := Lib.hid (by rw [hNQ3]; exact Nat.ne_of_lt (World.block_lt_of_cell? (h := bU.out.c0)))
        have NEVQ3 : Hid (NV ≠ NQ3) := Lib.hid (by rw [hNQ3]; exact Nat.ne_of_lt (World.block_lt_of_cell? (h := bV.out.c0)))
        have NEQ1Q3 : Hid (NQ1 ≠ NQ3) := Lib.hid (by rw [hNQ3]; exact Nat.ne_of_lt (World.block_lt_of_cell? (h := bQ1.out.c0)))
        have NEQ2Q3 : Hid (NQ2 ≠ NQ3) := Lib.hid (by rw [hNQ3]; exact Nat.ne_of_lt (World.block_lt_of_cell? (h := bQ2.out.c0)))
        have bA' : Hid (VarAt wr3' NA mx my) := Lib.hid (by rw [hwQ3]; exact bA.out.alloc _)
        clear bA
        have bA := bA'
        clear bA'
        have bU' : Hid (VarAt wr3' NU a b) := Lib.hid (by rw [hwQ3]; exact bU.out.alloc _)
        clear bU
        have bU := bU'
        clear bU'
        have bV' : Hid (VarAt wr3' NV c e) := Lib.hid (by rw [hwQ3]; exact bV.out.alloc _)
        clear bV
        have bV := bV'
        clear bV'
        have bQ1' : Hid (VarAt wr3' NQ1 Sx Sy) := Lib.hid (by rw [hwQ3]; exact bQ1.out.alloc _)
        clear bQ1
        have bQ1 := bQ1'
        clear bQ1'
        have bQ2' : Hid (VarAt wr3' NQ2 Sx Sy) := Lib.hid (by rw [hwQ3]; exact bQ2.out.alloc _)
        clear bQ2
        have bQ2 := bQ2'
        clear bQ2'
        have bQ3 : Hid (VarAt wr3' NQ3 Tx Ty) := Lib.hid (by rw [hwQ3, hNQ3]; exact ⟨by simp [go_sem], by simp [go_sem], by simp [go_sem], by simp [go_sem]⟩)
        clear hwQ3 hNQ3 Hwr3
        refine (rsub_any a b c e Tx Ty Tz _ HV.out.1.1 HV.out.1.2 HV.out.2.1.1 HV.out.2.1.2 HV.out.2.2.1.1 HV.out.2.2.1.2 HV.out.2.2.2.1 HV.out.2.2.2.2 HPT.out).mono ?_
        rintro e wr4 ⟨rfl, hB⟩
        have Hwr4 : Hid (Below wr.heap.size wr wr4) := Lib.hid (Hwr3'.out.trans (hB.mono Hwr3'.out.size))
        have bA' := Lib.hid (bA.out.below hB)
        have bU' := Lib.hid (bU.out.below hB)
        have bV' := Lib.hid (bV.out.below hB)
        have bQ1' := Lib.hid (bQ1.out.below hB)
        have bQ2' := Lib.hid (bQ2.out.below hB)
        have bQ3' := Lib.hid (bQ3.out.below hB)
        clear hB bA bU bV bQ1 bQ2 bQ3 qU0 qU1 qUl qV0 qV1 qVl Hwr3'
        have bA := bA'
        clear bA'
        have bU := bU'
        clear bU'
        have bV := bV'
        clear bV'
        have bQ1 := bQ1'
        clear bQ1'
        have bQ2 := bQ2'
        clear bQ2'
        have bQ3 := bQ3'
        clear bQ3'
        have qU0 := bU.out.c0
        have qU1 := bU.out.c1
        have qUl := World.block_lt_of_cell? (h := qU0)
        have qV0 := bV.out.c0
        have qV1 := bV.out.c1
        have qVl := World.block_lt_of_cell? (h := qV0)
        have qQ10 := bQ1.out.c0
        have qQ11 := bQ1.out.c1
        have qQ1l := World.block_lt_of_cell? (h := qQ10)
        have qQ20 := bQ2.out.c0
        have qQ21 := bQ2.out.c1
        have qQ2l := World.block_lt_of_cell? (h := qQ20)
        have qQ30 := bQ3.out.c0
        have qQ31 := bQ3.out.c1
        have qQ3l := World.block_lt_of_cell? (h := qQ30)
        go_wp2_with fail
        obtain ⟨wr4', hwQ4⟩ : ∃ wr4', wr4' = wr4.alloc (Obj.cells #[Value.int IntKind.i64 Tx, Value.int IntKind.i64 Ty] 25) := ⟨_, rfl⟩
        obtain ⟨NQ4, hNQ4⟩ : ∃ N, N = wr4.heap.size := ⟨_, rfl⟩
        rw [← hwQ4, ← hNQ4]
        have Hwr4' : Hid (Below wr.heap.size wr wr4') := Lib.hid (by rw [hwQ4]; exact Hwr4.out.alloc Hwr4.out.size _)
        have NBQ4 : Hid (wr.heap.size ≤ NQ4) := Lib.hid (by rw [hNQ4]; exact Hwr4.out.size)
        have NEAQ4 : Hid (NA ≠ NQ4) := Lib.hid (by rw [hNQ4]; exact Nat.ne_of_lt (World.block_lt_of_cell? (h := bA.out.c0)))
        have NEUQ4 : Hid (NU ≠ NQ4) := Lib.hid (by rw [hNQ4]; exact Nat.ne_of_lt (World.block_lt_of_cell? (h := bU.out.c0)))
        have NEVQ4 : Hid (NV ≠ NQ4) := Lib.hid (by rw [hNQ4]; exact Nat.ne_of_lt (World.block_lt_of_cell? (h := bV.out.c0)))
        have NEQ1Q4 : Hid (NQ1 ≠ NQ4) := Lib.hid (by rw [hNQ4]; exact Nat.ne_of_lt (World.block_lt_of_cell? (h := bQ1.out.c0)))
        have NEQ2Q4 : Hid (NQ2 ≠ NQ4) := Lib.hid (by rw [hNQ4]; exact Nat.ne_of_lt (World.block_lt_of_cell? (h := bQ2.out.c0)))
        have NEQ3Q4 : Hid (NQ3 ≠ NQ4) := Lib.hid (by rw [hNQ4]; exact Nat.ne_of_lt (World.block_lt_of_cell? (h := bQ3.out.c0)))
        have bA' : Hid (VarAt wr4' NA mx my) := Lib.hid (by rw [hwQ4]; exact bA.out.alloc _)
        clear bA
        have bA := bA'
        clear bA'
        have bU' : Hid (VarAt wr4' NU a b) := Lib.hid (by rw [hwQ4]; exact bU.out.alloc _)
        clear bU
        have bU := bU'
        clear bU'
        have bV' : Hid (VarAt wr4' NV c e) := Lib.hid (by rw [hwQ4]; exact bV.out.alloc _)
        clear bV
        have bV := bV'
        clear bV'
        have bQ1' : Hid (VarAt wr4' NQ1 Sx Sy) := Lib.hid (by rw [hwQ4]; exact bQ1.out.alloc _)
        clear bQ1
        have bQ1 := bQ1'
        clear bQ1'
        have bQ2' : Hid (VarAt wr4' NQ2 Sx Sy) := Lib.hid (by rw [hwQ4]; exact bQ2.out.alloc _)
        clear bQ2
        have bQ2 := bQ2'
        clear bQ2'
        have bQ3' : Hid (VarAt wr4' NQ3 Tx Ty) := Lib.hid (by rw [hwQ4]; exact bQ3.out.alloc _)
        clear bQ3
        have bQ3 := bQ3'
        clear bQ3'
        have bQ4 : Hid (VarAt wr4' NQ4 Tx Ty) := Lib.hid (by rw [hwQ4, hNQ4]; exact ⟨by simp [go_sem], by simp [go_sem], by simp [go_sem], by simp [go_sem]⟩)
        clear hwQ4 hNQ4 Hwr4
        clear qU0 qU1 qUl qV0 qV1 qVl qQ10 qQ11 qQ1l qQ20 qQ21 qQ2l qQ30 qQ31 qQ3l
        refine (mul_any a b c e Ux Uy Uz er _ HV.out.1.1 HV.out.1.2 HV.out.2.1.1 HV.out.2.1.2 HV.out.2.2.1.1 HV.out.2.2.1.2 HV.out.2.2.2.1 HV.out.2.2.2.2 (HTr.out.below Hwr4'.out).err HPU.out.nm HPU.out.dn HPU.out.er).mono ?_
        rintro e wr5 ⟨rfl, hB⟩
        have Hwr5 : Hid (Below wr.heap.size wr wr5) := Lib.hid (Hwr4'.out.trans (hB.mono Hwr4'.out.size))
        have bA' := Lib.hid (bA.out.below hB)
        have bU' := Lib.hid (bU.out.below hB)
        have bV' := Lib.hid (bV.out.below hB)
        have bQ1' := Lib.hid (bQ1.out.below hB)
        have bQ2' := Lib.hid (bQ2.out.below hB)
        have bQ3' := Lib.hid (bQ3.out.below hB)
        have bQ4' := Lib.hid (bQ4.out.below hB)
        clear hB bA bU bV bQ1 bQ2 bQ3 bQ4 Hwr4'
        have bA := bA'
        clear bA'
        have bU := bU'
        clear bU'
        have bV := bV'
        clear bV'
        have bQ1 := bQ1'
        clear bQ1'
        have bQ2 := bQ2'
        clear bQ2'
        have bQ3 := bQ3'
        clear bQ3'
        have bQ4 := bQ4'
        clear bQ4'
        have qQ10 := bQ1.out.c0
        have qQ11 := bQ1.out.c1
        have rQ10 := bQ1.out.z0
        have rQ11 := bQ1.out.z1
        have qQ1l := World.block_lt_of_cell? (h := qQ10)
        have Hwr5' : Hid (Below wr.heap.size wr ((wr5.setCell ⟨NQ1, 0, none⟩ (Value.int IntKind.i64 Ux)).setCell ⟨NQ1, 1, none⟩ (Value.int IntKind.i64 Uy))) := Lib.hid ((Hwr5.out.setCell NBQ1.out _).setCell NBQ1.out _)
        have bA' : Hid (VarAt ((wr5.setCell ⟨NQ1, 0, none⟩ (Value.int IntKind.i64 Ux)).setCell ⟨NQ1, 1, none⟩ (Value.int IntKind.i64 Uy)) NA mx my) := Lib.hid (bA.out.set NEAQ1.out _ _)
        have bU' : Hid (VarAt ((wr5.setCell ⟨NQ1, 0, none⟩ (Value.int IntKind.i64 Ux)).setCell ⟨NQ1, 1, none⟩ (Value.int IntKind.i64 Uy)) NU a b) := Lib.hid (bU.out.set NEUQ1.out _ _)
        have bV' : Hid (VarAt ((wr5.setCell ⟨NQ1, 0, none⟩ (Value.int IntKind.i64 Ux)).setCell ⟨NQ1, 1, none⟩ (Value.int IntKind.i64 Uy)) NV c e) := Lib.hid (bV.out.set NEVQ1.out _ _)
        have bQ1' : Hid (VarAt ((wr5.setCell ⟨NQ1, 0, none⟩ (Value.int IntKind.i64 Ux)).setCell ⟨NQ1, 1, none⟩ (Value.int IntKind.i64 Uy)) NQ1 Ux Uy) := Lib.hid (bQ1.out.put _ _)
        have bQ2' : Hid (VarAt ((wr5.setCell ⟨NQ1, 0, none⟩ (Value.int IntKind.i64 Ux)).setCell ⟨NQ1, 1, none⟩ (Value.int IntKind.i64 Uy)) NQ2 Sx Sy) := Lib.hid (bQ2.out.set NEQ1Q2.out.symm _ _)
        have bQ3' : Hid (VarAt ((wr5.setCell ⟨NQ1, 0, none⟩ (Value.int IntKind.i64 Ux)).setCell ⟨NQ1, 1, none⟩ (Value.int IntKind.i64 Uy)) NQ3 Tx Ty) := Lib.hid (bQ3.out.set NEQ1Q3.out.symm _ _)
        have bQ4' : Hid (VarAt ((wr5.setCell ⟨NQ1, 0, none⟩ (Value.int IntKind.i64 Ux)).setCell ⟨NQ1, 1, none⟩ (Value.int IntKind.i64 Uy)) NQ4 Tx Ty) := Lib.hid (bQ4.out.set NEQ1Q4.out.symm _ _)
        clear bA
        have bA := bA'
        clear bA'
        clear bU
        have bU := bU'
        clear bU'
        clear bV
        have bV := bV'
        clear bV'
        clear bQ1
        have bQ1 := bQ1'
        clear bQ1'
        clear bQ2
        have bQ2 := bQ2'
        clear bQ2'
        clear bQ3
        have bQ3 := bQ3'
        clear bQ3'
        clear bQ4
        have bQ4 := bQ4'
        clear bQ4'
        have pU0 := bU.out.c0
        have pU1 := bU.out.c1
        have pV0 := bV.out.c0
        have pV1 := bV.out.c1
        go_wp2_with fail
        obtain ⟨wr5', hw⟩ : ∃ wr5', wr5' = (wr5.setCell ⟨NQ1, 0, none⟩ (Value.int IntKind.i64 Ux)).setCell ⟨NQ1, 1, none⟩ (Value.int IntKind.i64 Uy) := ⟨_, rfl⟩
        rw [← hw] at bA bU bV bQ1 bQ2 bQ3 bQ4 Hwr5' ⊢
        clear hw qQ10 qQ11 rQ10 rQ11 qQ1l pU0 pU1 pV0 pV1 Hwr5
        refine (rmul_any a b c e Ux Uy Uz _ HV.out.1.1 HV.out.1.2 HV.out.2.1.1 HV.out.2.1.2 HV.out.2.2.1.1 HV.out.2.2.1.2 HV.out.2.2.2.1 HV.out.2.2.2.2 HPU.out).mono ?_
        rintro e wr6 ⟨rfl, hB⟩
        have Hwr6 : Hid (Below wr.heap.size wr wr6) := Lib.hid (Hwr5'.out.trans (hB.mono Hwr5'.out.size))
        have bA' := Lib.hid (bA.out.below hB)
        have bU' := Lib.hid (bU.out.below hB)
        have bV' := Lib.hid (bV.out.below hB)
        have bQ1' := Lib.hid (bQ1.out.below hB)
        have bQ2' := Lib.hid (bQ2.out.below hB)
        have bQ3' := Lib.hid (bQ3.out.below hB)
        have bQ4' := Lib.hid (bQ4.out.below hB)
        clear hB bA bU bV bQ1 bQ2 bQ3 bQ4 Hwr5'
        have bA := bA'
        clear bA'
        have bU := bU'
        clear bU'
        have bV := bV'
        clear bV'
        have bQ1 := bQ1'
        clear bQ1'
        have bQ2 := bQ2'
        clear bQ2'
        have bQ3 := bQ3'
        clear bQ3'
        have bQ4 := bQ4'
        clear bQ4'
        have qQ20 := bQ2.out.c0
        have qQ21 := bQ2.out.c1
        have rQ20 := bQ2.out.z0
        have rQ21 := bQ2.out.z1
        have qQ2l := World.block_lt_of_cell? (h := qQ20)
        have Hwr6' : Hid (Below wr.heap.size wr ((wr6.setCell ⟨NQ2, 0, none⟩ (Value.int IntKind.i64 Ux)).setCell ⟨NQ2, 1, none⟩ (Value.int IntKind.i64 Uy))) := Lib.hid ((Hwr6.out.setCell NBQ2.out _).setCell NBQ2.out _)
        have bA' : Hid (VarAt ((wr6.setCell ⟨NQ2, 0, none⟩ (Value.int IntKind.i64 Ux)).setCell ⟨NQ2, 1, none⟩ (Value.int IntKind.i64 Uy)) NA mx my) := Lib.hid (bA.out.set NEAQ2.out _ _)
        have bU' : Hid (VarAt ((wr6.setCell ⟨NQ2, 0, none⟩ (Value.int IntKind.i64 Ux)).setCell ⟨NQ2, 1, none⟩ (Value.int IntKind.i64 Uy)) NU a b) := Lib.hid (bU.out.set NEUQ2.out _ _)
        have bV' : Hid (VarAt ((wr6.setCell ⟨NQ2, 0, none⟩ (Value.int IntKind.i64 Ux)).setCell ⟨NQ2, 1, none⟩ (Value.int IntKind.i64 Uy)) NV c e) := Lib.hid (bV.out.set NEVQ2.out _ _)
        have bQ1' : Hid (VarAt ((wr6.setCell ⟨NQ2, 0, none⟩ (Value.int IntKind.i64 Ux)).setCell ⟨NQ2, 1, none⟩ (Value.int IntKind.i64 Uy)) NQ1 Ux Uy) := Lib.hid (bQ1.out.set NEQ1Q2.out _ _)
        have bQ2' : Hid (VarAt ((wr6.setCell ⟨NQ2, 0, none⟩ (Value.int IntKind.i64 Ux)).setCell ⟨NQ2, 1, none⟩ (Value.int IntKind.i64 Uy)) NQ2 Ux Uy) := Lib.hid (bQ2.out.put _ _)
        have bQ3' : Hid (VarAt ((wr6.setCell ⟨NQ2, 0, none⟩ (Value.int IntKind.i64 Ux)).setCell ⟨NQ2, 1, none⟩ (Value.int IntKind.i64 Uy)) NQ3 Tx Ty) := Lib.hid (bQ3.out.set NEQ2Q3.out.symm _ _)
        have bQ4' : Hid (VarAt ((wr6.setCell ⟨NQ2, 0, none⟩ (Value.int IntKind.i64 Ux)).setCell ⟨NQ2, 1, none⟩ (Value.int IntKind.i64 Uy)) NQ4 Tx Ty) := Lib.hid (bQ4.out.set NEQ2Q4.out.symm _ _)
        clear bA
        have bA := bA'
        clear bA'
        clear bU
        have bU := bU'
        clear bU'
        clear bV
        have bV := bV'
        clear bV'
        clear bQ1
        have bQ1 := bQ1'
        clear bQ1'
        clear bQ2
        have bQ2 := bQ2'
        clear bQ2'
        clear bQ3
        have bQ3 := bQ3'
        clear bQ3'
        clear bQ4
        have bQ4 := bQ4'
        clear bQ4'
        have pU0 := bU.out.c0
        have pU1 := bU.out.c1
        have pV0 := bV.out.c0
        have pV1 := bV.out.c1
        go_wp2_with fail
        obtain ⟨wr6', hw⟩ : ∃ wr6', wr6' = (wr6.setCell ⟨NQ2, 0, none⟩ (Value.int IntKind.i64 Ux)).setCell ⟨NQ2, 1, none⟩ (Value.int IntKind.i64 Uy) := ⟨_, rfl⟩
        rw [← hw] at bA bU bV bQ1 bQ2 bQ3 bQ4 Hwr6' ⊢
        clear hw qQ20 qQ21 rQ20 rQ21 qQ2l pU0 pU1 pV0 pV1 Hwr6
        refine (div_any a b c e Vx Vy Vz er _ HV.out.1.1 HV.out.1.2 HV.out.2.1.1 HV.out.2.1.2 HV.out.2.2.1.1 HV.out.2.2.1.2 HV.out.2.2.2.1 HV.out.2.2.2.2 (HTr.out.below Hwr6'.out).err HPV.out.nm HPV.out.dn HPV.out.er).mono ?_
        rintro e wr7 ⟨rfl, hB⟩
        have Hwr7 : Hid (Below wr.heap.size wr wr7) := Lib.hid (Hwr6'.out.trans (hB.mono Hwr6'.out.size))
        have bA' := Lib.hid (bA.out.below hB)
        have bU' := Lib.hid (bU.out.below hB)
        have bV' := Lib.hid (bV.out.below hB)
        have bQ1' := Lib.hid (bQ1.out.below hB)
        have bQ2' := Lib.hid (bQ2.out.below hB)
        have bQ3' := Lib.hid (bQ3.out.below hB)
        have bQ4' := Lib.hid (bQ4.out.below hB)
        clear hB bA bU bV bQ1 bQ2 bQ3 bQ4 Hwr6'
        have bA := bA'
        clear bA'
        have bU := bU'
        clear bU'
        have bV := bV'
        clear bV'
        have bQ1 := bQ1'
        clear bQ1'
        have bQ2 := bQ2'
        clear bQ2'
        have bQ3 := bQ3'
        clear bQ3'
        have bQ4 := bQ4'
        clear bQ4'
        have qQ30 := bQ3.out.c0
        have qQ31 := bQ3.out.c1
        have rQ30 := bQ3.out.z0
        have rQ31 := bQ3.out.z1
        have qQ3l := World.block_lt_of_cell? (h := qQ30)
        have Hwr7' : Hid (Below wr.heap.size wr ((wr7.setCell ⟨NQ3, 0, none⟩ (Value.int IntKind.i64 Vx)).setCell ⟨NQ3, 1, none⟩ (Value.int IntKind.i64 Vy))) := Lib.hid ((Hwr7.out.setCell NBQ3.out _).setCell NBQ3.out _)
        have bA' : Hid (VarAt ((wr7.setCell ⟨NQ3, 0, none⟩ (Value.int IntKind.i64 Vx)).setCell ⟨NQ3, 1, none⟩ (Value.int IntKind.i64 Vy)) NA mx my) := Lib.hid (bA.out.set NEAQ3.out _ _)
        have bU' : Hid (VarAt ((wr7.setCell ⟨NQ3, 0, none⟩ (Value.int IntKind.i64 Vx)).setCell ⟨NQ3, 1, none⟩ (Value.int IntKind.i64 Vy)) NU a b) := Lib.hid (bU.out.set NEUQ3.out _ _)
        have bV' : Hid (VarAt ((wr7.setCell ⟨NQ3, 0, none⟩ (Value.int IntKind.i64 Vx)).setCell ⟨NQ3, 1, none⟩ (Value.int IntKind.i64 Vy)) NV c e) := Lib.hid (bV.out.set NEVQ3.out _ _)
        have bQ1' : Hid (VarAt ((wr7.setCell ⟨NQ3, 0, none⟩ (Value.int IntKind.i64 Vx)).setCell ⟨NQ3, 1, none⟩ (Value.int IntKind.i64 Vy)) NQ1 Ux Uy) := Lib.hid (bQ1.out.set NEQ1Q3.out _ _)
        have bQ2' : Hid (VarAt ((wr7.setCell ⟨NQ3, 0, none⟩ (Value.int IntKind.i64 Vx)).setCell ⟨NQ3, 1, none⟩ (Value.int IntKind.i64 Vy)) NQ2 Ux Uy) := Lib.hid (bQ2.out.set NEQ2Q3.out _ _)
        have bQ3' : Hid (VarAt ((wr7.setCell ⟨NQ3, 0, none⟩ (Value.int IntKind.i64 Vx)).setCell ⟨NQ3, 1, none⟩ (Value.int IntKind.i64 Vy)) NQ3 Vx Vy) := Lib.hid (bQ3.out.put _ _)
        have bQ4' : Hid (VarAt ((wr7.setCell ⟨NQ3, 0, none⟩ (Value.int IntKind.i64 Vx)).setCell ⟨NQ3, 1, none⟩ (Value.int IntKind.i64 Vy)) NQ4 Tx Ty) := Lib.hid (bQ4.out.set NEQ3Q4.out.symm _ _)
        clear bA
        have bA := bA'
        clear bA'
        clear bU
        have bU := bU'
        clear bU'
        clear bV
        have bV := bV'
        clear bV'
        clear bQ1
        have bQ1 := bQ1'
        clear bQ1'
        clear bQ2
        have bQ2 := bQ2'
        clear bQ2'
        clear bQ3
        have bQ3 := bQ3'
        clear bQ3'
        clear bQ4
        have bQ4 := bQ4'
        clear bQ4'
        have pU0 := bU.out.c0
        have pU1 := bU.out.c1
        have pV0 := bV.out.c0
        have pV1 := bV.out.c1
        go_wp2_with fail
        obtain ⟨wr7', hw⟩ : ∃ wr7', wr7' = (wr7.setCell ⟨NQ3, 0, none⟩ (Value.int IntKind.i64 Vx)).setCell ⟨NQ3, 1, none⟩ (Value.int IntKind.i64 Vy) := ⟨_, rfl⟩
        rw [← hw] at bA bU bV bQ1 bQ2 bQ3 bQ4 Hwr7' ⊢
        clear hw qQ30 qQ31 rQ30 rQ31 qQ3l pU0 pU1 pV0 pV1 Hwr7
        refine (rdiv_any a b c e Vx Vy Vz _ HV.out.1.1 HV.out.1.2 HV.out.2.1.1 HV.out.2.1.2 HV.out.2.2.1.1 HV.out.2.2.1.2 HV.out.2.2.2.1 HV.out.2.2.2.2 HPV.out).mono ?_
        rintro e wr8 ⟨rfl, hB⟩
        have Hwr8 : Hid (Below wr.heap.size wr wr8) := Lib.hid (Hwr7'.out.trans (hB.mono Hwr7'.out.size))
        have bA' := Lib.hid (bA.out.below hB)
        have bU' := Lib.hid (bU.out.below hB)
        have bV' := Lib.hid (bV.out.below hB)
        have bQ1' := Lib.hid (bQ1.out.below hB)
        have bQ2' := Lib.hid (bQ2.out.below hB)
        have bQ3' := Lib.hid (bQ3.out.below hB)
        have bQ4' := Lib.hid (bQ4.out.below hB)
        clear hB bA bU bV bQ1 bQ2 bQ3 bQ4 Hwr7'
        have bA := bA'
        clear bA'
        have bU := bU'
        clear bU'
        have bV := bV'
        clear bV'
        have bQ1 := bQ1'
        clear bQ1'
        have bQ2 := bQ2'
        clear bQ2'
        have bQ3 := bQ3'
        clear bQ3'
        have bQ4 := bQ4'
        clear bQ4'
        have qQ40 := bQ4.out.c0
        have qQ41 := bQ4.out.c1
        have rQ40 := bQ4.out.z0
        have rQ41 := bQ4.out.z1
        have qQ4l := World.block_lt_of_cell? (h := qQ40)
        have Hwr8' : Hid (Below wr.heap.size wr ((wr8.setCell ⟨NQ4, 0, none⟩ (Value.int IntKind.i64 Vx)).setCell ⟨NQ4, 1, none⟩ (Value.int IntKind.i64 Vy))) := Lib.hid ((Hwr8.out.setCell NBQ4.out _).setCell NBQ4.out _)
        have bA' : Hid (VarAt ((wr8.setCell ⟨NQ4, 0, none⟩ (Value.int IntKind.i64 Vx)).setCell ⟨NQ4, 1, none⟩ (Value.int IntKind.i64 Vy)) NA mx my) := Lib.hid (bA.out.set NEAQ4.out _ _)
        have bU' : Hid (VarAt ((wr8.setCell ⟨NQ4, 0, none⟩ (Value.int IntKind.i64 Vx)).setCell ⟨NQ4, 1, none⟩ (Value.int IntKind.i64 Vy)) NU a b) := Lib.hid (bU.out.set NEUQ4.out _ _)
        have bV' : Hid (VarAt ((wr8.setCell ⟨NQ4, 0, none⟩ (Value.int IntKind.i64 Vx)).setCell ⟨NQ4, 1, none⟩ (Value.int IntKind.i64 Vy)) NV c e) := Lib.hid (bV.out.set NEVQ4.out _ _)
        have bQ1' : Hid (VarAt ((wr8.setCell ⟨NQ4, 0, none⟩ (Value.int IntKind.i64 Vx)).setCell ⟨NQ4, 1, none⟩ (Value.int IntKind.i64 Vy)) NQ1 Ux Uy) := Lib.hid (bQ1.out.set NEQ1Q4.out _ _)
        have bQ2' : Hid (VarAt ((wr8.setCell ⟨NQ4, 0, none⟩ (Value.int IntKind.i64 Vx)).setCell ⟨NQ4, 1, none⟩ (Value.int IntKind.i64 Vy)) NQ2 Ux Uy) := Lib.hid (bQ2.out.set NEQ2Q4.out _ _)
        have bQ3' : Hid (VarAt ((wr8.setCell ⟨NQ4, 0, none⟩ (Value.int IntKind.i64 Vx)).setCell ⟨NQ4, 1, none⟩ (Value.int IntKind.i64 Vy)) NQ3 Vx Vy) := Lib.hid (bQ3.out.set NEQ3Q4.out _ _)
        have bQ4' : Hid (VarAt ((wr8.setCell ⟨NQ4, 0, none⟩ (Value.int IntKind.i64 Vx)).setCell ⟨NQ4, 1, none⟩ (Value.int IntKind.i64 Vy)) NQ4 Vx Vy) := Lib.hid (bQ4.out.put _ _)
        clear bA
        have bA := bA'
        clear bA'
        clear bU
        have bU := bU'
        clear bU'
        clear bV
        have bV := bV'
        clear bV'
        clear bQ1
        have bQ1 := bQ1'
        clear bQ1'
        clear bQ2
        have bQ2 := bQ2'
        clear bQ2'
        clear bQ3
        have bQ3 := bQ3'
        clear bQ3'
        clear bQ4
        have bQ4 := bQ4'
        clear bQ4'
        have pU0 := bU.out.c0
        have pU1 := bU.out.c1
        have pV0 := bV.out.c0
        have pV1 := bV.out.c1
        have pQ10 := bQ1.out.c0
        have pQ11 := bQ1.out.c1
        have pQ20 := bQ2.out.c0
        have pQ21 := bQ2.out.c1
        have pQ30 := bQ3.out.c0
        have pQ31 := bQ3.out.c1
        have pQ40 := bQ4.out.c0
        have pQ41 := bQ4.out.c1
        go_wp2_with fail
        obtain ⟨wr8', hw⟩ : ∃ wr8', wr8' = (wr8.setCell ⟨NQ4, 0, none⟩ (Value.int IntKind.i64 Vx)).setCell ⟨NQ4, 1, none⟩ (Value.int IntKind.i64 Vy) := ⟨_, rfl⟩
        rw [← hw] at bA bU bV bQ1 bQ2 bQ3 bQ4 Hwr8' ⊢
        clear hw qQ40 qQ41 rQ40 rQ41 qQ4l pU0 pU1 pV0 pV1 pQ10 pQ11 pQ20 pQ21 pQ30 pQ31 pQ40 pQ41 Hwr8
        refine (round_any a b K Wx Wy Wz er _ HV.out.1.1 HV.out.1.2 HV.out.2.1.1 HV.out.2.1.2 HM.out.2.2.2.2.1 HM.out.2.2.2.2.2 (HTr.out.below Hwr8'.out).err HPW.out.nm HPW.out.dn HPW.out.er).mono ?_
        rintro e wr9 ⟨rfl, hB⟩
        have Hwr9 : Hid (Below wr.heap.size wr wr9) := Lib.hid (Hwr8'.out.trans (hB.mono Hwr8'.out.size))
        have bA' := Lib.hid (bA.out.below hB)
        have bU' := Lib.hid (bU.out.below hB)
        have bV' := Lib.hid (bV.out.below hB)
        have bQ1' := Lib.hid (bQ1.out.below hB)
        have bQ2' := Lib.hid (bQ2.out.below hB)
        have bQ3' := Lib.hid (bQ3.out.below hB)
        have bQ4' := Lib.hid (bQ4.out.below hB)
        clear hB bA bU bV bQ1 bQ2 bQ3 bQ4 Hwr8'
        have bA := bA'
        clear bA'
        have bU := bU'
        clear bU'
        have bV := bV'
        clear bV'
        have bQ1 := bQ1'
        clear bQ1'
        have bQ2 := bQ2'
        clear bQ2'
        have bQ3 := bQ3'
        clear bQ3'
        have bQ4 := bQ4'
        clear bQ4'
        have qQ10 := bQ1.out.c0
        have qQ11 := bQ1.out.c1
        have rQ10 := bQ1.out.z0
        have rQ11 := bQ1.out.z1
        have qQ1l := World.block_lt_of_cell? (h := qQ10)
        have Hwr9' : Hid (Below wr.heap.size wr ((wr9.setCell ⟨NQ1, 0, none⟩ (Value.int IntKind.i64 Wx)).setCell ⟨NQ1, 1, none⟩ (Value.int IntKind.i64 Wy))) := Lib.hid ((Hwr9.out.setCell NBQ1.out _).setCell NBQ1.out _)
        have bA' : Hid (VarAt ((wr9.setCell ⟨NQ1, 0, none⟩ (Value.int IntKind.i64 Wx)).setCell ⟨NQ1, 1, none⟩ (Value.int IntKind.i64 Wy)) NA mx my) := Lib.hid (bA.out.set NEAQ1.out _ _)
        have bU' : Hid (VarAt ((wr9.setCell ⟨NQ1, 0, none⟩ (Value.int IntKind.i64 Wx)).setCell ⟨NQ1, 1, none⟩ (Value.int IntKind.i64 Wy)) NU a b) := Lib.hid (bU.out.set NEUQ1.out _ _)
        have bV' : Hid (VarAt ((wr9.setCell ⟨NQ1, 0, none⟩ (Value.int IntKind.i64 Wx)).setCell ⟨NQ1, 1, none⟩ (Value.int IntKind.i64 Wy)) NV c e) := Lib.hid (bV.out.set NEVQ1.out _ _)
        have bQ1' : Hid (VarAt ((wr9.setCell ⟨NQ1, 0, none⟩ (Value.int IntKind.i64 Wx)).setCell ⟨NQ1, 1, none⟩ (Value.int IntKind.i64 Wy)) NQ1 Wx Wy) := Lib.hid (bQ1.out.put _ _)
        have bQ2' : Hid (VarAt ((wr9.setCell ⟨NQ1, 0, none⟩ (Value.int IntKind.i64 Wx)).setCell ⟨NQ1, 1, none⟩ (Value.int IntKind.i64 Wy)) NQ2 Ux Uy) := Lib.hid (bQ2.out.set NEQ1Q2.out.symm _ _)
        have bQ3' : Hid (VarAt ((wr9.setCell ⟨NQ1, 0, none⟩ (Value.int IntKind.i64 Wx)).setCell ⟨NQ1, 1, none⟩ (Value.int IntKind.i64 Wy)) NQ3 Vx Vy) := Lib.hid (bQ3.out.set NEQ1Q3.out.symm _ _)
        have bQ4' : Hid (VarAt ((wr9.setCell ⟨NQ1, 0, none⟩ (Value.int IntKind.i64 Wx)).setCell ⟨NQ1, 1, none⟩ (Value.int IntKind.i64 Wy)) NQ4 Vx Vy) := Lib.hid (bQ4.out.set NEQ1Q4.out.symm _ _)
        clear bA
        have bA := bA'
        clear bA'
        clear bU
        have bU := bU'
        clear bU'
        clear bV
        have bV := bV'
        clear bV'
        clear bQ1
        have bQ1 := bQ1'
        clear bQ1'
        clear bQ2
        have bQ2 := bQ2'
        clear bQ2'
        clear bQ3
        have bQ3 := bQ3'
        clear bQ3'
        clear bQ4
        have bQ4 := bQ4'
        clear bQ4'
        have pU0 := bU.out.c0
        have pU1 := bU.out.c1
        have pV0 := bV.out.c0
        have pV1 := bV.out.c1
        go_wp2_with fail
        obtain ⟨wr9', hw⟩ : ∃ wr9', wr9' = (wr9.setCell ⟨NQ1, 0, none⟩ (Value.int IntKind.i64 Wx)).setCell ⟨NQ1, 1, none⟩ (Value.int IntKind.i64 Wy) := ⟨_, rfl⟩
        rw [← hw] at bA bU bV bQ1 bQ2 bQ3 bQ4 Hwr9' ⊢
        clear hw qQ10 qQ11 rQ10 rQ11 qQ1l pU0 pU1 pV0 pV1 Hwr9
        refine (rround_any a b K Wx Wy Wz _ HV.out.1.1 HV.out.1.2 HV.out.2.1.1 HV.out.2.1.2 HM.out.2.2.2.2.1 HM.out.2.2.2.2.2 HPW.out).mono ?_
        rintro e wr10 ⟨rfl, hB⟩
        have Hwr10 : Hid (Below wr.heap.size wr wr10) := Lib.hid (Hwr9'.out.trans (hB.mono Hwr9'.out.size))
        have bA' := Lib.hid (bA.out.below hB)
        have bU' := Lib.hid (bU.out.below hB)
        have bV' := Lib.hid (bV.out.below hB)
        have bQ1' := Lib.hid (bQ1.out.below hB)
        have bQ2' := Lib.hid (bQ2.out.below hB)
        have bQ3' := Lib.hid (bQ3.out.below hB)
        have bQ4' := Lib.hid (bQ4.out.below hB)
        clear hB bA bU bV bQ1 bQ2 bQ3 bQ4 Hwr9'
        have bA := bA'
        clear bA'
        have bU := bU'
        clear bU'
        have bV := bV'
        clear bV'
        have bQ1 := bQ1'
        clear bQ1'
        have bQ2 := bQ2'
        clear bQ2'
        have bQ3 := bQ3'
        clear bQ3'
        have bQ4 := bQ4'
        clear bQ4'
        have qQ20 := bQ2.out.c0
        have qQ21 := bQ2.out.c1
        have rQ20 := bQ2.out.z0
        have rQ21 := bQ2.out.z1
        have qQ2l := World.block_lt_of_cell? (h := qQ20)
        have Hwr10' : Hid (Below wr.heap.size wr ((wr10.setCell ⟨NQ2, 0, none⟩ (Value.int IntKind.i64 Wx)).setCell ⟨NQ2, 1, none⟩ (Value.int IntKind.i64 Wy))) := Lib.hid ((Hwr10.out.setCell NBQ2.out _).setCell NBQ2.out _)
        have bA' : Hid (VarAt ((wr10.setCell ⟨NQ2, 0, none⟩ (Value.int IntKind.i64 Wx)).setCell ⟨NQ2, 1, none⟩ (Value.int IntKind.i64 Wy)) NA mx my) := Lib.hid (bA.out.set NEAQ2.out _ _)
        have bU' : Hid (VarAt ((wr10.setCell ⟨NQ2, 0, none⟩ (Value.int IntKind.i64 Wx)).setCell ⟨NQ2, 1, none⟩ (Value.int IntKind.i64 Wy)) NU a b) := Lib.hid (bU.out.set NEUQ2.out _ _)
        have bV' : Hid (VarAt ((wr10.setCell ⟨NQ2, 0, none⟩ (Value.int IntKind.i64 Wx)).setCell ⟨NQ2, 1, none⟩ (Value.int IntKind.i64 Wy)) NV c e) := Lib.hid (bV.out.set NEVQ2.out _ _)
        have bQ1' : Hid (VarAt ((wr10.setCell ⟨NQ2, 0, none⟩ (Value.int IntKind.i64 Wx)).setCell ⟨NQ2, 1, none⟩ (Value.int IntKind.i64 Wy)) NQ1 Wx Wy) := Lib.hid (bQ1.out.set NEQ1Q2.out _ _)
        have bQ2' : Hid (VarAt ((wr10.setCell ⟨NQ2, 0, none⟩ (Value.int IntKind.i64 Wx)).setCell ⟨NQ2, 1, none⟩ (Value.int IntKind.i64 Wy)) NQ2 Wx Wy) := Lib.hid (bQ2.out.put _ _)
        have bQ3' : Hid (VarAt ((wr10.setCell ⟨NQ2, 0, none⟩ (Value.int IntKind.i64 Wx)).setCell ⟨NQ2, 1, none⟩ (Value.int IntKind.i64 Wy)) NQ3 Vx Vy) := Lib.hid (bQ3.out.set NEQ2Q3.out.symm _ _)
        have bQ4' : Hid (VarAt ((wr10.setCell ⟨NQ2, 0, none⟩ (Value.int IntKind.i64 Wx)).setCell ⟨NQ2, 1, none⟩ (Value.int IntKind.i64 Wy)) NQ4 Vx Vy) := Lib.hid (bQ4.out.set NEQ2Q4.out.symm _ _)
        clear bA
        have bA := bA'
        clear bA'
        clear bU
        have bU := bU'
        clear bU'
        clear bV
        have bV := bV'
        clear bV'
        clear bQ1
        have bQ1 := bQ1'
        clear bQ1'
        clear bQ2
        have bQ2 := bQ2'
        clear bQ2'
        clear bQ3
        have bQ3 := bQ3'
        clear bQ3'
        clear bQ4
        have bQ4 := bQ4'
        clear bQ4'
        go_wp2_with fail
        obtain ⟨wr10', hw⟩ : ∃ wr10', wr10' = (wr10.setCell ⟨NQ2, 0, none⟩ (Value.int IntKind.i64 Wx)).setCell ⟨NQ2, 1, none⟩ (Value.int IntKind.i64 Wy) := ⟨_, rfl⟩
        rw [← hw] at bA bU bV bQ1 bQ2 bQ3 bQ4 Hwr10' ⊢
        clear hw qQ20 qQ21 rQ20 rQ21 qQ2l Hwr10
        have qQ10 := bQ1.out.c0
        have qQ11 := bQ1.out.c1
        have qQ1l := World.block_lt_of_cell? (h := qQ10)
        have qQ20 := bQ2.out.c0
        have qQ21 := bQ2.out.c1
        have qQ2l := World.block_lt_of_cell? (h := qQ20)
        have qU0 := bU.out.c0
        have qU1 := bU.out.c1
        have qUl := World.block_lt_of_cell? (h := qU0)
        have qV0 := bV.out.c0
        have qV1 := bV.out.c1
        have qVl := World.block_lt_of_cell? (h := qV0)
        have qA0 := bA.out.c0
        have qA1 := bA.out.c1
        have qAl := World.block_lt_of_cell? (h := qA0)
        have gQ10 : ∀ d os, (Sort.grow (redrawn wr10' d) os).cell? ⟨NQ1, 0, none⟩ = _ := fun d os => cell_regrown qQ10 d os
        have gQ11 : ∀ d os, (Sort.grow (redrawn wr10' d) os).cell? ⟨NQ1, 1, none⟩ = _ := fun d os => cell_regrown qQ11 d os
        have gQ20 : ∀ d os, (Sort.grow (redrawn wr10' d) os).cell? ⟨NQ2, 0, none⟩ = _ := fun d os => cell_regrown qQ20 d os
        have gQ21 : ∀ d os, (Sort.grow (redrawn wr10' d) os).cell? ⟨NQ2, 1, none⟩ = _ := fun d os => cell_regrown qQ21 d os
        have gU0 : ∀ d os, (Sort.grow (redrawn wr10' d) os).cell? ⟨NU, 0, none⟩ = _ := fun d os => cell_regrown qU0 d os
        have gU1 : ∀ d os, (Sort.grow (redrawn wr10' d) os).cell? ⟨NU, 1, none⟩ = _ := fun d os => cell_regrown qU1 d os
        have gV0 : ∀ d os, (Sort.grow (redrawn wr10' d) os).cell? ⟨NV, 0, none⟩ = _ := fun d os => cell_regrown qV0 d os
        have gV1 : ∀ d os, (Sort.grow (redrawn wr10' d) os).cell? ⟨NV, 1, none⟩ = _ := fun d os => cell_regrown qV1 d os
        have gA0 : ∀ d os, (Sort.grow (redrawn wr10' d) os).cell? ⟨NA, 0, none⟩ = _ := fun d os => cell_regrown qA0 d os
        have gA1 : ∀ d os, (Sort.grow (redrawn wr10' d) os).cell? ⟨NA, 1, none⟩ = _ := fun d os => cell_regrown qA1 d os
        have HTW : Hid (Txt wr10' er) := Lib.hid (HTr.out.below Hwr10'.out)
        have KCL : Hid (∀ V p1 p2 q1 q2 r1 r2 x y, (p1 = a ∧ p2 = b ∧ q1 = c ∧ q2 = e ∧ r1 = mx ∧ r2 = my ∧ x = lx ∧ y = ly) ∨ (p1 = mx ∧ p2 = my ∧ q1 = a ∧ q2 = b ∧ r1 = c ∧ r2 = e ∧ x = nx ∧ y = ny) → Txt V er → Calls Tryz.prog 26 #[frac p1 p2, frac q1 q2, frac r1 r2] V fun en w' => en = .returned (frac x y) ∧ Below V.heap.size V w') := Lib.hid (fun V p1 p2 q1 q2 r1 r2 x y hd hV => by
          rcases hd with ⟨rfl, rfl, rfl, rfl, rfl, rfl, rfl, rfl⟩ | ⟨rfl, rfl, rfl, rfl, rfl, rfl, rfl, rfl⟩
          · exact clamp_any _ _ _ _ _ _ _ _ er _ HV.out.1.1 HV.out.1.2 HV.out.2.1.1 HV.out.2.1.2 HV.out.2.2.1.1 HV.out.2.2.1.2 HV.out.2.2.2.1 HV.out.2.2.2.2 HMB.out.1.1 HMB.out.1.2 HMB.out.2.1 HMB.out.2.2 hV.err Hlx.out Hly.out
          · exact clamp_any _ _ _ _ _ _ _ _ er _ HMB.out.1.1 HMB.out.1.2 HMB.out.2.1 HMB.out.2.2 HV.out.1.1 HV.out.1.2 HV.out.2.1.1 HV.out.2.1.2 HV.out.2.2.1.1 HV.out.2.2.1.2 HV.out.2.2.2.1 HV.out.2.2.2.2 hV.err Hnx.out Hny.out)
        have KRC : Hid (∀ V p1 p2 q1 q2 r1 r2 x y, (p1 = a ∧ p2 = b ∧ q1 = c ∧ q2 = e ∧ r1 = mx ∧ r2 = my ∧ x = lx ∧ y = ly) ∨ (p1 = mx ∧ p2 = my ∧ q1 = a ∧ q2 = b ∧ r1 = c ∧ r2 = e ∧ x = nx ∧ y = ny) → Txt V er → Calls Tryz.prog 27 #[frac p1 p2, frac q1 q2, frac r1 r2] V fun en w' => en = .returned (frac x y) ∧ Below V.heap.size V w') := Lib.hid (fun V p1 p2 q1 q2 r1 r2 x y hd _ => by
          rcases hd with ⟨rfl, rfl, rfl, rfl, rfl, rfl, rfl, rfl⟩ | ⟨rfl, rfl, rfl, rfl, rfl, rfl, rfl, rfl⟩
          · exact rclamp_any _ _ _ _ _ _ _ _ _ HV.out.1.1 HV.out.1.2 HV.out.2.1.1 HV.out.2.1.2 HV.out.2.2.1.1 HV.out.2.2.1.2 HV.out.2.2.2.1 HV.out.2.2.2.2 HMB.out.1.1 HMB.out.1.2 HMB.out.2.1 HMB.out.2.2 Hlx.out Hly.out
          · exact rclamp_any _ _ _ _ _ _ _ _ _ HMB.out.1.1 HMB.out.1.2 HMB.out.2.1 HMB.out.2.2 HV.out.1.1 HV.out.1.2 HV.out.2.1.1 HV.out.2.1.2 HV.out.2.2.1.1 HV.out.2.2.1.2 HV.out.2.2.2.1 HV.out.2.2.2.2 Hnx.out Hny.out)
        refine wp_region_quiet_below (by kernel_rfl) (by kernel_rfl) ?_
        repeat (quiet_step (first | (go_at_call 20; exact Calls.regrown_of (valid_any a b vr er _ HV.out.1.1 HV.out.1.2 HV.out.2.1.1 HV.out.2.1.2 (HTW.out.below (below_regrown _ _ _)).err Hvr.out)) | (go_at_call 21; exact Calls.regrown_of (rvalid_any a b vr _ HV.out.1.1 HV.out.1.2 HV.out.2.1.1 HV.out.2.1.2 Hvr.out)) | (go_at_call 22; exact Calls.regrown_of (Compare_any a b c e cr er _ HV.out.1.1 HV.out.1.2 HV.out.2.1.1 HV.out.2.1.2 HV.out.2.2.1.1 HV.out.2.2.1.2 HV.out.2.2.2.1 HV.out.2.2.2.2 (HTW.out.below (below_regrown _ _ _)).err Hcr.out)) | (go_at_call 23; exact Calls.regrown_of (rcmp_any a b c e cr _ HV.out.1.1 HV.out.1.2 HV.out.2.1.1 HV.out.2.1.2 HV.out.2.2.1.1 HV.out.2.2.1.2 HV.out.2.2.2.1 HV.out.2.2.2.2 Hcr.out)) | (go_at_call 24; exact Calls.regrown_of (Floor_any a b fr er _ HV.out.1.1 HV.out.1.2 HV.out.2.1.1 HV.out.2.1.2 (HTW.out.below (below_regrown _ _ _)).err Hfr.out)) | (go_at_call 25; exact Calls.regrown_of (rFloor_any a b fr _ HV.out.1.1 HV.out.1.2 HV.out.2.1.1 HV.out.2.1.2 Hfr.out)) | (go_at_call 26; exact Calls.regrown_of (KCL.out _ _ _ _ _ _ _ _ _ (by first | exact .inl ⟨rfl, rfl, rfl, rfl, rfl, rfl, rfl, rfl⟩ | exact .inr ⟨rfl, rfl, rfl, rfl, rfl, rfl, rfl, rfl⟩) (HTW.out.below (below_regrown _ _ _)))) | (go_at_call 27; exact Calls.regrown_of (KRC.out _ _ _ _ _ _ _ _ _ (by first | exact .inl ⟨rfl, rfl, rfl, rfl, rfl, rfl, rfl, rfl⟩ | exact .inr ⟨rfl, rfl, rfl, rfl, rfl, rfl, rfl, rfl⟩) (HTW.out.below (below_regrown _ _ _))))))
        refine wpQuiet_nil ?_
        intro _ hw'
        obtain ⟨⟨dq, osq⟩, hw''⟩ := hw'
        subst hw''
        have hB := below_regrown wr10' dq osq
        obtain ⟨wz, hw⟩ : ∃ wz, wz = Sort.grow (redrawn wr10' dq) osq := ⟨_, rfl⟩
        rw [← hw] at hB ⊢
        have HWZ : Hid (Below wb.heap.size wb wz) := Lib.hid (HBr.out.trans ((Hwr10'.out.trans (hB.mono Hwr10'.out.size)).mono HBr.out.size))
        clear hB hw gQ10 gQ11 gQ20 gQ21 gU0 gU1 gV0 gV1 gA0 gA1 qQ10 qQ11 qQ1l qQ20 qQ21 qQ2l qU0 qU1 qUl qV0 qV1 qVl qA0 qA1 qAl
        go_wp2_with fail
        go_roundw
        case rel => exact ⟨i + 1, by omega, by go_num, HWZ⟩
        case measure => simp [intOf]; omega
      · obtain rfl : i = 3 := by omega
        go_wp2_with fail
        go_ret
        exact ⟨rfl, HBW.out.trans (HBr.out.mono HBW.out.size)⟩
end Go.Proofs.YtphphamfejgdaaaGreatDoor
