/- sane returns true. Condition: what the functions of texts read of memory. (Written by gen_s.py.) -/
import Derived.Test.YtphphamfejgdaaaGreatDoorRatT
namespace Go.Proofs.YtphphamfejgdaaaGreatDoor
open Go.RowKit

theorem text34 : textI (-3) 4 = [45, 51, 47, 52] := by simp [textI, Lib.itoa, Rt.dec_small]
theorem sane_print : strO (printO (-3) 4) = ⟨#[45, 51, 47, 52]⟩ := by
  unfold printO
  rw [if_pos (by decide +kernel), text34]; rfl
theorem sane_print_err : errO (printO (-3) 4) = 0 := by
  unfold printO
  rw [if_pos (by decide +kernel)]; rfl
theorem sane_parse : Rt.parseO [45, 51, 47, 52] = some (mkRat (-3) 4) := by
  have h := Rt.parse_text (q := mkRat (-3) 4) (by decide +kernel)
  rw [← textI_of, show (mkRat (-3) 4).num = -3 by decide +kernel, show (mkRat (-3) 4).den = 4 by decide +kernel] at h
  rw [show textI (-3) ((4 : Nat) : Int) = [45, 51, 47, 52] from text34] at h
  exact h
theorem sane_no : Rt.parseO [54, 47, 56] = none := by decide +kernel

set_option maxRecDepth 20000 in
set_option maxHeartbeats 0 in
theorem sane_any : SaneSays := by
  intro er w hT
  have HT := Lib.hid hT
  have HB0 : Hid (Below w.heap.size w w) := Lib.hid (Below.refl _ _)
  clear hT
  go_enter Tryz.func6, Tryz.ntmps6
  go_wp2_with fail
  refine (make_any 6 (-8) (-3) 4 0 er _ (by decide) (by decide) (by decide) (by decide) (HT.out.below HB0.out).err (by decide +kernel) (by decide +kernel) (by decide +kernel)).mono ?_
  rintro e w1 ⟨rfl, hB⟩
  have HB1 : Hid (Below w.heap.size w w1) := Lib.hid (HB0.out.trans (hB.mono HB0.out.size))
  clear hB
  go_wp2_with fail
  obtain ⟨w1', hwA⟩ : ∃ w1', w1' = w1.alloc (Obj.cells #[Value.int IntKind.i64 (-3), Value.int IntKind.i64 4] 25) := ⟨_, rfl⟩
  rw [← hwA]
  have HB1' : Hid (Below w.heap.size w w1') := Lib.hid (by rw [hwA]; exact HB1.out.alloc HB1.out.size _)
  have bA : Hid (BoxAt w1' w1.heap.size (-3) 4) := Lib.hid (by rw [hwA]; exact ⟨by simp [go_sem], by simp [go_sem]⟩)
  clear hwA HB1
  refine (is_any 1 6 _).mono ?_
  rintro e w2 ⟨rfl, hB⟩
  have HB2 : Hid (Below w.heap.size w w2) := Lib.hid (HB1'.out.trans (hB.mono HB1'.out.size))
  have bA' := Lib.hid (bA.out.below hB)
  clear hB bA HB1'
  have bA := bA'
  clear bA'
  go_wp2_with fail
  refine (is_any 1 3 _).mono ?_
  rintro e w3 ⟨rfl, hB⟩
  have HB3 : Hid (Below w.heap.size w w3) := Lib.hid (HB2.out.trans (hB.mono HB2.out.size))
  have bA' := Lib.hid (bA.out.below hB)
  clear hB bA HB2
  have bA := bA'
  clear bA'
  go_wp2_with fail
  refine (add_any 1 6 1 3 1 2 0 er _ (by decide) (by decide) (by decide) (by decide) (by decide) (by decide) (by decide) (by decide) (HT.out.below HB3.out).err (by decide +kernel) (by decide +kernel) (by decide +kernel)).mono ?_
  rintro e w4 ⟨rfl, hB⟩
  have HB4 : Hid (Below w.heap.size w w4) := Lib.hid (HB3.out.trans (hB.mono HB3.out.size))
  have bA' := Lib.hid (bA.out.below hB)
  clear hB bA HB3
  have bA := bA'
  clear bA'
  go_wp2_with fail
  obtain ⟨w4', hwB⟩ : ∃ w4', w4' = w4.alloc (Obj.cells #[Value.int IntKind.i64 1, Value.int IntKind.i64 2] 25) := ⟨_, rfl⟩
  rw [← hwB]
  have HB4' : Hid (Below w.heap.size w w4') := Lib.hid (by rw [hwB]; exact HB4.out.alloc HB4.out.size _)
  have bA' : Hid (BoxAt w4' w1.heap.size (-3) 4) := Lib.hid (by rw [hwB]; exact bA.out.alloc _)
  clear bA
  have bA := bA'
  clear bA'
  have bB : Hid (BoxAt w4' w4.heap.size 1 2) := Lib.hid (by rw [hwB]; exact ⟨by simp [go_sem], by simp [go_sem]⟩)
  clear hwB HB4
  refine (is_any (-5) 4 _).mono ?_
  rintro e w5 ⟨rfl, hB⟩
  have HB5 : Hid (Below w.heap.size w w5) := Lib.hid (HB4'.out.trans (hB.mono HB4'.out.size))
  have bA' := Lib.hid (bA.out.below hB)
  have bB' := Lib.hid (bB.out.below hB)
  clear hB bA bB HB4'
  have bA := bA'
  clear bA'
  have bB := bB'
  clear bB'
  go_wp2_with fail
  refine (round_any (-5) 4 2 (-1) 1 0 er _ (by decide) (by decide) (by decide) (by decide) (by decide) (by decide) (HT.out.below HB5.out).err (by decide +kernel) (by decide +kernel) (by decide +kernel)).mono ?_
  rintro e w6 ⟨rfl, hB⟩
  have HB6 : Hid (Below w.heap.size w w6) := Lib.hid (HB5.out.trans (hB.mono HB5.out.size))
  have bA' := Lib.hid (bA.out.below hB)
  have bB' := Lib.hid (bB.out.below hB)
  clear hB bA bB HB5
  have bA := bA'
  clear bA'
  have bB := bB'
  clear bB'
  go_wp2_with fail
  obtain ⟨w6', hwC⟩ : ∃ w6', w6' = w6.alloc (Obj.cells #[Value.int IntKind.i64 (-1), Value.int IntKind.i64 1] 25) := ⟨_, rfl⟩
  rw [← hwC]
  have HB6' : Hid (Below w.heap.size w w6') := Lib.hid (by rw [hwC]; exact HB6.out.alloc HB6.out.size _)
  have bA' : Hid (BoxAt w6' w1.heap.size (-3) 4) := Lib.hid (by rw [hwC]; exact bA.out.alloc _)
  clear bA
  have bA := bA'
  clear bA'
  have bB' : Hid (BoxAt w6' w4.heap.size 1 2) := Lib.hid (by rw [hwC]; exact bB.out.alloc _)
  clear bB
  have bB := bB'
  clear bB'
  have bC : Hid (BoxAt w6' w6.heap.size (-1) 1) := Lib.hid (by rw [hwC]; exact ⟨by simp [go_sem], by simp [go_sem]⟩)
  clear hwC HB6
  refine (is_any 1 2 _).mono ?_
  rintro e w7 ⟨rfl, hB⟩
  have HB7 : Hid (Below w.heap.size w w7) := Lib.hid (HB6'.out.trans (hB.mono HB6'.out.size))
  have bA' := Lib.hid (bA.out.below hB)
  have bB' := Lib.hid (bB.out.below hB)
  have bC' := Lib.hid (bC.out.below hB)
  clear hB bA bB bC HB6'
  have bA := bA'
  clear bA'
  have bB := bB'
  clear bB'
  have bC := bC'
  clear bC'
  go_wp2_with fail
  refine (is_any 0 1 _).mono ?_
  rintro e w8 ⟨rfl, hB⟩
  have HB8 : Hid (Below w.heap.size w w8) := Lib.hid (HB7.out.trans (hB.mono HB7.out.size))
  have bA' := Lib.hid (bA.out.below hB)
  have bB' := Lib.hid (bB.out.below hB)
  have bC' := Lib.hid (bC.out.below hB)
  clear hB bA bB bC HB7
  have bA := bA'
  clear bA'
  have bB := bB'
  clear bB'
  have bC := bC'
  clear bC'
  go_wp2_with fail
  refine (div_any 1 2 0 1 0 0 30 er _ (by decide) (by decide) (by decide) (by decide) (by decide) (by decide) (by decide) (by decide) (HT.out.below HB8.out).err (by decide +kernel) (by decide +kernel) (by decide +kernel)).mono ?_
  rintro e w9 ⟨rfl, hB⟩
  have HB9 : Hid (Below w.heap.size w w9) := Lib.hid (HB8.out.trans (hB.mono HB8.out.size))
  have bA' := Lib.hid (bA.out.below hB)
  have bB' := Lib.hid (bB.out.below hB)
  have bC' := Lib.hid (bC.out.below hB)
  clear hB bA bB bC HB8
  have bA := bA'
  clear bA'
  have bB := bB'
  clear bB'
  have bC := bC'
  clear bC'
  have qA0 := bA.out.c0
  have qA1 := bA.out.c1
  have qAl := World.block_lt_of_cell? (h := qA0)
  go_wp2_with fail
  obtain ⟨w9', hwD⟩ : ∃ w9', w9' = w9.alloc (Obj.cells #[Value.int IntKind.i64 0, Value.int IntKind.i64 0] 25) := ⟨_, rfl⟩
  rw [← hwD]
  have HB9' : Hid (Below w.heap.size w w9') := Lib.hid (by rw [hwD]; exact HB9.out.alloc HB9.out.size _)
  have bA' : Hid (BoxAt w9' w1.heap.size (-3) 4) := Lib.hid (by rw [hwD]; exact bA.out.alloc _)
  clear bA
  have bA := bA'
  clear bA'
  have bB' : Hid (BoxAt w9' w4.heap.size 1 2) := Lib.hid (by rw [hwD]; exact bB.out.alloc _)
  clear bB
  have bB := bB'
  clear bB'
  have bC' : Hid (BoxAt w9' w6.heap.size (-1) 1) := Lib.hid (by rw [hwD]; exact bC.out.alloc _)
  clear bC
  have bC := bC'
  clear bC'
  have bD : Hid (BoxAt w9' w9.heap.size 0 0) := Lib.hid (by rw [hwD]; exact ⟨by simp [go_sem], by simp [go_sem]⟩)
  clear hwD HB9
  refine (Print_any (-3) 4 ⟨#[45, 51, 47, 52]⟩ 0 er _ (by decide) (by decide) (by decide) (by decide) (HT.out.below HB9'.out) sane_print sane_print_err).mono ?_
  rintro e w10 ⟨rfl, hB⟩
  have HB10 : Hid (Below w.heap.size w w10) := Lib.hid (HB9'.out.trans (hB.mono HB9'.out.size))
  have bA' := Lib.hid (bA.out.below hB)
  have bB' := Lib.hid (bB.out.below hB)
  have bC' := Lib.hid (bC.out.below hB)
  have bD' := Lib.hid (bD.out.below hB)
  clear hB bA bB bC bD qA0 qA1 qAl HB9'
  have bA := bA'
  clear bA'
  have bB := bB'
  clear bB'
  have bC := bC'
  clear bC'
  have bD := bD'
  clear bD'
  go_wp2_with fail
  clear bD
  refine (Parse_any ⟨#[45, 51, 47, 52]⟩ (-3) 4 0 er _ (by decide) (HT.out.below HB10.out) (by rw [show Rt.parseO _ = _ from sane_parse]; decide +kernel) (by rw [show Rt.parseO _ = _ from sane_parse]; decide +kernel) (by rw [show Rt.parseO _ = _ from sane_parse]; decide +kernel)).mono ?_
  rintro e w11 ⟨rfl, hB⟩
  have HB11 : Hid (Below w.heap.size w w11) := Lib.hid (HB10.out.trans (hB.mono HB10.out.size))
  have bA' := Lib.hid (bA.out.below hB)
  have bB' := Lib.hid (bB.out.below hB)
  have bC' := Lib.hid (bC.out.below hB)
  clear hB bA bB bC HB10
  have bA := bA'
  clear bA'
  have bB := bB'
  clear bB'
  have bC := bC'
  clear bC'
  go_wp2_with fail
  obtain ⟨w11', hwP⟩ : ∃ w11', w11' = w11.alloc (Obj.cells #[Value.int IntKind.i64 (-3), Value.int IntKind.i64 4] 25) := ⟨_, rfl⟩
  rw [← hwP]
  have HB11' : Hid (Below w.heap.size w w11') := Lib.hid (by rw [hwP]; exact HB11.out.alloc HB11.out.size _)
  have bA' : Hid (BoxAt w11' w1.heap.size (-3) 4) := Lib.hid (by rw [hwP]; exact bA.out.alloc _)
  clear bA
  have bA := bA'
  clear bA'
  have bB' : Hid (BoxAt w11' w4.heap.size 1 2) := Lib.hid (by rw [hwP]; exact bB.out.alloc _)
  clear bB
  have bB := bB'
  clear bB'
  have bC' : Hid (BoxAt w11' w6.heap.size (-1) 1) := Lib.hid (by rw [hwP]; exact bC.out.alloc _)
  clear bC
  have bC := bC'
  clear bC'
  have bP : Hid (BoxAt w11' w11.heap.size (-3) 4) := Lib.hid (by rw [hwP]; exact ⟨by simp [go_sem], by simp [go_sem]⟩)
  clear hwP HB11
  refine (Parse_any ⟨#[54, 47, 56]⟩ 0 0 30 er _ (by decide) (HT.out.below HB11'.out) (by rw [show Rt.parseO _ = _ from sane_no]; rfl) (by rw [show Rt.parseO _ = _ from sane_no]; rfl) (by rw [show Rt.parseO _ = _ from sane_no]; rfl)).mono ?_
  rintro e w12 ⟨rfl, hB⟩
  have HB12 : Hid (Below w.heap.size w w12) := Lib.hid (HB11'.out.trans (hB.mono HB11'.out.size))
  have bA' := Lib.hid (bA.out.below hB)
  have bB' := Lib.hid (bB.out.below hB)
  have bC' := Lib.hid (bC.out.below hB)
  have bP' := Lib.hid (bP.out.below hB)
  clear hB bA bB bC bP HB11'
  have bA := bA'
  clear bA'
  have bB := bB'
  clear bB'
  have bC := bC'
  clear bC'
  have bP := bP'
  clear bP'
  have qA0 := bA.out.c0
  have qA1 := bA.out.c1
  have qAl := World.block_lt_of_cell? (h := qA0)
  go_wp2_with fail
  obtain ⟨w12', hwZ⟩ : ∃ w12', w12' = w12.alloc (Obj.cells #[Value.int IntKind.i64 0, Value.int IntKind.i64 0] 25) := ⟨_, rfl⟩
  rw [← hwZ]
  have HB12' : Hid (Below w.heap.size w w12') := Lib.hid (by rw [hwZ]; exact HB12.out.alloc HB12.out.size _)
  have bA' : Hid (BoxAt w12' w1.heap.size (-3) 4) := Lib.hid (by rw [hwZ]; exact bA.out.alloc _)
  clear bA
  have bA := bA'
  clear bA'
  have bB' : Hid (BoxAt w12' w4.heap.size 1 2) := Lib.hid (by rw [hwZ]; exact bB.out.alloc _)
  clear bB
  have bB := bB'
  clear bB'
  have bC' : Hid (BoxAt w12' w6.heap.size (-1) 1) := Lib.hid (by rw [hwZ]; exact bC.out.alloc _)
  clear bC
  have bC := bC'
  clear bC'
  have bP' : Hid (BoxAt w12' w11.heap.size (-3) 4) := Lib.hid (by rw [hwZ]; exact bP.out.alloc _)
  clear bP
  have bP := bP'
  clear bP'
  have bZ : Hid (BoxAt w12' w12.heap.size 0 0) := Lib.hid (by rw [hwZ]; exact ⟨by simp [go_sem], by simp [go_sem]⟩)
  clear hwZ HB12
  clear qA0 qA1 qAl bZ
  have qA0 := bA.out.c0
  have qA1 := bA.out.c1
  have qB0 := bB.out.c0
  have qB1 := bB.out.c1
  have qC0 := bC.out.c0
  have qC1 := bC.out.c1
  have qP0 := bP.out.c0
  have qP1 := bP.out.c1
  have HK : ∀ w' : World, Below w12'.heap.size w12' w' → w'.cell? ⟨w1.heap.size, 0, none⟩ = some (.int .i64 (-3)) ∧ w'.cell? ⟨w1.heap.size, 1, none⟩ = some (.int .i64 4) ∧ w'.cell? ⟨w4.heap.size, 0, none⟩ = some (.int .i64 1) ∧ w'.cell? ⟨w4.heap.size, 1, none⟩ = some (.int .i64 2) ∧ w'.cell? ⟨w6.heap.size, 0, none⟩ = some (.int .i64 (-1)) ∧ w'.cell? ⟨w6.heap.size, 1, none⟩ = some (.int .i64 1) ∧ w'.cell? ⟨w11.heap.size, 0, none⟩ = some (.int .i64 (-3)) ∧ w'.cell? ⟨w11.heap.size, 1, none⟩ = some (.int .i64 4) ∧ Below w12'.heap.size w12' w' := fun w' h' =>
    ⟨(bA.out.below h').c0, (bA.out.below h').c1, (bB.out.below h').c0, (bB.out.below h').c1, (bC.out.below h').c0, (bC.out.below h').c1, (bP.out.below h').c0, (bP.out.below h').c1, h'⟩
  have HKK := Lib.hid HK
  clear HK
  have HTW := Lib.hid (HT.out.below HB12'.out)
  have KIS : Hid (∀ n d V, Below w12'.heap.size w12' V → Calls Tryz.prog 9 #[.int .i64 n, .int .i64 d] V fun e w' => e = .returned (frac n d) ∧ (w'.cell? ⟨w1.heap.size, 0, none⟩ = some (.int .i64 (-3)) ∧ w'.cell? ⟨w1.heap.size, 1, none⟩ = some (.int .i64 4) ∧ w'.cell? ⟨w4.heap.size, 0, none⟩ = some (.int .i64 1) ∧ w'.cell? ⟨w4.heap.size, 1, none⟩ = some (.int .i64 2) ∧ w'.cell? ⟨w6.heap.size, 0, none⟩ = some (.int .i64 (-1)) ∧ w'.cell? ⟨w6.heap.size, 1, none⟩ = some (.int .i64 1) ∧ w'.cell? ⟨w11.heap.size, 0, none⟩ = some (.int .i64 (-3)) ∧ w'.cell? ⟨w11.heap.size, 1, none⟩ = some (.int .i64 4) ∧ Below w12'.heap.size w12' w')) := Lib.hid (fun n d V h1 => (is_any n d V).mono fun e w' ⟨he, h2⟩ => ⟨he, HKK.out _ (h1.trans (h2.mono h1.size))⟩)
  have KCM : Hid (∀ V, Below w12'.heap.size w12' V → Calls Tryz.prog 22 #[frac (-3) 4, frac 1 2] V fun e w' => e = .returned (.int .i64 (-1)) ∧ (w'.cell? ⟨w1.heap.size, 0, none⟩ = some (.int .i64 (-3)) ∧ w'.cell? ⟨w1.heap.size, 1, none⟩ = some (.int .i64 4) ∧ w'.cell? ⟨w4.heap.size, 0, none⟩ = some (.int .i64 1) ∧ w'.cell? ⟨w4.heap.size, 1, none⟩ = some (.int .i64 2) ∧ w'.cell? ⟨w6.heap.size, 0, none⟩ = some (.int .i64 (-1)) ∧ w'.cell? ⟨w6.heap.size, 1, none⟩ = some (.int .i64 1) ∧ w'.cell? ⟨w11.heap.size, 0, none⟩ = some (.int .i64 (-3)) ∧ w'.cell? ⟨w11.heap.size, 1, none⟩ = some (.int .i64 4) ∧ Below w12'.heap.size w12' w')) := Lib.hid (fun V h1 => (Compare_any (-3) 4 1 2 (-1) er _ (by decide) (by decide) (by decide) (by decide) (by decide) (by decide) (by decide) (by decide) (HTW.out.below h1).err (by decide +kernel)).mono fun e w' ⟨he, h2⟩ => ⟨he, HKK.out _ (h1.trans (h2.mono h1.size))⟩)
  have KFL : Hid (∀ V, Below w12'.heap.size w12' V → Calls Tryz.prog 24 #[frac (-3) 4] V fun e w' => e = .returned (.int .i64 (-1)) ∧ (w'.cell? ⟨w1.heap.size, 0, none⟩ = some (.int .i64 (-3)) ∧ w'.cell? ⟨w1.heap.size, 1, none⟩ = some (.int .i64 4) ∧ w'.cell? ⟨w4.heap.size, 0, none⟩ = some (.int .i64 1) ∧ w'.cell? ⟨w4.heap.size, 1, none⟩ = some (.int .i64 2) ∧ w'.cell? ⟨w6.heap.size, 0, none⟩ = some (.int .i64 (-1)) ∧ w'.cell? ⟨w6.heap.size, 1, none⟩ = some (.int .i64 1) ∧ w'.cell? ⟨w11.heap.size, 0, none⟩ = some (.int .i64 (-3)) ∧ w'.cell? ⟨w11.heap.size, 1, none⟩ = some (.int .i64 4) ∧ Below w12'.heap.size w12' w')) := Lib.hid (fun V h1 => (Floor_any (-3) 4 (-1) er _ (by decide) (by decide) (by decide) (by decide) (HTW.out.below h1).err (by decide +kernel)).mono fun e w' ⟨he, h2⟩ => ⟨he, HKK.out _ (h1.trans (h2.mono h1.size))⟩)
  have KCL : Hid (∀ V, Below w12'.heap.size w12' V → Calls Tryz.prog 26 #[frac 5 2, frac (-2) 1, frac 2 1] V fun e w' => e = .returned (frac 2 1) ∧ (w'.cell? ⟨w1.heap.size, 0, none⟩ = some (.int .i64 (-3)) ∧ w'.cell? ⟨w1.heap.size, 1, none⟩ = some (.int .i64 4) ∧ w'.cell? ⟨w4.heap.size, 0, none⟩ = some (.int .i64 1) ∧ w'.cell? ⟨w4.heap.size, 1, none⟩ = some (.int .i64 2) ∧ w'.cell? ⟨w6.heap.size, 0, none⟩ = some (.int .i64 (-1)) ∧ w'.cell? ⟨w6.heap.size, 1, none⟩ = some (.int .i64 1) ∧ w'.cell? ⟨w11.heap.size, 0, none⟩ = some (.int .i64 (-3)) ∧ w'.cell? ⟨w11.heap.size, 1, none⟩ = some (.int .i64 4) ∧ Below w12'.heap.size w12' w')) := Lib.hid (fun V h1 => (clamp_any 5 2 (-2) 1 2 1 2 1 er _ (by decide) (by decide) (by decide) (by decide) (by decide) (by decide) (by decide) (by decide) (by decide) (by decide) (by decide) (by decide) (HTW.out.below h1).err (by decide +kernel) (by decide +kernel)).mono fun e w' ⟨he, h2⟩ => ⟨he, HKK.out _ (h1.trans (h2.mono h1.size))⟩)
  have KVA : Hid (∀ n d b V, (n = -3 ∧ d = 4 ∧ b = true) ∨ (n = 2 ∧ d = 4 ∧ b = false) → Below w12'.heap.size w12' V → Calls Tryz.prog 20 #[frac n d] V fun e w' => e = .returned (.bool b) ∧ (w'.cell? ⟨w1.heap.size, 0, none⟩ = some (.int .i64 (-3)) ∧ w'.cell? ⟨w1.heap.size, 1, none⟩ = some (.int .i64 4) ∧ w'.cell? ⟨w4.heap.size, 0, none⟩ = some (.int .i64 1) ∧ w'.cell? ⟨w4.heap.size, 1, none⟩ = some (.int .i64 2) ∧ w'.cell? ⟨w6.heap.size, 0, none⟩ = some (.int .i64 (-1)) ∧ w'.cell? ⟨w6.heap.size, 1, none⟩ = some (.int .i64 1) ∧ w'.cell? ⟨w11.heap.size, 0, none⟩ = some (.int .i64 (-3)) ∧ w'.cell? ⟨w11.heap.size, 1, none⟩ = some (.int .i64 4) ∧ Below w12'.heap.size w12' w')) := Lib.hid (fun n d b V hv h1 => by
    rcases hv with ⟨rfl, rfl, rfl⟩ | ⟨rfl, rfl, rfl⟩
    · exact (valid_any (-3) 4 true er _ (by decide) (by decide) (by decide) (by decide) (HTW.out.below h1).err (by decide +kernel)).mono fun e w' ⟨he, h2⟩ => ⟨he, HKK.out _ (h1.trans (h2.mono h1.size))⟩
    · exact (valid_any 2 4 false er _ (by decide) (by decide) (by decide) (by decide) (HTW.out.below h1).err (by decide +kernel)).mono fun e w' ⟨he, h2⟩ => ⟨he, HKK.out _ (h1.trans (h2.mono h1.size))⟩)
  simp only [List.append_eq, List.cons_append, List.nil_append]
  go_region_held3 (fun w' => w'.cell? ⟨w1.heap.size, 0, none⟩ = some (.int .i64 (-3)) ∧ w'.cell? ⟨w1.heap.size, 1, none⟩ = some (.int .i64 4) ∧ w'.cell? ⟨w4.heap.size, 0, none⟩ = some (.int .i64 1) ∧ w'.cell? ⟨w4.heap.size, 1, none⟩ = some (.int .i64 2) ∧ w'.cell? ⟨w6.heap.size, 0, none⟩ = some (.int .i64 (-1)) ∧ w'.cell? ⟨w6.heap.size, 1, none⟩ = some (.int .i64 1) ∧ w'.cell? ⟨w11.heap.size, 0, none⟩ = some (.int .i64 (-3)) ∧ w'.cell? ⟨w11.heap.size, 1, none⟩ = some (.int .i64 4) ∧ Below w12'.heap.size w12' w') (first | exact ⟨qA0, qA1, qB0, qB1, qC0, qC1, qP0, qP1, Below.refl _ _⟩ | exact ⟨qA0, qA1, qB0, qB1, qC0, qC1, qP0, qP1, (Below.refl _ _).drew⟩ | assumption) ((first | (go_at_call 9; refine (KIS.out _ _ _ (by first | exact Below.refl _ _ | exact (Below.refl _ _).drew | exact (show _ ∧ _ ∧ _ ∧ _ ∧ _ ∧ _ ∧ _ ∧ _ ∧ _ from by assumption).2.2.2.2.2.2.2.2)).mono ?_; rintro e w5 ⟨rfl, hH5⟩) | (go_at_call 22; refine (KCM.out _ (by first | exact Below.refl _ _ | exact (Below.refl _ _).drew | exact (show _ ∧ _ ∧ _ ∧ _ ∧ _ ∧ _ ∧ _ ∧ _ ∧ _ from by assumption).2.2.2.2.2.2.2.2)).mono ?_; rintro e w5 ⟨rfl, hH5⟩) | (go_at_call 24; refine (KFL.out _ (by first | exact Below.refl _ _ | exact (Below.refl _ _).drew | exact (show _ ∧ _ ∧ _ ∧ _ ∧ _ ∧ _ ∧ _ ∧ _ ∧ _ from by assumption).2.2.2.2.2.2.2.2)).mono ?_; rintro e w5 ⟨rfl, hH5⟩) | (go_at_call 26; refine (KCL.out _ (by first | exact Below.refl _ _ | exact (Below.refl _ _).drew | exact (show _ ∧ _ ∧ _ ∧ _ ∧ _ ∧ _ ∧ _ ∧ _ ∧ _ from by assumption).2.2.2.2.2.2.2.2)).mono ?_; rintro e w5 ⟨rfl, hH5⟩) | (go_at_call 20; refine (KVA.out _ _ _ _ (by first | exact .inl ⟨rfl, rfl, rfl⟩ | exact .inr ⟨rfl, rfl, rfl⟩) (by first | exact Below.refl _ _ | exact (Below.refl _ _).drew | exact (show _ ∧ _ ∧ _ ∧ _ ∧ _ ∧ _ ∧ _ ∧ _ ∧ _ from by assumption).2.2.2.2.2.2.2.2)).mono ?_; rintro e w5 ⟨rfl, hH5⟩)))
  all_goals
    go_wp2_with fail
    go_ret
    exact ⟨rfl, HB12'.out.trans (hH5.2.2.2.2.2.2.2.2.mono HB12'.out.size)⟩
end Go.Proofs.YtphphamfejgdaaaGreatDoor
