/- The law's examples: sane returns true. Conditions: the variables of the errors are laid. A short stream that says that many values follow: what recognising it comes to. Plain facts. No condition of its own. Facts on tables and rows that the texts on the reference use. No condition of its own. Rows of formats of the call's own; what a pick gives. No condition of its own. -/
import Derived.Test.YtlhobhfmombjjaaGreatDoorPa21
import Derived.Test.YtlhobhfmombjjaaGreatDoorPa11
import Derived.Test.YtlhobhfmombjjaaGreatDoorPa18
import Derived.Shelf.Lay
import Derived.Lib.AppendIntMem
import Derived.Lib.SmallJoins
namespace Go.Proofs.YtlhobhfmombjjaaGreatDoor
section SanB
open Go.RowKit Fx Rec Go.Maps

def psA : List Pt := [⟨0, 2, 0, 0, 2, 0⟩, ⟨0, 2, 1, 2, 4, 1⟩, ⟨0, 2, 2, 4, 5, 0⟩]
def psE : List Pt := [⟨0, 7, 0, 0, 1, 5⟩, ⟨0, 7, 1, 1, 6, 0⟩, ⟨1, 2, 0, 1, 3, 0⟩, ⟨1, 2, 1, 3, 5, 1⟩, ⟨1, 2, 2, 5, 6, 0⟩, ⟨0, 7, 2, 6, 7, 37⟩]
theorem ex_A : mtch tab0 2 ⟨#[77, 90, 0, 1, 120]⟩ = .ok psA := by rfl
theorem ex_B : mtch tab0 2 ⟨#[77, 91, 0, 0]⟩ = .error ⟨0, 2, 0, 2⟩ := by rfl
theorem ex_C : mtch tab0 2 ⟨#[77, 90, 0, 2, 120]⟩ = .error ⟨4, 2, 2, 1⟩ := by rfl
theorem ex_D : mtch tab0 2 ⟨#[77, 90, 0, 0, 120]⟩ = .error ⟨4, 2, 3, 4⟩ := by rfl
theorem ex_E : mtch tab0 7 ⟨#[5, 77, 90, 0, 1, 120, 37]⟩ = .ok psE := by rfl
theorem ex_F : mtch tab0 7 ⟨#[6, 77, 90, 0, 1, 120, 37]⟩ = .error ⟨6, 7, 1, 4⟩ := by rfl
theorem ex_W : writ tab0 7 [⟨#[120]⟩] = some ⟨#[5, 77, 90, 0, 1, 120, 37]⟩ := by decide +kernel
theorem ex_N : writ tab0 7 [] = none := by decide +kernel
theorem ex_L : allIds tab0 ⟨#[5, 77, 90, 0, 1, 120, 37]⟩ = [7] := by decide +kernel
theorem ex_P : numPart ⟨#[5, 77, 90, 0, 1, 120, 37]⟩ 6 7 = 37 := by rfl
theorem Blk.stays {w w' : World} {b : Nat} {t : TypeId} {cs : Array Value} (h : Blk w b t cs) (hb : Below w.heap.size w w') : Blk w' b t cs := (hb.block _ h.lt).trans h
theorem below_more {B : Nat} {w w1 w2 : World} (h : Below B w w1) (hB : B ≤ w.heap.size) (hb : Below w1.heap.size w1 w2) : Below B w w2 := h.trans (hb.mono (Nat.le_trans hB h.size))
theorem strs_one {w : World} {b : Nat} {x : ByteArray} (h : Blk w b 9 #[.string x]) : StrsV w (.slice (some ⟨b, 0, none⟩) 1 1) [x] :=
  ⟨_, 1, rfl, Nat.le_refl _, by unfold maxLen; omega, .inr ⟨b, 0, rfl, fun j hj => by
    have : j = 0 := by simpa using hj
    subst this
    rw [h.cell]; rfl⟩⟩
set_option maxRecDepth 100000 in
set_option maxHeartbeats 4000000 in
theorem sane_any (er : Addr) (w : World) (hR : Ready w er) : Calls Tryz.prog 12 #[] w fun e w' => e = .returned (.bool true) ∧ Below w.heap.size w w' := by
  have HR := Lib.hid hR
  clear hR
  go_enter Tryz.func12, Tryz.ntmps12
  go_wp2_with fail
  refine (table_any w).mono ?_
  rintro e w1 ⟨b, rfl, hB, hT⟩
  obtain ⟨tv, htv⟩ : ∃ tv, tv = Value.slice (some ⟨b, 0, none⟩) 2 2 := ⟨_, rfl⟩
  rw [← htv] at hT ⊢
  have H1 : Hid (Below w.heap.size w w1 ∧ TabW w1 tv tab0) := Lib.hid ⟨hB, hT⟩
  clear hB hT htv
  go_wp2_with fail
  refine (match_ok (n := 3) (HR.out.below H1.out.1) H1.out.2 ex_A rfl (by decide)).mono ?_
  rintro e w2 ⟨ga, ca, rfl, hB, hP⟩
  have H2 : Hid (Below w.heap.size w w2 ∧ TabW w2 tv tab0 ∧ PartsW w2 ga 3 ca psA) := Lib.hid ⟨below_more H1.out.1 (Nat.le_refl _) hB, H1.out.2.below hB, hP⟩
  clear hB hP
  go_wp2_with fail
  have hn := Blk.new w2 40 #[.int .i64 0, .int .i64 0, .int .i64 0, .int .i64 0]
  have hb := bx (w := w2) (.cells #[.int .i64 0, .int .i64 0, .int .i64 0, .int .i64 0] 40)
  have hsx2 : (w2.alloc (.cells #[.int .i64 0, .int .i64 0, .int .i64 0, .int .i64 0] 40)).heap.size = w2.heap.size + 1 := World.size_alloc _ _
  generalize w2.alloc (.cells #[.int .i64 0, .int .i64 0, .int .i64 0, .int .i64 0] 40) = x2 at *
  have H3 : Hid (Below w.heap.size w x2 ∧ TabW x2 tv tab0 ∧ PartsW x2 ga 3 ca psA) := Lib.hid ⟨below_more H2.out.1 (Nat.le_refl _) hb, H2.out.2.1.below hb, H2.out.2.2.below hb⟩
  clear hn hb
  refine (match_no (HR.out.below H3.out.1) H3.out.2.1 ex_B).mono ?_
  rintro e w3 ⟨rfl, hB⟩
  have H4 : Hid (Below w.heap.size w w3 ∧ TabW w3 tv tab0 ∧ PartsW w3 ga 3 ca psA) := Lib.hid ⟨below_more H3.out.1 (Nat.le_refl _) hB, H3.out.2.1.below hB, H3.out.2.2.below hB⟩
  clear hB
  go_wp2_with fail
  have hn := Blk.new w3 40 #[.int .i64 0, .int .i64 2, .int .i64 0, .int .i64 2]
  have hb := bx (w := w3) (.cells #[.int .i64 0, .int .i64 2, .int .i64 0, .int .i64 2] 40)
  have hsx3 : (w3.alloc (.cells #[.int .i64 0, .int .i64 2, .int .i64 0, .int .i64 2] 40)).heap.size = w3.heap.size + 1 := World.size_alloc _ _
  generalize w3.alloc (.cells #[.int .i64 0, .int .i64 2, .int .i64 0, .int .i64 2] 40) = x3 at *
  obtain ⟨rw3, hrw3⟩ : ∃ r, r = w3.heap.size := ⟨_, rfl⟩
  rw [← hrw3] at hn hsx3 ⊢
  have H5 : Hid (Below w.heap.size w x3 ∧ TabW x3 tv tab0 ∧ PartsW x3 ga 3 ca psA ∧ Blk x3 rw3 40 #[.int .i64 0, .int .i64 2, .int .i64 0, .int .i64 2]) := Lib.hid ⟨below_more H4.out.1 (Nat.le_refl _) hb, H4.out.2.1.below hb, H4.out.2.2.below hb, hn⟩
  clear hn hb hrw3
  refine (match_no (HR.out.below H5.out.1) H5.out.2.1 ex_C).mono ?_
  rintro e w4 ⟨rfl, hB⟩
  have H6 : Hid (Below w.heap.size w w4 ∧ TabW w4 tv tab0 ∧ PartsW w4 ga 3 ca psA ∧ Blk w4 rw3 40 #[.int .i64 0, .int .i64 2, .int .i64 0, .int .i64 2]) := Lib.hid ⟨below_more H5.out.1 (Nat.le_refl _) hB, H5.out.2.1.below hB, H5.out.2.2.1.below hB, H5.out.2.2.2.stays hB⟩
  clear hB
  go_wp2_with fail
  have hn := Blk.new w4 40 #[.int .i64 4, .int .i64 2, .int .i64 2, .int .i64 1]
  have hb := bx (w := w4) (.cells #[.int .i64 4, .int .i64 2, .int .i64 2, .int .i64 1] 40)
  have hsx4 : (w4.alloc (.cells #[.int .i64 4, .int .i64 2, .int .i64 2, .int .i64 1] 40)).heap.size = w4.heap.size + 1 := World.size_alloc _ _
  generalize w4.alloc (.cells #[.int .i64 4, .int .i64 2, .int .i64 2, .int .i64 1] 40) = x4 at *
  obtain ⟨rw4, hrw4⟩ : ∃ r, r = w4.heap.size := ⟨_, rfl⟩
  rw [← hrw4] at hn hsx4 ⊢
  have H7 : Hid (Below w.heap.size w x4 ∧ TabW x4 tv tab0 ∧ PartsW x4 ga 3 ca psA ∧ Blk x4 rw3 40 #[.int .i64 0, .int .i64 2, .int .i64 0, .int .i64 2] ∧ Blk x4 rw4 40 #[.int .i64 4, .int .i64 2, .int .i64 2, .int .i64 1]) := Lib.hid ⟨below_more H6.out.1 (Nat.le_refl _) hb, H6.out.2.1.below hb, H6.out.2.2.1.below hb, H6.out.2.2.2.stays hb, hn⟩
  clear hn hb hrw4
  refine (match_no (HR.out.below H7.out.1) H7.out.2.1 ex_D).mono ?_
  rintro e w5 ⟨rfl, hB⟩
  have H8 : Hid (Below w.heap.size w w5 ∧ TabW w5 tv tab0 ∧ PartsW w5 ga 3 ca psA ∧ Blk w5 rw3 40 #[.int .i64 0, .int .i64 2, .int .i64 0, .int .i64 2] ∧ Blk w5 rw4 40 #[.int .i64 4, .int .i64 2, .int .i64 2, .int .i64 1]) := Lib.hid ⟨below_more H7.out.1 (Nat.le_refl _) hB, H7.out.2.1.below hB, H7.out.2.2.1.below hB, H7.out.2.2.2.1.stays hB, H7.out.2.2.2.2.stays hB⟩
  clear hB
  go_wp2_with fail
  have hn := Blk.new w5 40 #[.int .i64 4, .int .i64 2, .int .i64 3, .int .i64 4]
  have hb := bx (w := w5) (.cells #[.int .i64 4, .int .i64 2, .int .i64 3, .int .i64 4] 40)
  have hsx5 : (w5.alloc (.cells #[.int .i64 4, .int .i64 2, .int .i64 3, .int .i64 4] 40)).heap.size = w5.heap.size + 1 := World.size_alloc _ _
  generalize w5.alloc (.cells #[.int .i64 4, .int .i64 2, .int .i64 3, .int .i64 4] 40) = x5 at *
  obtain ⟨rw5, hrw5⟩ : ∃ r, r = w5.heap.size := ⟨_, rfl⟩
  rw [← hrw5] at hn hsx5 ⊢
  have H9 : Hid (Below w.heap.size w x5 ∧ TabW x5 tv tab0 ∧ PartsW x5 ga 3 ca psA ∧ Blk x5 rw3 40 #[.int .i64 0, .int .i64 2, .int .i64 0, .int .i64 2] ∧ Blk x5 rw4 40 #[.int .i64 4, .int .i64 2, .int .i64 2, .int .i64 1] ∧ Blk x5 rw5 40 #[.int .i64 4, .int .i64 2, .int .i64 3, .int .i64 4]) := Lib.hid ⟨below_more H8.out.1 (Nat.le_refl _) hb, H8.out.2.1.below hb, H8.out.2.2.1.below hb, H8.out.2.2.2.1.stays hb, H8.out.2.2.2.2.stays hb, hn⟩
  clear hn hb hrw5
  have hn := Blk.new x5 9 #[.string ⟨#[120]⟩]
  have hb := bx (w := x5) (.cells #[.string ⟨#[120]⟩] 9)
  generalize x5.alloc (.cells #[.string ⟨#[120]⟩] 9) = y5 at *
  rw [hsx5] at hn
  have H10 : Hid (Below w.heap.size w y5 ∧ TabW y5 tv tab0 ∧ PartsW y5 ga 3 ca psA ∧ Blk y5 rw3 40 #[.int .i64 0, .int .i64 2, .int .i64 0, .int .i64 2] ∧ Blk y5 rw4 40 #[.int .i64 4, .int .i64 2, .int .i64 2, .int .i64 1] ∧ Blk y5 rw5 40 #[.int .i64 4, .int .i64 2, .int .i64 3, .int .i64 4]) := Lib.hid ⟨below_more H9.out.1 (Nat.le_refl _) hb, H9.out.2.1.below hb, H9.out.2.2.1.below hb, H9.out.2.2.2.1.stays hb, H9.out.2.2.2.2.1.stays hb, H9.out.2.2.2.2.2.stays hb⟩
  refine (Write_any tv _ tab0 7 [⟨#[120]⟩] er y5 (HR.out.below H10.out.1).err (HR.out.below H10.out.1).ty H10.out.2.1.at_ H10.out.2.1.ints (strs_one hn) (fun b hb _ => by simp only [Value.ownBlock, Option.some.injEq] at hb; rw [← hb]; exact hn.lt) (fun x hx => by rw [List.mem_singleton] at hx; subst hx; decide)).mono ?_
  rw [ex_W]
  rintro e w6 ⟨hB, rfl⟩
  have H11 : Hid (Below w.heap.size w w6 ∧ TabW w6 tv tab0 ∧ PartsW w6 ga 3 ca psA ∧ Blk w6 rw3 40 #[.int .i64 0, .int .i64 2, .int .i64 0, .int .i64 2] ∧ Blk w6 rw4 40 #[.int .i64 4, .int .i64 2, .int .i64 2, .int .i64 1] ∧ Blk w6 rw5 40 #[.int .i64 4, .int .i64 2, .int .i64 3, .int .i64 4]) := Lib.hid ⟨below_more H10.out.1 (Nat.le_refl _) hB, H10.out.2.1.below hB, H10.out.2.2.1.below hB, H10.out.2.2.2.1.stays hB, H10.out.2.2.2.2.1.stays hB, H10.out.2.2.2.2.2.stays hB⟩
  clear hB hn hb
  go_wp2_with fail
  refine (match_ok (n := 6) (HR.out.below H11.out.1) H11.out.2.1 ex_E rfl (by decide)).mono ?_
  rintro e w7 ⟨ge, ce, rfl, hB, hP⟩
  have H12 : Hid (Below w.heap.size w w7 ∧ TabW w7 tv tab0 ∧ PartsW w7 ga 3 ca psA ∧ Blk w7 rw3 40 #[.int .i64 0, .int .i64 2, .int .i64 0, .int .i64 2] ∧ Blk w7 rw4 40 #[.int .i64 4, .int .i64 2, .int .i64 2, .int .i64 1] ∧ Blk w7 rw5 40 #[.int .i64 4, .int .i64 2, .int .i64 3, .int .i64 4] ∧ PartsW w7 ge 6 ce psE) := Lib.hid ⟨below_more H11.out.1 (Nat.le_refl _) hB, H11.out.2.1.below hB, H11.out.2.2.1.below hB, H11.out.2.2.2.1.stays hB, H11.out.2.2.2.2.1.stays hB, H11.out.2.2.2.2.2.stays hB, hP⟩
  clear hB hP
  go_wp2_with fail
  have hn := Blk.new w7 40 #[.int .i64 0, .int .i64 0, .int .i64 0, .int .i64 0]
  have hb := bx (w := w7) (.cells #[.int .i64 0, .int .i64 0, .int .i64 0, .int .i64 0] 40)
  have hsx7 : (w7.alloc (.cells #[.int .i64 0, .int .i64 0, .int .i64 0, .int .i64 0] 40)).heap.size = w7.heap.size + 1 := World.size_alloc _ _
  generalize w7.alloc (.cells #[.int .i64 0, .int .i64 0, .int .i64 0, .int .i64 0] 40) = x7 at *
  have H13 : Hid (Below w.heap.size w x7 ∧ TabW x7 tv tab0 ∧ PartsW x7 ga 3 ca psA ∧ Blk x7 rw3 40 #[.int .i64 0, .int .i64 2, .int .i64 0, .int .i64 2] ∧ Blk x7 rw4 40 #[.int .i64 4, .int .i64 2, .int .i64 2, .int .i64 1] ∧ Blk x7 rw5 40 #[.int .i64 4, .int .i64 2, .int .i64 3, .int .i64 4] ∧ PartsW x7 ge 6 ce psE) := Lib.hid ⟨below_more H12.out.1 (Nat.le_refl _) hb, H12.out.2.1.below hb, H12.out.2.2.1.below hb, H12.out.2.2.2.1.stays hb, H12.out.2.2.2.2.1.stays hb, H12.out.2.2.2.2.2.1.stays hb, H12.out.2.2.2.2.2.2.below hb⟩
  clear hn hb
  have hcat : (⟨#[6]⟩ : ByteArray) ++ (ByteArray.extract ⟨#[5, 77, 90, 0, 1, 120, 37]⟩ 1 7) = ⟨#[6, 77, 90, 0, 1, 120, 37]⟩ := by decide +kernel
  rw [hcat]
  clear hcat
  refine (match_no (HR.out.below H13.out.1) H13.out.2.1 ex_F).mono ?_
  rintro e w8 ⟨rfl, hB⟩
  have H14 : Hid (Below w.heap.size w w8 ∧ TabW w8 tv tab0 ∧ PartsW w8 ga 3 ca psA ∧ Blk w8 rw3 40 #[.int .i64 0, .int .i64 2, .int .i64 0, .int .i64 2] ∧ Blk w8 rw4 40 #[.int .i64 4, .int .i64 2, .int .i64 2, .int .i64 1] ∧ Blk w8 rw5 40 #[.int .i64 4, .int .i64 2, .int .i64 3, .int .i64 4] ∧ PartsW w8 ge 6 ce psE) := Lib.hid ⟨below_more H13.out.1 (Nat.le_refl _) hB, H13.out.2.1.below hB, H13.out.2.2.1.below hB, H13.out.2.2.2.1.stays hB, H13.out.2.2.2.2.1.stays hB, H13.out.2.2.2.2.2.1.stays hB, H13.out.2.2.2.2.2.2.below hB⟩
  clear hB
  go_wp2_with fail
  have hn := Blk.new w8 40 #[.int .i64 6, .int .i64 7, .int .i64 1, .int .i64 4]
  have hb := bx (w := w8) (.cells #[.int .i64 6, .int .i64 7, .int .i64 1, .int .i64 4] 40)
  have hsx8 : (w8.alloc (.cells #[.int .i64 6, .int .i64 7, .int .i64 1, .int .i64 4] 40)).heap.size = w8.heap.size + 1 := World.size_alloc _ _
  generalize w8.alloc (.cells #[.int .i64 6, .int .i64 7, .int .i64 1, .int .i64 4] 40) = x8 at *
  obtain ⟨rw8, hrw8⟩ : ∃ r, r = w8.heap.size := ⟨_, rfl⟩
  rw [← hrw8] at hn hsx8 ⊢
  have H15 : Hid (Below w.heap.size w x8 ∧ TabW x8 tv tab0 ∧ PartsW x8 ga 3 ca psA ∧ Blk x8 rw3 40 #[.int .i64 0, .int .i64 2, .int .i64 0, .int .i64 2] ∧ Blk x8 rw4 40 #[.int .i64 4, .int .i64 2, .int .i64 2, .int .i64 1] ∧ Blk x8 rw5 40 #[.int .i64 4, .int .i64 2, .int .i64 3, .int .i64 4] ∧ PartsW x8 ge 6 ce psE ∧ Blk x8 rw8 40 #[.int .i64 6, .int .i64 7, .int .i64 1, .int .i64 4]) := Lib.hid ⟨below_more H14.out.1 (Nat.le_refl _) hb, H14.out.2.1.below hb, H14.out.2.2.1.below hb, H14.out.2.2.2.1.stays hb, H14.out.2.2.2.2.1.stays hb, H14.out.2.2.2.2.2.1.stays hb, H14.out.2.2.2.2.2.2.below hb, hn⟩
  clear hn hb hrw8
  refine (Write_any tv _ tab0 7 [] er x8 (HR.out.below H15.out.1).err (HR.out.below H15.out.1).ty H15.out.2.1.at_ H15.out.2.1.ints (nil_strs x8) (fun b hb _ => by cases hb) (fun x hx => by cases hx)).mono ?_
  rw [ex_N]
  rintro e w9 ⟨hB, rfl⟩
  have H16 : Hid (Below w.heap.size w w9 ∧ TabW w9 tv tab0 ∧ PartsW w9 ga 3 ca psA ∧ Blk w9 rw3 40 #[.int .i64 0, .int .i64 2, .int .i64 0, .int .i64 2] ∧ Blk w9 rw4 40 #[.int .i64 4, .int .i64 2, .int .i64 2, .int .i64 1] ∧ Blk w9 rw5 40 #[.int .i64 4, .int .i64 2, .int .i64 3, .int .i64 4] ∧ PartsW w9 ge 6 ce psE ∧ Blk w9 rw8 40 #[.int .i64 6, .int .i64 7, .int .i64 1, .int .i64 4]) := Lib.hid ⟨below_more H15.out.1 (Nat.le_refl _) hB, H15.out.2.1.below hB, H15.out.2.2.1.below hB, H15.out.2.2.2.1.stays hB, H15.out.2.2.2.2.1.stays hB, H15.out.2.2.2.2.2.1.stays hB, H15.out.2.2.2.2.2.2.1.below hB, H15.out.2.2.2.2.2.2.2.stays hB⟩
  clear hB
  go_wp2_with fail
  refine (All_any tv tab0 ⟨#[5, 77, 90, 0, 1, 120, 37]⟩ er w9 (HR.out.below H16.out.1).err (HR.out.below H16.out.1).ty H16.out.2.1.at_ H16.out.2.1.ints).mono ?_
  rw [ex_L]
  rintro e wz ⟨vi, rfl, hB, hrow⟩
  obtain ⟨gi, ci, rfl, hi0⟩ : ∃ gi ci, vi = .slice (some ⟨gi, 0, none⟩) 1 ci ∧ wz.cell? ⟨gi, 0, none⟩ = some (.int .i64 7) := by
    rcases hrow.2 with ⟨_, h0⟩ | ⟨g, cap, cur, rfl, _, _, e1, e2, _⟩
    · cases h0
    · exact ⟨g, cap, rfl, (own_cell hrow rfl (i := 0) (by decide)).1⟩
  have H17 : Hid (Below w.heap.size w wz ∧ TabW wz tv tab0 ∧ PartsW wz ga 3 ca psA ∧ Blk wz rw3 40 #[.int .i64 0, .int .i64 2, .int .i64 0, .int .i64 2] ∧ Blk wz rw4 40 #[.int .i64 4, .int .i64 2, .int .i64 2, .int .i64 1] ∧ Blk wz rw5 40 #[.int .i64 4, .int .i64 2, .int .i64 3, .int .i64 4] ∧ PartsW wz ge 6 ce psE ∧ Blk wz rw8 40 #[.int .i64 6, .int .i64 7, .int .i64 1, .int .i64 4]) := Lib.hid ⟨below_more H16.out.1 (Nat.le_refl _) hB, H16.out.2.1.below hB, H16.out.2.2.1.below hB, H16.out.2.2.2.1.stays hB, H16.out.2.2.2.2.1.stays hB, H16.out.2.2.2.2.2.1.stays hB, H16.out.2.2.2.2.2.2.1.below hB, H16.out.2.2.2.2.2.2.2.stays hB⟩
  clear hB hrow
  have ca6 : wz.cell? ⟨ga, 6, none⟩ = some (.int .i64 0) := by rw [H17.out.2.2.1.cell 6 (by decide)]; rfl
  have ca7 : wz.cell? ⟨ga, 7, none⟩ = some (.int .i64 2) := by rw [H17.out.2.2.1.cell 7 (by decide)]; rfl
  have ca8 : wz.cell? ⟨ga, 8, none⟩ = some (.int .i64 1) := by rw [H17.out.2.2.1.cell 8 (by decide)]; rfl
  have ca9 : wz.cell? ⟨ga, 9, none⟩ = some (.int .i64 2) := by rw [H17.out.2.2.1.cell 9 (by decide)]; rfl
  have ca10 : wz.cell? ⟨ga, 10, none⟩ = some (.int .i64 4) := by rw [H17.out.2.2.1.cell 10 (by decide)]; rfl
  have ca11 : wz.cell? ⟨ga, 11, none⟩ = some (.int .i64 1) := by rw [H17.out.2.2.1.cell 11 (by decide)]; rfl
  have ce30 : wz.cell? ⟨ge, 30, none⟩ = some (.int .i64 0) := by rw [H17.out.2.2.2.2.2.2.1.cell 30 (by decide)]; rfl
  have ce31 : wz.cell? ⟨ge, 31, none⟩ = some (.int .i64 7) := by rw [H17.out.2.2.2.2.2.2.1.cell 31 (by decide)]; rfl
  have ce32 : wz.cell? ⟨ge, 32, none⟩ = some (.int .i64 2) := by rw [H17.out.2.2.2.2.2.2.1.cell 32 (by decide)]; rfl
  have ce33 : wz.cell? ⟨ge, 33, none⟩ = some (.int .i64 6) := by rw [H17.out.2.2.2.2.2.2.1.cell 33 (by decide)]; rfl
  have ce34 : wz.cell? ⟨ge, 34, none⟩ = some (.int .i64 7) := by rw [H17.out.2.2.2.2.2.2.1.cell 34 (by decide)]; rfl
  have ce35 : wz.cell? ⟨ge, 35, none⟩ = some (.int .i64 37) := by rw [H17.out.2.2.2.2.2.2.1.cell 35 (by decide)]; rfl
  have rw3_0 : wz.cell? ⟨rw3, 0, none⟩ = some (.int .i64 0) := by rw [H17.out.2.2.2.1.cell]; rfl
  have rw3_1 : wz.cell? ⟨rw3, 1, none⟩ = some (.int .i64 2) := by rw [H17.out.2.2.2.1.cell]; rfl
  have rw3_2 : wz.cell? ⟨rw3, 2, none⟩ = some (.int .i64 0) := by rw [H17.out.2.2.2.1.cell]; rfl
  have rw3_3 : wz.cell? ⟨rw3, 3, none⟩ = some (.int .i64 2) := by rw [H17.out.2.2.2.1.cell]; rfl
  have rw4_0 : wz.cell? ⟨rw4, 0, none⟩ = some (.int .i64 4) := by rw [H17.out.2.2.2.2.1.cell]; rfl
  have rw4_1 : wz.cell? ⟨rw4, 1, none⟩ = some (.int .i64 2) := by rw [H17.out.2.2.2.2.1.cell]; rfl
  have rw4_2 : wz.cell? ⟨rw4, 2, none⟩ = some (.int .i64 2) := by rw [H17.out.2.2.2.2.1.cell]; rfl
  have rw4_3 : wz.cell? ⟨rw4, 3, none⟩ = some (.int .i64 1) := by rw [H17.out.2.2.2.2.1.cell]; rfl
  have rw5_0 : wz.cell? ⟨rw5, 0, none⟩ = some (.int .i64 4) := by rw [H17.out.2.2.2.2.2.1.cell]; rfl
  have rw5_1 : wz.cell? ⟨rw5, 1, none⟩ = some (.int .i64 2) := by rw [H17.out.2.2.2.2.2.1.cell]; rfl
  have rw5_2 : wz.cell? ⟨rw5, 2, none⟩ = some (.int .i64 3) := by rw [H17.out.2.2.2.2.2.1.cell]; rfl
  have rw5_3 : wz.cell? ⟨rw5, 3, none⟩ = some (.int .i64 4) := by rw [H17.out.2.2.2.2.2.1.cell]; rfl
  have rw8_0 : wz.cell? ⟨rw8, 0, none⟩ = some (.int .i64 6) := by rw [H17.out.2.2.2.2.2.2.2.cell]; rfl
  have rw8_1 : wz.cell? ⟨rw8, 1, none⟩ = some (.int .i64 7) := by rw [H17.out.2.2.2.2.2.2.2.cell]; rfl
  have rw8_2 : wz.cell? ⟨rw8, 2, none⟩ = some (.int .i64 1) := by rw [H17.out.2.2.2.2.2.2.2.cell]; rfl
  have rw8_3 : wz.cell? ⟨rw8, 3, none⟩ = some (.int .i64 4) := by rw [H17.out.2.2.2.2.2.2.2.cell]; rfl
  go_wp2_with fail
  refine (Number_any ⟨#[5, 77, 90, 0, 1, 120, 37]⟩ 0 7 2 6 7 37 wz (by decide)).mono ?_
  rw [ex_P]
  rintro e wy ⟨rfl, hB⟩
  have HE := Lib.hid (below_more H17.out.1 (Nat.le_refl _) hB)
  clear hB
  go_wp2_with fail
  first | go_end0 | go_ret
  exact ⟨rfl, HE.out⟩
end SanB
section BoundP
open Fx Rec
namespace Bd

def eb : ByteArray := ⟨#[]⟩
def F1 : Fm := ⟨1, [⟨3, 0, -1, eb⟩]⟩
def F2 : Fm := ⟨2, [⟨2, 3, -1, eb⟩, ⟨4, 1, 0, eb⟩]⟩
def G (i : Nat) : Fm := ⟨3 + (i : Int), [⟨2, 1, -1, eb⟩, ⟨5, 2 + (i : Int), 0, eb⟩]⟩
def tb : Nat → List Fm
  | 0 => [F1, F2]
  | k + 1 => tb k ++ [G k]
theorem tb_len : ∀ k, (tb k).length = k + 2
  | 0 => rfl
  | k + 1 => by rw [tb, List.length_append, tb_len k]; rfl
/-- What recognising comes to: so many parts, or too many of them. -/
def Out (r : Except Rf (Nat × List Pt)) (l cnt t : Nat) : Prop := if cnt + t ≤ 5000 then ∃ ps, r = .ok (l, ps) ∧ ps.length = t else r = .error ⟨l, 1, 0, 5⟩
section
variable {L : List Fm} {s : ByteArray}
theorem val_one (h : fieldsOf L 1 = F1.fs) (n : Nat) (dp : Int) {st l : Nat} (hl : st ≤ l) (cnt : Nat) :
    val L s (n + 1) 1 dp st l cnt = if 5000 ≤ cnt then .error ⟨st, 1, 0, 5⟩ else .ok (st, [⟨dp, 1, 0, st, st, 0⟩]) := by
  show Rec.ends (flds s (val L s n) 1 dp st l cnt (fieldsOf L 1) (fieldsOf L 1).length) = _
  rw [h]
  show Rec.ends (flds s (val L s n) 1 dp st l cnt F1.fs 1) = _
  unfold flds flds
  show Rec.ends (match next s (val L s n) 1 dp st l 0 ⟨3, 0, -1, eb⟩ [] st (cnt + 0) with
    | .error r => (.error r : Except Rf (Nat × List Int × List Pt))
    | .ok (e, n, qs) => .ok (e, [] ++ [n], [] ++ ((⟨dp, 1, ((0 : Nat) : Int), st, e, n⟩ : Pt) :: qs))) = _
  unfold next
  by_cases hc : 5000 ≤ cnt
  · rw [if_pos (show 5000 ≤ cnt + 0 from hc), if_pos hc]; rfl
  · rw [if_neg (show ¬ 5000 ≤ cnt + 0 from hc), if_neg hc]
    have hk : kind s (val L s n) 1 dp st l 0 ⟨3, 0, -1, eb⟩ [] st (cnt + 0 + 1) = .ok (st, 0, []) := by
      show short 1 0 st l 0 (.ok (st + 0, 0, [])) = _
      unfold short
      rw [if_neg (by omega)]; rfl
    rw [hk]; rfl
theorem reps_one (h : fieldsOf L 1 = F1.fs) (n : Nat) (dp : Int) {st l : Nat} (hl : st ≤ l) (cnt : Nat) (hc : cnt ≤ 5000) : ∀ c, reps (val L s (n + 1)) 1 dp l st cnt c = if cnt + c ≤ 5000 then .ok (st, List.replicate c ⟨dp, 1, 0, st, st, 0⟩) else .error ⟨st, 1, 0, 5⟩
  | 0 => by rw [if_pos (by omega)]; rfl
  | c + 1 => by
    rw [reps, reps_one h n dp hl cnt hc c]
    by_cases h1 : cnt + c ≤ 5000
    · rw [if_pos h1]
      show (match val L s (n + 1) 1 dp st l (cnt + (List.replicate c (⟨dp, 1, 0, st, st, 0⟩ : Pt)).length) with
        | .error r => (.error r : Except Rf (Nat × List Pt))
        | .ok (e', qs) => .ok (e', List.replicate c (⟨dp, 1, 0, st, st, 0⟩ : Pt) ++ qs)) = _
      rw [val_one h n dp hl, List.length_replicate]
      by_cases h2 : cnt + (c + 1) ≤ 5000
      · rw [if_pos h2, if_neg (by omega), List.replicate_succ']
      · rw [if_neg h2, if_pos (by omega)]
    · rw [if_neg h1, if_neg (by omega)]
theorem val_two (h1 : fieldsOf L 1 = F1.fs) (h2 : fieldsOf L 2 = F2.fs) (n : Nat) (dp : Int) {st l : Nat} (hl : st + 3 = l) (cnt : Nat) (hc : cnt + 2 ≤ 5000) {c : Nat} (hn : num (s.extract st (st + 3)) = (c : Int)) :
    Out (val L s (n + 2) 2 dp st l cnt) l cnt (2 + c) := by
  have e : val L s (n + 2) 2 dp st l cnt = Rec.ends (flds s (val L s (n + 1)) 2 dp st l cnt F2.fs 2) := by
    show Rec.ends (flds s (val L s (n + 1)) 2 dp st l cnt (fieldsOf L 2) (fieldsOf L 2).length) = _
    rw [h2]; rfl
  have k0 : next s (val L s (n + 1)) 2 dp st l 0 ⟨2, 3, -1, eb⟩ [] st (cnt + 0) = .ok (l, (c : Int), []) := by
    unfold next
    rw [if_neg (by omega)]
    show short 2 0 st l 3 (.ok (st + 3, num (s.extract st (st + 3)), [])) = _
    unfold short
    rw [if_neg (by omega), hn, hl]
  have f1 : flds s (val L s (n + 1)) 2 dp st l cnt F2.fs 1 = .ok (l, [(c : Int)], [⟨dp, 2, 0, st, l, c⟩]) := by
    unfold flds flds
    show (match next s (val L s (n + 1)) 2 dp st l 0 ⟨2, 3, -1, eb⟩ [] st (cnt + 0) with
      | .error r => (.error r : Except Rf (Nat × List Int × List Pt))
      | .ok (e, n, qs) => .ok (e, [] ++ [n], [] ++ ((⟨dp, 2, ((0 : Nat) : Int), st, e, n⟩ : Pt) :: qs))) = _
    rw [k0]; rfl
  have k1 : next s (val L s (n + 1)) 2 dp st l 1 ⟨4, 1, 0, eb⟩ [(c : Int)] l (cnt + 1) = if cnt + 2 + c ≤ 5000 then .ok (l, (c : Int), List.replicate c ⟨dp + 1, 1, 0, l, l, 0⟩) else .error ⟨l, 1, 0, 5⟩ := by
    unfold next
    rw [if_neg (by omega)]
    show listed c (reps (val L s (n + 1)) 1 (dp + 1) l l (cnt + 1 + 1) c) = _
    rw [reps_one h1 n (dp + 1) (Nat.le_refl l) (cnt + 1 + 1) (by omega) c]
    by_cases h3 : cnt + 2 + c ≤ 5000
    · rw [if_pos (by omega), if_pos h3]; rfl
    · rw [if_neg (by omega), if_neg h3]; rfl
  have f2 : flds s (val L s (n + 1)) 2 dp st l cnt F2.fs 2 = match next s (val L s (n + 1)) 2 dp st l 1 ⟨4, 1, 0, eb⟩ [(c : Int)] l (cnt + 1) with
      | .error r => (.error r : Except Rf (Nat × List Int × List Pt))
      | .ok (e, n, qs) => .ok (e, [(c : Int)] ++ [n], [(⟨dp, 2, 0, st, l, c⟩ : Pt)] ++ ((⟨dp, 2, ((1 : Nat) : Int), l, e, n⟩ : Pt) :: qs)) := by
    rw [flds, f1]; rfl
  unfold Out
  rw [e, f2, k1]
  by_cases h3 : cnt + 2 + c ≤ 5000
  · rw [if_pos (show cnt + (2 + c) ≤ 5000 by omega), if_pos h3]
    exact ⟨_, rfl, by simp; omega⟩
  · rw [if_neg (show ¬ cnt + (2 + c) ≤ 5000 by omega), if_neg h3]; rfl
theorem val_box {i : Nat} (h : fieldsOf L (3 + (i : Int)) = (G i).fs) (n : Nat) (dp : Int) {st l k : Nat} (hl : st + 1 + k = l) (cnt : Nat) (hc : cnt + 2 ≤ 5000) (hn : num (s.extract st (st + 1)) = (k : Int)) {t : Nat}
    (hs : Out (val L s n (2 + (i : Int)) (dp + 1) (st + 1) l (cnt + 2)) l (cnt + 2) t) : Out (val L s (n + 1) (3 + (i : Int)) dp st l cnt) l cnt (2 + t) := by
  have e : val L s (n + 1) (3 + (i : Int)) dp st l cnt = Rec.ends (flds s (val L s n) (3 + (i : Int)) dp st l cnt (G i).fs 2) := by
    show Rec.ends (flds s (val L s n) (3 + (i : Int)) dp st l cnt (fieldsOf L (3 + (i : Int))) (fieldsOf L (3 + (i : Int))).length) = _
    rw [h]; rfl
  have k0 : next s (val L s n) (3 + (i : Int)) dp st l 0 ⟨2, 1, -1, eb⟩ [] st (cnt + 0) = .ok (st + 1, (k : Int), []) := by
    unfold next
    rw [if_neg (by omega)]
    show short (3 + (i : Int)) 0 st l 1 (.ok (st + 1, num (s.extract st (st + 1)), [])) = _
    unfold short
    rw [if_neg (by omega), hn]
  have f1 : flds s (val L s n) (3 + (i : Int)) dp st l cnt (G i).fs 1 = .ok (st + 1, [(k : Int)], [⟨dp, 3 + (i : Int), 0, st, ((st + 1 : Nat) : Int), k⟩]) := by
    unfold flds flds
    show (match next s (val L s n) (3 + (i : Int)) dp st l 0 ⟨2, 1, -1, eb⟩ [] st (cnt + 0) with
      | .error r => (.error r : Except Rf (Nat × List Int × List Pt))
      | .ok (e, n, qs) => .ok (e, [] ++ [n], [] ++ ((⟨dp, 3 + (i : Int), ((0 : Nat) : Int), st, e, n⟩ : Pt) :: qs))) = _
    rw [k0]; rfl
  have k1 : next s (val L s n) (3 + (i : Int)) dp st l 1 ⟨5, 2 + (i : Int), 0, eb⟩ [(k : Int)] (st + 1) (cnt + 1) = boxed (3 + (i : Int)) 1 l (val L s n (2 + (i : Int)) (dp + 1) (st + 1) l (cnt + 2)) := by
    unfold next
    rw [if_neg (by omega)]
    show short (3 + (i : Int)) 1 (st + 1) l k (boxed (3 + (i : Int)) 1 (st + 1 + k) (val L s n (2 + (i : Int)) (dp + 1) (st + 1) (st + 1 + k) (cnt + 1 + 1))) = _
    unfold short
    rw [if_neg (by omega), hl]
  have f2 : flds s (val L s n) (3 + (i : Int)) dp st l cnt (G i).fs 2 = match next s (val L s n) (3 + (i : Int)) dp st l 1 ⟨5, 2 + (i : Int), 0, eb⟩ [(k : Int)] (st + 1) (cnt + 1) with
      | .error r => (.error r : Except Rf (Nat × List Int × List Pt))
      | .ok (e, n, qs) => .ok (e, [(k : Int)] ++ [n], [(⟨dp, 3 + (i : Int), 0, st, ((st + 1 : Nat) : Int), k⟩ : Pt)] ++ ((⟨dp, 3 + (i : Int), ((1 : Nat) : Int), ((st + 1 : Nat) : Int), e, n⟩ : Pt) :: qs)) := by
    rw [flds, f1]; rfl
  unfold Out at hs ⊢
  rw [e, f2, k1]
  by_cases h3 : cnt + 2 + t ≤ 5000
  · rw [if_pos (show cnt + (2 + t) ≤ 5000 by omega)]
    rw [if_pos h3] at hs
    obtain ⟨ps, hv, hp⟩ := hs
    rw [hv]
    show ∃ qs, Rec.ends (match (if l < l then .error ⟨l, 3 + (i : Int), ((1 : Nat) : Int), 4⟩ else .ok (l, 0, ps) : Except Rf (Nat × Int × List Pt)) with
      | .error r => (.error r : Except Rf (Nat × List Int × List Pt))
      | .ok (e, n, qs) => .ok (e, [(k : Int)] ++ [n], [(⟨dp, 3 + (i : Int), 0, st, ((st + 1 : Nat) : Int), k⟩ : Pt)] ++ ((⟨dp, 3 + (i : Int), ((1 : Nat) : Int), ((st + 1 : Nat) : Int), e, n⟩ : Pt) :: qs))) = .ok (l, qs) ∧ _
    rw [if_neg (Nat.lt_irrefl _)]
    exact ⟨_, rfl, by simp [hp]; omega⟩
  · rw [if_neg (show ¬ cnt + (2 + t) ≤ 5000 by omega)]
    rw [if_neg h3] at hs
    rw [hs]; rfl
end
/-- The stream: the count in three bytes, ahead of them how many bytes follow, as often as it is nested. -/
def b3 (c : Nat) : ByteArray := ⟨#[UInt8.ofNat (c / 65536), UInt8.ofNat (c / 256), UInt8.ofNat c]⟩
def hd8 (k : Nat) : UInt8 := UInt8.ofNat (3 + k)
def str (c : Nat) : Nat → ByteArray
  | 0 => b3 c
  | k + 1 => (⟨#[hd8 k]⟩ : ByteArray) ++ str c k
theorem str_size (c : Nat) : ∀ k, (str c k).size = 3 + k
  | 0 => rfl
  | k + 1 => by rw [str, ByteArray.size_append, str_size c k]; show 1 + (3 + k) = _; omega
/-- The same count in a stream that goes on ahead of it. -/
theorem val_str {L : List Fm} (h1 : fieldsOf L 1 = F1.fs) (h2 : fieldsOf L 2 = F2.fs) {d : Nat} (hG : ∀ i, i < d → fieldsOf L (3 + (i : Int)) = (G i).fs) (s : ByteArray) {c : Nat} : ∀ (k : Nat), k ≤ d → ∀ (n : Nat) (dp : Int) (st l cnt : Nat), k + 2 ≤ n → st + 3 + k = l → cnt + 2 + 2 * k ≤ 5000 →
    num (s.extract (st + k) (st + k + 3)) = (c : Int) → (∀ j, j < k → num (s.extract (st + j) (st + j + 1)) = ((k - j + 2 : Nat) : Int)) → Out (val L s n (2 + (k : Int)) dp st l cnt) l cnt (2 + 2 * k + c)
  | 0, _, n, dp, st, l, cnt, hn, hl, hc, hx, _ => by
    obtain ⟨m, rfl⟩ : ∃ m, n = m + 2 := ⟨n - 2, by omega⟩
    have := val_two (L := L) (s := s) h1 h2 m dp (st := st) (l := l) (by omega) cnt (by omega) (c := c) hx
    simpa using this
  | k + 1, hk, n, dp, st, l, cnt, hn, hl, hc, hx, hj => by
    obtain ⟨m, rfl⟩ : ∃ m, n = m + 1 := ⟨n - 1, by omega⟩
    have hs := val_str h1 h2 hG s k (by omega) m (dp + 1) (st + 1) l (cnt + 2) (by omega) (by omega) (by omega) (by rw [show st + 1 + k = st + (k + 1) by omega]; exact hx) (fun j h => by
      have := hj (j + 1) (by omega)
      rw [show st + 1 + j = st + (j + 1) by omega, this]
      congr 1; omega)
    have h0 := hj 0 (by omega)
    have := val_box (hG k (by omega)) m dp (st := st) (l := l) (k := k + 3) (by omega) cnt (by omega) (by rw [Nat.add_zero] at h0; rw [h0]; congr 1) hs
    rw [show 2 + (((k + 1 : Nat) : Int)) = 3 + (k : Int) by omega, show 2 + 2 * (k + 1) + c = 2 + (2 + 2 * k + c) by omega]
    exact this
theorem num_b3 {c : Nat} (h : c < 16777216) : numL [UInt8.ofNat (c / 65536), UInt8.ofNat (c / 256), UInt8.ofNat c] = (c : Int) := by
  show 256 * (256 * (256 * 0 + ((UInt8.ofNat (c / 65536)).toNat : Int)) + ((UInt8.ofNat (c / 256)).toNat : Int)) + ((UInt8.ofNat c).toNat : Int) = c
  rw [UInt8.toNat_ofNat', UInt8.toNat_ofNat', UInt8.toNat_ofNat']
  omega
theorem str_ext (c : Nat) {d : Nat} (hd : d ≤ 3) : ((str c d).extract (0 + d) (0 + d + 3)).data.toList = [UInt8.ofNat (c / 65536), UInt8.ofNat (c / 256), UInt8.ofNat c] := by
  obtain rfl | rfl | rfl | rfl : d = 0 ∨ d = 1 ∨ d = 2 ∨ d = 3 := by omega
  all_goals rfl
theorem str_box (c : Nat) {d : Nat} (hd : d ≤ 3) : ∀ j, j < d → num ((str c d).extract (0 + j) (0 + j + 1)) = ((d - j + 2 : Nat) : Int) := by
  intro j hj
  have h9 : (d = 1 ∧ j = 0) ∨ (d = 2 ∧ j = 0) ∨ (d = 2 ∧ j = 1) ∨ (d = 3 ∧ j = 0) ∨ (d = 3 ∧ j = 1) ∨ (d = 3 ∧ j = 2) := by omega
  obtain ⟨rfl, rfl⟩ | ⟨rfl, rfl⟩ | ⟨rfl, rfl⟩ | ⟨rfl, rfl⟩ | ⟨rfl, rfl⟩ | ⟨rfl, rfl⟩ := h9
  all_goals rfl
theorem tb_vd {d : Nat} (hd : d ≤ 3) : vd (tb d) = true := by
  obtain rfl | rfl | rfl | rfl : d = 0 ∨ d = 1 ∨ d = 2 ∨ d = 3 := by omega
  all_goals decide
theorem tb_one {d : Nat} (hd : d ≤ 3) : fieldsOf (tb d) 1 = F1.fs ∧ fieldsOf (tb d) 2 = F2.fs ∧ Rec.has (tb d) (2 + (d : Int)) = true := by
  obtain rfl | rfl | rfl | rfl : d = 0 ∨ d = 1 ∨ d = 2 ∨ d = 3 := by omega
  all_goals exact ⟨rfl, rfl, rfl⟩
theorem tb_box {d : Nat} (hd : d ≤ 3) : ∀ i, i < d → fieldsOf (tb d) (3 + (i : Int)) = (G i).fs := by
  intro j hj
  have h9 : (d = 1 ∧ j = 0) ∨ (d = 2 ∧ j = 0) ∨ (d = 2 ∧ j = 1) ∨ (d = 3 ∧ j = 0) ∨ (d = 3 ∧ j = 1) ∨ (d = 3 ∧ j = 2) := by omega
  obtain ⟨rfl, rfl⟩ | ⟨rfl, rfl⟩ | ⟨rfl, rfl⟩ | ⟨rfl, rfl⟩ | ⟨rfl, rfl⟩ | ⟨rfl, rfl⟩ := h9
  all_goals rfl
/-- What Match tells of the stream. -/
theorem bounded {c d : Nat} (hc : c < 16777216) (hd : d ≤ 3) :
    (2 + 2 * d + c ≤ 5000 ∧ ∃ ps, mtch (tb d) (2 + (d : Int)) (str c d) = .ok ps ∧ ps.length = 2 + 2 * d + c) ∨ (¬ 2 + 2 * d + c ≤ 5000 ∧ mtch (tb d) (2 + (d : Int)) (str c d) = .error ⟨((3 + d : Nat) : Int), 1, 0, 5⟩) := by
  obtain ⟨h1, h2, h3⟩ := tb_one hd
  have hsz := str_size c d
  have ho := val_str h1 h2 (tb_box hd) (str c d) (c := c) d (Nat.le_refl d) 61 0 0 (3 + d) 0 (by omega) (by omega) (by omega) (by show numL _ = _; rw [str_ext c hd]; exact num_b3 hc) (str_box c hd)
  have hm : mtch (tb d) (2 + (d : Int)) (str c d) = match val (tb d) (str c d) 61 (2 + (d : Int)) 0 0 (3 + d) 0 with
      | .error r => .error r
      | .ok (e, ps) => if e < 3 + d then .error ⟨e, 2 + (d : Int), (fieldsOf (tb d) (2 + (d : Int))).length, 4⟩ else .ok ps := by
    unfold mtch
    rw [if_pos ⟨tb_vd hd, by omega⟩]
    unfold whole
    rw [if_pos h3, hsz]
    rfl
  unfold Out at ho
  rw [hm]
  by_cases h : 2 + 2 * d + c ≤ 5000
  · rw [if_pos (show 0 + (2 + 2 * d + c) ≤ 5000 by omega)] at ho
    obtain ⟨ps, e, hl⟩ := ho
    refine .inl ⟨h, ps, ?_, hl⟩
    rw [e]
    exact if_neg (Nat.lt_irrefl _)
  · rw [if_neg (show ¬ 0 + (2 + 2 * d + c) ≤ 5000 by omega)] at ho
    refine .inr ⟨h, ?_⟩
    rw [ho]
end Bd
end BoundP
section RefPre
open Go.RowKit Fx

theorem take_succ_getD {α : Type} (l : List α) (z : α) (k : Nat) (h : k < l.length) : l.take (k + 1) = l.take k ++ [l.getD k z] := by
  rw [List.take_succ_eq_append_getElem h]; simp [List.getD, List.getElem?_eq_getElem h]
theorem FmsAt.slice_ {B : Nat → Prop} {w : World} {v : Value} {l : List Fm} (h : FmsAt B w v l) : ∃ a c, v = .slice a l.length c ∧ (l.length = 0 ∨ (l.length ≤ c ∧ c ≤ maxLen)) := by
  rcases h with ⟨a, c, rfl, rfl⟩ | ⟨b, off, cap, rfl, h1, h2, h3, _⟩
  · exact ⟨a, c, rfl, .inl rfl⟩
  · exact ⟨_, _, rfl, .inr ⟨h2, h3⟩⟩
theorem FmsAt.at_ {B : Nat → Prop} {w : World} {a : Option Addr} {n c : Nat} {l : List Fm} (h : FmsAt B w (.slice a n c) l) (h1 : 1 ≤ l.length) : ∃ b off, a = some ⟨b, off, none⟩ ∧ n = l.length ∧ B b ∧ b < w.heap.size ∧ n ≤ c ∧ c ≤ maxLen ∧ ∀ i, i < l.length → ∃ u, FmAt B w b (off + i * 2) (l.getD i zm) u := by
  rcases h with ⟨a, c, _, rfl⟩ | ⟨b, off, cap, h0, h2, h3, h4, h5, h6, h7⟩
  · simp at h1
  · cases h0
    exact ⟨b, off, rfl, rfl, h5, h6, h3, h4, h7⟩
theorem four (w : World) (a b c d : Obj) : ∃ W, W = (((w.alloc a).alloc b).alloc c).alloc d ∧ W.heap.size = w.heap.size + 4 ∧ Below w.heap.size w W ∧ W.heap[w.heap.size]? = some a ∧ W.heap[w.heap.size + 1]? = some b ∧ W.heap[w.heap.size + 1 + 1]? = some c ∧ W.heap[w.heap.size + 1 + 1 + 1]? = some d := by
  refine ⟨_, rfl, by simp, (((bx a).alloc (by simp) b).alloc (by simp; omega) c).alloc (by simp; omega) d, ?_, ?_, ?_, ?_⟩
  · exact (Below.heap_alloc _ _ _ (by simp; omega)).trans ((Below.heap_alloc _ _ _ (by simp; omega)).trans (heap_alloc2_old _ _ _))
  · exact (Below.heap_alloc _ _ _ (by simp)).trans ((Below.heap_alloc _ _ _ (by simp)).trans (heap_alloc2_new _ _ _))
  · have := heap_alloc2_old ((w.alloc a).alloc b) c d
    simpa using this
  · have := heap_alloc2_new ((w.alloc a).alloc b) c d
    simpa using this
theorem infoFld4 : (Tryz.prog.info? 56).map (·.size) = some 4 := by kernel_rfl
theorem fld_one (f : Fld) : (#[Value.int .i64 f.kind, .int .i64 f.n, .int .i64 f.frm, .string f.text] : Array Value).all (·.oneCell') = true := by simp [Value.oneCell']
abbrev fldCs (f : Fld) : Array Value := #[.int .i64 f.kind, .int .i64 f.n, .int .i64 f.frm, .string f.text]
theorem wpList_append_fld {ops : Array Oper} {rest : List Oper} {o : Oper} {a : Act} {w : World} {Q : Exit → Act → World → Prop}
    (hg : o.guard = none) (s x : Operand) (hop : o.op = Op.call { callee := Callee.builtin Builtin.append, args := #[s, x], argTypes := #[50, 50] })
    (v : Value) (n : Nat) (xs : List Value) (hs : a.eval s = v) (hown : w.ownsRow 0 56 4 v n xs) (hn : n ≤ 1000) (g : Nat) (f : Fld) (hx : a.eval x = .slice (some ⟨g, 0, none⟩) 1 1)
    (hb : w.heap[g]? = some (.cells (fldC f).toArray 56 (0, 0)))
    (hK : ∀ v' w', Grew w w' 0 56 4 v v' (n + 1) (xs ++ fldC f) → wpList Tryz.prog ops Q rest (a.put o.dst v') w') : wpList Tryz.prog ops Q (o :: rest) a w :=
  wpList_plain hg fun _ hK' => by
    obtain ⟨v', w', hr, h2⟩ := run_append_fld w o.type v n xs hown hn g f hb
    unfold Oper.wp
    simp [execOp, hop, resolve, invoke, builtin, hs, hx, hr, Result.andThen]
    exact hK' _ _ (hK _ _ h2)
theorem infoFmt2 : (Tryz.prog.info? 52).map (·.size) = some 2 := by kernel_rfl
theorem results_ct_fmt {fn : Func} {p u : Tmp} (h : fn.results = #[.cell p 52, .tmp u]) (tmps : Array Value) (w : World) (g : Nat) (cs : Array Value)
    (hp : tmps.getD p undef = .pointer (some ⟨g, 0, none⟩)) (hg : w.heap[g]? = some (.cells cs 52 (0, 0))) (hs : cs.size = 2) :
    (results fn tmps).run Tryz.prog w = .ok (.tuple #[.agg cs, tmps.getD u undef]) w := by
  have h1 := run_loadVar_row (P := Tryz.prog) w g 52 52 cs (0, 0) _ hg Tryz.underlying52 rfl (infoFmt2.trans (by rw [hs]))
  rw [results_cell_tmp h, hp]
  simp [asAddr, h1, Result.andThen]
/-- What a search gives. -/
def findO (l : List Fm) (id : Int) : Option Fm := l.find? fun f => decide (f.id = id)
/-- The same, and the fields' block is there. -/
def FindPost2 (o : Option Fm) (id : Int) (w : World) (e : Ending) (w' : World) : Prop :=
  (match o with
  | some f => ∃ v, e = .returned (.tuple #[.agg #[.int .i64 id, v], .bool true]) ∧ FldsAt w' v f.fs ∧ ∀ g, v.ownBlock = some g → g < w'.heap.size
  | none => e = .returned (.tuple #[.agg #[.int .i64 (0), .slice none 0 0], .bool false])) ∧ Below w.heap.size w w'
/-- The bytes of a list as a string. -/
abbrev bs (l : List UInt8) : ByteArray := ⟨l.toArray⟩
end RefPre
section RefOwn
open Go.RowKit Fx

/-- What a pick gives: one of the choices. -/
def pickI (c n : Int) : Int := (if c < 0 then -(c + 1) else c) % n
theorem pickI_lo {c n : Int} (h : 1 ≤ n) : 0 ≤ pickI c n := Int.emod_nonneg _ (by omega)
theorem pickI_hi {c n : Int} (h : 1 ≤ n) : pickI c n < n := Int.emod_lt_of_pos _ (by omega)
theorem getD_snoc {α : Type} {l : List α} {x z : α} {j : Nat} (h : j < (l ++ [x]).length) : (j < l.length ∧ (l ++ [x]).getD j z = l.getD j z) ∨ (j = l.length ∧ (l ++ [x]).getD j z = x) := by
  rcases Nat.lt_or_ge j l.length with h1 | h1
  · exact .inl ⟨h1, getD_snoc_lt h1⟩
  · have : j = l.length := by simp at h; omega
    subst this
    exact .inr ⟨rfl, getD_snoc_eq⟩
/-- A row of formats of the call's own, each with a row of fields of the call's own. -/
structure OwnM (w : World) (B : Nat) (u : Value) (L : List Fm) (vs : List Value) : Prop where
  row : w.ownsRow B 52 2 u L.length (flatM L vs)
  vsl : vs.length = L.length
  each : ∀ i, i < L.length → w.ownsRow B 56 4 (vs.getD i undef) (L.getD i zm).fs.length (flat (L.getD i zm).fs)
theorem ownsRow_lower {w : World} {B C : Nat} {e : TypeId} {sz : Nat} {v : Value} {n : Nat} {xs : List Value} (h : w.ownsRow B e sz v n xs) (hc : C ≤ B) : w.ownsRow C e sz v n xs := by
  refine ⟨h.1, ?_⟩
  rcases h.2 with hn | ⟨g, cap, cur, rfl, hg, hh, r⟩
  · exact .inl hn
  · exact .inr ⟨g, cap, cur, rfl, by omega, hh, r⟩
theorem OwnM.fms {w : World} {B : Nat} {u : Value} {L : List Fm} {vs : List Value} (h : OwnM w B u L vs) : FmsAt (· < w.heap.size) w u L := by
  rcases h.row.2 with ⟨rfl, h0⟩ | ⟨g, cap, cur, rfl, hg, hh, hl, hm, hsz, ht⟩
  · exact .inl ⟨none, 0, rfl, List.eq_nil_of_length_eq_zero h0⟩
  · rcases Nat.eq_zero_or_pos L.length with h0 | h0
    · exact .inl ⟨_, _, by rw [h0], List.eq_nil_of_length_eq_zero h0⟩
    · have hcell : ∀ j, j < L.length * 2 → w.cell? ⟨g, 0 + j, none⟩ = (flatM L vs)[j]? := fun j hj => by
        rw [cell_of_row w g _ cur _ (0, 0) hh, ← ht, List.getElem?_take, if_pos (by omega)]
        simp
      refine .inr ⟨g, 0, cap, rfl, h0, hl, hm, lt_of_heap hh, lt_of_heap hh, fun i hi => ⟨vs.getD i undef, ?_, ?_, FldsAt.of_own (ownsRow_lower (h.each i hi) (Nat.zero_le _)), fun g' hg' => own_lt (h.each i hi) hg'⟩⟩
      · exact (hcell (i * 2) (by omega)).trans (flatM_get h.vsl hi).1
      · exact (hcell (i * 2 + 1) (by omega)).trans (flatM_get h.vsl hi).2
theorem OwnM.nil (w : World) (B : Nat) : OwnM w B (.slice none 0 0) [] [] := ⟨World.ownsRow_nil _ _ _ _, rfl, fun i h => by simp at h⟩
theorem OwnM.below {w w' : World} {B : Nat} {u : Value} {L : List Fm} {vs : List Value} (h : OwnM w B u L vs) (hb : Below w.heap.size w w') : OwnM w' B u L vs :=
  ⟨ownsRow_below h.row hb, h.vsl, fun i hi => ownsRow_below (h.each i hi) hb⟩
end RefOwn
end Go.Proofs.YtlhobhfmombjjaaGreatDoor
