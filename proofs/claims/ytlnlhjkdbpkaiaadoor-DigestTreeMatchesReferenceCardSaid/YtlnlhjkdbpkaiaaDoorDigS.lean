/- sane returns true. Condition: the tables digest.initial and digest.constants hold their numbers. -/
import Derived.Test.YtlnlhjkdbpkaiaaDoorDigSv
namespace Go.Proofs.YtlnlhjkdbpkaiaaDoor
open Go.RowKit

theorem Sum_as (s V : ByteArray) (w : World) (hT : Tabs w) (hs : s.size ≤ 549755813888) (h : shaB s = V) :
    Calls Tryd.prog 12 #[.string s] w fun e w' => e = .returned (.string V) ∧ Below w.heap.size w w' := by subst h; exact Sum_any s w hT hs
theorem hex_as (s V : ByteArray) (w : World) (hs : s.size ≤ 1000) (h : hexTo s s.size = V) :
    Calls Tryd.prog 36 #[.string s] w fun e w' => e = .returned (.string V) ∧ Below w.heap.size w w' := by subst h; exact hex_any s w hs
theorem OwnL.form {W : World} {base : Nat} {v : Value} {l : List ByteArray} (h : OwnL W base v l) : ∃ a c, v = .slice a l.length c := by
  obtain ⟨_, ⟨rfl, h2⟩ | ⟨g, cap, cur, rfl, _⟩⟩ := h
  · exact ⟨_, _, by rw [h2]⟩
  · exact ⟨_, _, rfl⟩

set_option maxRecDepth 100000 in
set_option maxHeartbeats 8000000 in
theorem sane_any (w : World) (hT : Tabs w) :
    Calls Tryd.prog 11 #[] w fun e w' => e = .returned (.bool true) ∧ Below w.heap.size w w' := by
  have hW0 : Below w.heap.size w (w.alloc (.cells #[.string ⟨#[97]⟩, .string ⟨#[98]⟩, .string ⟨#[99]⟩] 9)) := (Below.refl _ w).alloc (Nat.le_refl _) _
  obtain ⟨w0, hw0⟩ : ∃ w0, w0 = w.alloc (.cells #[.string ⟨#[97]⟩, .string ⟨#[98]⟩, .string ⟨#[99]⟩] 9) := ⟨_, rfl⟩
  have hrow : w0.heap[w.heap.size]? = some (.cells #[.string ⟨#[97]⟩, .string ⟨#[98]⟩, .string ⟨#[99]⟩] 9 (0, 0)) := by rw [hw0]; exact heap_alloc_new w _
  have hSA : StrsAt w0 w.heap.size 0 labc := fun j hj => by
    rw [cell_of_row w0 _ _ _ _ _ hrow]
    obtain rfl | rfl | rfl : j = 0 ∨ j = 1 ∨ j = 2 := by have : j < 3 := hj; omega
    all_goals rfl
  have hsh : Short labc := fun x hx => by
    simp only [labc, List.mem_cons, List.not_mem_nil, or_false] at hx
    rcases hx with rfl | rfl | rfl <;> decide
  have hlt : w.heap.size < w0.heap.size := by rw [hw0]; simp
  rw [← hw0] at hW0
  have HL : ∀ W, Below w0.heap.size w0 W → ListAt W (.slice (some ⟨w.heap.size, 0, none⟩) 3 3) labc := fun W hW => ⟨hsh, .inr ⟨w.heap.size, 0, 3, rfl, by decide, by decide, by decide, hSA.below hW hlt, Nat.lt_of_lt_of_le hlt hW.size⟩⟩
  have HL1 : ∀ W, Below w0.heap.size w0 W → ListAt W (.slice (some ⟨w.heap.size, 0, none⟩) 1 3) [⟨#[97]⟩] := fun W hW => ⟨hsh.take 1, .inr ⟨w.heap.size, 0, 3, rfl, by decide, by decide, by decide, (hSA.below hW hlt).take 1, Nat.lt_of_lt_of_le hlt hW.size⟩⟩
  have HL2 : ∀ W, Below w0.heap.size w0 W → ListAt W (.slice (some ⟨w.heap.size, 0, none⟩) 2 3) [⟨#[97]⟩, ⟨#[98]⟩] := fun W hW => ⟨hsh.take 2, .inr ⟨w.heap.size, 0, 3, rfl, by decide, by decide, by decide, (hSA.below hW hlt).take 2, Nat.lt_of_lt_of_le hlt hW.size⟩⟩
  have HLL := Lib.hid HL
  have HLL1 := Lib.hid HL1
  have HLL2 := Lib.hid HL2
  have HT : Hid (∀ W, Below w0.heap.size w0 W → Tabs W) := Lib.hid fun W hW => (hT.below hW0).below hW
  have HW0 := Lib.hid hW0
  have HE := Lib.hid hw0
  clear HL HL1 HL2 hT hW0 hrow hSA hsh hw0 hlt
  go_enter Tryd.func11, Tryd.ntmps11
  go_wp2_with fail
  rw [← HE.out]
  refine (Proof_yes _ labc 2 _ (HLL.out _ (Below.refl _ _)) (by decide) (by decide) (HT.out _ (Below.refl _ _))).mono ?_
  rintro e w1 ⟨u, rfl, ho, hB1⟩
  obtain ⟨ua, uc, rfl⟩ := ho.form
  rw [sane_v5] at ho ⊢
  have HO := Lib.hid ho
  have HB1 := Lib.hid hB1
  clear ho hB1
  go_wp2_with fail
  refine (Extension_yes _ labc 1 _ (HLL.out _ HB1.out) (by decide) (by decide) (HT.out _ HB1.out)).mono ?_
  rintro e w2 ⟨x, rfl, hx, hB2⟩
  obtain ⟨xa, xc, rfl⟩ := hx.form
  rw [sane_v6] at hx ⊢
  have HX := Lib.hid hx
  have HO2 := Lib.hid (HO.out.below hB2)
  have HB2 := Lib.hid (HB1.out.trans (hB2.mono HB1.out.size))
  clear hx hB2
  go_wp2_with fail
  refine (Proof_no _ labc 3 _ (HLL.out _ HB2.out) (by decide)).mono ?_
  rintro e w' ⟨rfl, rfl⟩
  go_wp2_with fail
  refine (Root_any _ labc _ (HLL.out _ HB2.out) (HT.out _ HB2.out)).mono ?_
  rintro e w3 ⟨rfl, hB3⟩
  have HO3 := Lib.hid (HO2.out.below hB3)
  have HX3 := Lib.hid (HX.out.below hB3)
  have HB3 := Lib.hid (HB2.out.trans (hB3.mono HB2.out.size))
  clear hB3
  go_wp2_with fail
  refine (Sum_as _ dig0 _ (HT.out _ HB3.out) (by decide) sane_d0).mono ?_
  rintro e w4 ⟨rfl, hB4⟩
  have HO4 := Lib.hid (HO3.out.below hB4)
  have HX4 := Lib.hid (HX3.out.below hB4)
  have HB4 := Lib.hid (HB3.out.trans (hB4.mono HB3.out.size))
  clear hB4
  go_wp2_with fail
  refine (hex_as _ _ _ (by decide) sane_h0).mono ?_
  rintro e w5 ⟨rfl, hB5⟩
  have HO5 := Lib.hid (HO4.out.below hB5)
  have HX5 := Lib.hid (HX4.out.below hB5)
  have HB5 := Lib.hid (HB4.out.trans (hB5.mono HB4.out.size))
  clear hB5
  go_wp2_with fail
  refine (Sum_as _ dig1 _ (HT.out _ HB5.out) (by decide) sane_d1).mono ?_
  rintro e w6 ⟨rfl, hB6⟩
  have HO6 := Lib.hid (HO5.out.below hB6)
  have HX6 := Lib.hid (HX5.out.below hB6)
  have HB6 := Lib.hid (HB5.out.trans (hB6.mono HB5.out.size))
  clear hB6
  go_wp2_with fail
  refine (hex_as _ _ _ (by decide) sane_h1).mono ?_
  rintro e w7 ⟨rfl, hB7⟩
  have HO7 := Lib.hid (HO6.out.below hB7)
  have HX7 := Lib.hid (HX6.out.below hB7)
  have HB7 := Lib.hid (HB6.out.trans (hB7.mono HB6.out.size))
  clear hB7
  go_wp2_with fail
  refine (Verify_any _ _ 3 2 (sibsB labc 2) _ _ (by decide) (by decide) (HO7.out.list (sibs_short _ _)) (HT.out _ HB7.out)).mono ?_
  rintro e w8 ⟨rfl, hB8⟩
  rw [sane_v1]
  have HO8 := Lib.hid (HO7.out.below hB8)
  have HX8 := Lib.hid (HX7.out.below hB8)
  have HB8 := Lib.hid (HB7.out.trans (hB8.mono HB7.out.size))
  clear hB8
  go_wp2_with fail
  refine (Verify_any _ _ 3 2 (sibsB labc 2) _ _ (by decide) (by decide) (HO8.out.list (sibs_short _ _)) (HT.out _ HB8.out)).mono ?_
  rintro e w9 ⟨rfl, hB9⟩
  rw [sane_v2]
  have HO9 := Lib.hid (HO8.out.below hB9)
  have HX9 := Lib.hid (HX8.out.below hB9)
  have HB9 := Lib.hid (HB8.out.trans (hB9.mono HB8.out.size))
  clear hB9
  go_wp2_with fail
  refine (Root_any _ [⟨#[97]⟩] _ (HLL1.out _ HB9.out) (HT.out _ HB9.out)).mono ?_
  rintro e w10 ⟨rfl, hB10⟩
  have HO10 := Lib.hid (HO9.out.below hB10)
  have HX10 := Lib.hid (HX9.out.below hB10)
  have HB10 := Lib.hid (HB9.out.trans (hB10.mono HB9.out.size))
  clear hB10
  go_wp2_with fail
  refine (VerifyExtension_any _ _ 1 3 (extL labc 1) _ _ (by decide) (HX10.out.list (extL_short _ _ (by decide))) (HT.out _ HB10.out)).mono ?_
  rintro e w11 ⟨rfl, hB11⟩
  rw [sane_v3]
  have HO11 := Lib.hid (HO10.out.below hB11)
  have HX11 := Lib.hid (HX10.out.below hB11)
  have HB11 := Lib.hid (HB10.out.trans (hB11.mono HB10.out.size))
  clear hB11
  go_wp2_with fail
  refine (Root_any _ [⟨#[97]⟩, ⟨#[98]⟩] _ (HLL2.out _ HB11.out) (HT.out _ HB11.out)).mono ?_
  rintro e w12 ⟨rfl, hB12⟩
  have HO12 := Lib.hid (HO11.out.below hB12)
  have HX12 := Lib.hid (HX11.out.below hB12)
  have HB12 := Lib.hid (HB11.out.trans (hB12.mono HB11.out.size))
  clear hB12
  go_wp2_with fail
  refine (VerifyExtension_any _ _ 1 3 (extL labc 1) _ _ (by decide) (HX12.out.list (extL_short _ _ (by decide))) (HT.out _ HB12.out)).mono ?_
  rintro e w13 ⟨rfl, hB13⟩
  rw [sane_v4]
  have HO13 := Lib.hid (HO12.out.below hB13)
  have HX13 := Lib.hid (HX12.out.below hB13)
  have HB13 := Lib.hid (HB12.out.trans (hB13.mono HB12.out.size))
  clear hB13
  go_wp2_with fail
  go_ret
  exact ⟨rfl, HW0.out.trans (HB13.out.mono HW0.out.size)⟩
end Go.Proofs.YtlnlhjkdbpkaiaaDoor
