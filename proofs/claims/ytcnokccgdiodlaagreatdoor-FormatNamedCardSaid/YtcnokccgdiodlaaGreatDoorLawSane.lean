/- The law's examples come out as the chapter says: sane returns true. Conditions: what the functions of texts read of memory. And the law's pick. -/
import Derived.Test.YtcnokccgdiodlaaGreatDoorLawEx
import Derived.Test.YtcnokccgdiodlaaGreatDoorRefF
namespace Go.Proofs.YtcnokccgdiodlaaGreatDoor
open Go.RowKit Go.Shelf Fx Go.Sort

set_option maxRecDepth 100000 in
set_option maxHeartbeats 4000000 in
theorem sane_any (er : Addr) (w : World) (hT : Txt w er) : Calls Tryz.prog 11 #[] w fun e w' => e = .returned (.bool true) ∧ Below w.heap.size w w' := by
  have HT := Lib.hid hT
  clear hT
  go_enter Tryz.func11, Tryz.ntmps11
  go_wp2_with fail
  refine (parseA_any er w HT.out).mono ?_
  rintro e w1 ⟨⟨a1, c1, rfl, h1⟩, hB⟩
  have B1 : Hid (Below w.heap.size w w1) := Lib.hid hB
  have L1 := Lib.hid h1
  clear hB h1
  go_wp2_with fail
  refine (parseM_any er w1 (HT.out.below B1.out)).mono ?_
  rintro e w2 ⟨⟨a2, o2, c2, rfl, h2, k1, k2⟩, hB⟩
  have B2 : Hid (Below w.heap.size w w2) := Lib.hid (B1.out.trans (hB.mono B1.out.size))
  have L1' := Lib.hid (L1.out.below hB)
  have M1 := Lib.hid h2
  clear hB h2 L1 B1
  go_wp2_with fail
  refine (parseB_any er w2 (HT.out.below B2.out)).mono ?_
  rintro e w3 ⟨rfl, hB⟩
  have B3 : Hid (Below w.heap.size w w3) := Lib.hid (B2.out.trans (hB.mono B2.out.size))
  have L1 := Lib.hid (L1'.out.below hB)
  have M2 := Lib.hid (M1.out.below hB)
  clear hB L1' M1 B2
  go_wp2_with fail
  refine (parseD_any er w3 (HT.out.below B3.out)).mono ?_
  rintro e w4 ⟨rfl, hB⟩
  have B4 : Hid (Below w.heap.size w w4) := Lib.hid (B3.out.trans (hB.mono B3.out.size))
  have L1' := Lib.hid (L1.out.below hB)
  have M1 := Lib.hid (M2.out.below hB)
  clear hB L1 M2 B3
  go_wp2_with fail
  refine (parseE_any er w4 (HT.out.below B4.out)).mono ?_
  rintro e w5 ⟨⟨a3, c3, rfl⟩, hB⟩
  have B5 : Hid (Below w.heap.size w w5) := Lib.hid (B4.out.trans (hB.mono B4.out.size))
  have L1 := Lib.hid (L1'.out.below hB)
  have M2 := Lib.hid (M1.out.below hB)
  clear hB L1' M1 B4
  go_wp2_with fail
  refine (parseK_any er w5 (HT.out.below B5.out)).mono ?_
  rintro e w6 ⟨rfl, hB⟩
  have B6 : Hid (Below w.heap.size w w6) := Lib.hid (B5.out.trans (hB.mono B5.out.size))
  have L1' := Lib.hid (L1.out.below hB)
  have M1 := Lib.hid (M2.out.below hB)
  clear hB L1 M2 B5
  go_wp2_with fail
  refine (Print_any _ [F2] (bs exA) 0 er w6 (HT.out.below B6.out) L1'.out ints_F2 (by unfold printT; rw [vd_A, if_pos rfl, text_A]) (by unfold printE; rw [vd_A, if_pos rfl])).mono ?_
  rintro e w7 ⟨rfl, hB⟩
  have B7 : Hid (Below w.heap.size w w7) := Lib.hid (B6.out.trans (hB.mono B6.out.size))
  have L1 := Lib.hid (L1'.out.below hB)
  have M2 := Lib.hid (M1.out.below hB)
  clear hB L1' M1 B6
  go_wp2_with fail
  refine (find7_any _ w7 M2.out).mono ?_
  rintro e w8 ⟨⟨x1, x2, x3, rfl⟩, hB⟩
  have B8 : Hid (Below w.heap.size w w8) := Lib.hid (B7.out.trans (hB.mono B7.out.size))
  have L1' := Lib.hid (L1.out.below hB)
  have M1 := Lib.hid (M2.out.below hB)
  clear hB L1 M2 B7
  go_wp2_with fail
  obtain ⟨w9, hw9⟩ : ∃ w9, w9 = w8.alloc (.cells #[.int .i64 7, .slice x1 x2 x3] 34) := ⟨_, rfl⟩
  rw [← hw9]
  have hB : Below w8.heap.size w8 w9 := by rw [hw9]; exact bx _
  have B9 : Hid (Below w.heap.size w w9) := Lib.hid (B8.out.trans (hB.mono B8.out.size))
  have L1 := Lib.hid (L1'.out.below hB)
  have M2 := Lib.hid (M1.out.below hB)
  clear hB L1' M1 B8 hw9
  refine (find8_any _ w9 M2.out).mono ?_
  rintro e wa ⟨rfl, hB⟩
  have B8 : Hid (Below w.heap.size w wa) := Lib.hid (B9.out.trans (hB.mono B9.out.size))
  have L1' := Lib.hid (L1.out.below hB)
  have M1 := Lib.hid (M2.out.below hB)
  clear hB L1 M2 B9
  go_wp2_with fail
  obtain ⟨wb, hwb⟩ : ∃ wb, wb = wa.alloc (.cells #[.int .i64 0, .slice none 0 0] 34) := ⟨_, rfl⟩
  rw [← hwb]
  have hB : Below wa.heap.size wa wb := by rw [hwb]; exact bx _
  have B9 : Hid (Below w.heap.size w wb) := Lib.hid (B8.out.trans (hB.mono B8.out.size))
  have L1 := Lib.hid (L1'.out.below hB)
  have M2 := Lib.hid (M1.out.below hB)
  clear hB L1' M1 B8 hwb
  refine (Least_any _ [F2, F7] 2 4 er wb (HT.out.below B9.out).err M2.out ints_M (by decide) (by decide) least_2).mono ?_
  rintro e wx ⟨rfl, hB⟩
  have Bx : Hid (Below w.heap.size w wx) := Lib.hid (B9.out.trans (hB.mono B9.out.size))
  have Lx := Lib.hid (L1.out.below hB)
  have Mx := Lib.hid (M2.out.below hB)
  clear hB L1 M2 B9
  go_wp2_with fail
  refine (Least_any _ [F2, F7] 7 6 er wx (HT.out.below Bx.out).err Mx.out ints_M (by decide) (by decide) least_7).mono ?_
  rintro e wy ⟨rfl, hB⟩
  have By : Hid (Below w.heap.size w wy) := Lib.hid (Bx.out.trans (hB.mono Bx.out.size))
  have Ly := Lib.hid (Lx.out.below hB)
  have My := Lib.hid (Mx.out.below hB)
  clear hB Lx Mx Bx
  go_wp2_with fail
  refine (Valid_any _ [F2, F7] true er wy (HT.out.below By.out).err My.out ints_M vd_M).mono ?_
  rintro e wz ⟨rfl, hB⟩
  have Bz : Hid (Below w.heap.size w wz) := Lib.hid (By.out.trans (hB.mono By.out.size))
  have Lz := Lib.hid (Ly.out.below hB)
  have Mz := Lib.hid (My.out.below hB)
  clear hB Ly My By
  go_wp2_with fail
  refine (Same_any _ _ [F2] [F2, F7] false wz Lz.out Mz.out (by decide)).mono ?_
  rintro e wu ⟨rfl, hB⟩
  have Bu : Hid (Below w.heap.size w wu) := Lib.hid (Bz.out.trans (hB.mono Bz.out.size))
  have Lu := Lib.hid (Lz.out.below hB)
  have Mu := Lib.hid (Mz.out.below hB)
  clear hB Lz Mz Bz
  go_wp2_with fail
  refine (Same_any _ _ [F2] [F2] true wu Lu.out (FmsAt.take (k := 1) Mu.out (by decide)) (by decide)).mono ?_
  rintro e wv ⟨rfl, hB⟩
  have Bv : Hid (Below w.heap.size w wv) := Lib.hid (Bu.out.trans (hB.mono Bu.out.size))
  have Lv := Lib.hid (Lu.out.below hB)
  have Mv := Lib.hid (Mu.out.below hB)
  clear hB Lu Mu Bu
  go_wp2_with fail
  refine (Valid_any _ [zm] false er _ (HT.out.below (Bv.out.alloc Bv.out.size _)).err (zms_at wv) ints_Z vd_Z).mono ?_
  rintro e wq ⟨rfl, hB⟩
  have BQ : Hid (Below w.heap.size w wq) := Lib.hid ((Bv.out.alloc Bv.out.size _).trans (hB.mono (Bv.out.alloc Bv.out.size _).size))
  clear hB Lv Mv Bv
  go_wp2_with fail
  go_ret
  exact ⟨rfl, BQ.out⟩
theorem lpick_any (c n r : Int) (w : World) (c1 : -9223372036854775808 ≤ c) (c2 : c ≤ 9223372036854775807) (n1 : 1 ≤ n) (n2 : n ≤ 9223372036854775807) (hr : pickI c n = r) :
    Calls Tryz.prog 15 #[.int .i64 c, .int .i64 n] w fun e w' => e = .returned (.int .i64 r) ∧ w' = w := by
  subst hr
  unfold pickI
  by_cases h : c < 0
  · rw [if_pos h]
    have e1 : (-(c + 1)).tmod n = (-(c + 1)) % n := Int.tmod_eq_emod_of_nonneg (by omega)
    go_enter Tryz.func15, Tryz.ntmps15
    go_wp2_with fail
    go_ret
    exact ⟨rfl, rfl⟩
  · rw [if_neg h]
    have e1 : c.tmod n = c % n := Int.tmod_eq_emod_of_nonneg (by omega)
    go_enter Tryz.func15, Tryz.ntmps15
    go_wp2_with fail
    go_ret
    exact ⟨rfl, rfl⟩
end Go.Proofs.YtcnokccgdiodlaaGreatDoor
