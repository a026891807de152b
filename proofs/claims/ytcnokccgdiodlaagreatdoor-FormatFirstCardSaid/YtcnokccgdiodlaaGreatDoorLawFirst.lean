/- The law FormatFirst: it returns true. Conditions: a list of four-number rows that can be read; an int; what the functions of texts read of memory. -/
import Derived.Test.YtcnokccgdiodlaaGreatDoorLawSane
import Derived.Test.YtcnokccgdiodlaaGreatDoorLawTabs
import Derived.Test.YtcnokccgdiodlaaGreatDoorRefI
import Derived.Lib.QuietBelow
namespace Go.Proofs.YtcnokccgdiodlaaGreatDoor
open Go.RowKit Go.Shelf Fx Go.Sort

set_option maxRecDepth 100000 in
set_option maxHeartbeats 4000000 in
theorem first_law (v : Value) (n : Nat) (c : Int) (er : Addr) (w : World) (hQ : QsAt w v n) (c1 : -9223372036854775808 ≤ c) (c2 : c ≤ 9223372036854775807) (hT : Txt w er) :
    Calls Tryz.prog 8 #[v, .int .i64 c] w fun e w' => e = .returned (.bool true) ∧ Below w.heap.size w w' := by
  have HT := Lib.hid hT
  have HQ := Lib.hid (And.intro hQ (And.intro c1 c2))
  clear hT hQ c1 c2
  go_enter Tryz.func8, Tryz.ntmps8
  go_wp2_with fail
  refine (sane_any er w HT.out).mono ?_
  rintro e w1 ⟨rfl, hB⟩
  have B1 : Hid (Below w.heap.size w w1) := Lib.hid hB
  clear hB
  go_wp2_with fail
  refine (rMake_any v n w1 (HQ.out.1.below B1.out)).mono ?_
  rintro e w2 ⟨⟨u, L, rfl, hM, vs, hO⟩, hB⟩
  have B2 : Hid (Below w.heap.size w w2) := Lib.hid (B1.out.trans (hB.mono B1.out.size))
  have hV := hO.fms
  obtain ⟨m, hm⟩ : ∃ m, m = L.length := ⟨_, rfl⟩
  have hm6 : m ≤ 6 := by rw [hm]; exact hM.few
  have hcases : u = .slice none 0 0 ∧ m = 0 ∨ ∃ b cp, u = .slice (some ⟨b, 0, none⟩) m cp ∧ m ≤ cp ∧ cp ≤ 9223372036854775807 := by
    rcases hO.row.2 with ⟨h, h0⟩ | ⟨g, cap, cur, rfl, _, _, hl, hx, _⟩
    · exact .inl ⟨h, by omega⟩
    · exact .inr ⟨g, cap, by rw [hm], by omega, by unfold maxLen at hx; omega⟩
  have HM := Lib.hid (And.intro hM (And.intro hm hV))
  clear hB hO hV hM hm B1
  obtain ⟨k, hk⟩ : ∃ k, pickI c ((m : Int) + 1) = k := ⟨_, rfl⟩
  have hk0 : 0 ≤ k := by rw [← hk]; exact pickI_lo (by omega)
  have hk1 : k < (m : Int) + 1 := by rw [← hk]; exact pickI_hi (by omega)
  obtain ⟨q, rfl⟩ : ∃ q : Nat, k = q := ⟨k.toNat, by omega⟩
  have hqm : q ≤ m := by omega
  have HK := Lib.hid hk
  clear hk hk0 hk1
  have hvd : Hid (vd L = true) := Lib.hid (vd_iff.2 HM.out.1.ok)
  have hvt : Hid (vd (L.take q) = true) := Lib.hid (vd_iff.2 (HM.out.1.ok.take q))
  have hIL : Hid (IntsL L) := Lib.hid HM.out.1.ints
  have hIT : Hid (IntsL (L.take q)) := Lib.hid fun i hi => by
    rw [List.length_take] at hi
    rw [getD_take (by omega)]
    exact HM.out.1.ints i (by omega)
  rcases hcases with ⟨rfl, rfl⟩ | ⟨b, cp, rfl, h1, h2⟩
  · obtain rfl : q = 0 := by omega
    go_wp2_with fail
    refine (lpick_any c _ _ w2 HQ.out.2.1 HQ.out.2.2 (by omega) (by omega) HK.out).mono ?_
    rintro e w' ⟨rfl, rfl⟩
    obtain ⟨w2, rfl⟩ : ∃ w2, w2 = w' := ⟨_, rfl⟩
    go_wp2_with fail
    refine (Valid_any _ L true er w2 (HT.out.below B2.out).err HM.out.2.2 hIL.out hvd.out).mono ?_
    rintro e w3 ⟨rfl, hB⟩
    have B3 : Hid (Below w.heap.size w w3) := Lib.hid (B2.out.trans (hB.mono B2.out.size))
    have V3 := Lib.hid (HM.out.2.2.below hB)
    clear hB B2
    go_wp2_with fail
    refine (Valid_any _ (L.take 0) true er w3 (HT.out.below B3.out).err (FmsAt.take V3.out (Nat.zero_le _)) hIT.out hvt.out).mono ?_
    rintro e w4 ⟨rfl, hB⟩
    have B4 : Hid (Below w.heap.size w w4) := Lib.hid (B3.out.trans (hB.mono B3.out.size))
    clear hB B3 V3
    go_wp2_with fail
    refine wp_loop_rounds 1 ?_
    rw [rounds_succ]
    go_wp2_with fail
    go_ret
    exact ⟨rfl, B4.out⟩
  · go_wp2_with fail
    refine (lpick_any c _ _ w2 HQ.out.2.1 HQ.out.2.2 (by omega) (by omega) HK.out).mono ?_
    rintro e w' ⟨rfl, rfl⟩
    obtain ⟨w2, rfl⟩ : ∃ w2, w2 = w' := ⟨_, rfl⟩
    go_wp2_with fail
    refine (Valid_any _ L true er w2 (HT.out.below B2.out).err HM.out.2.2 hIL.out hvd.out).mono ?_
    rintro e w3 ⟨rfl, hB⟩
    have B3 : Hid (Below w.heap.size w w3) := Lib.hid (B2.out.trans (hB.mono B2.out.size))
    have V3 := Lib.hid (HM.out.2.2.below hB)
    clear hB B2
    go_wp2_with fail
    refine (Valid_any _ (L.take q) true er w3 (HT.out.below B3.out).err (FmsAt.take V3.out (by rw [← HM.out.2.1]; exact hqm)) hIT.out hvt.out).mono ?_
    rintro e w4 ⟨rfl, hB⟩
    have B4 : Hid (Below w.heap.size w w4) := Lib.hid (B3.out.trans (hB.mono B3.out.size))
    have V4 := Lib.hid (V3.out.below hB)
    clear hB B3 V3
    go_wp2_with fail
    go_loopw [8] (fun i wr => ∃ x : Nat, x ≤ m ∧ i = .int .i64 x ∧ Hid (Below w.heap.size w wr ∧ FmsAt (· < wr.heap.size) wr (.slice (some ⟨b, 0, none⟩) m cp) L)) (fun i _ => m - (intOf i).toNat)
    case atStart => exact ⟨0, Nat.zero_le _, rfl, Lib.hid ⟨B4.out, V4.out⟩⟩
    case round =>
      obtain ⟨x, hx, rfl, HI⟩ := hrel
      by_cases hxm : x < m
      · have hxl : x < L.length := by have := HM.out.2.1; omega
        obtain ⟨b', off', e0, -, -, lb, -, -, hfm⟩ := HI.out.2.at_ (by omega)
        cases e0
        obtain ⟨u0, hu⟩ := hfm x hxl
        have c0 := hu.c0
        have hid := (HM.out.1.ints x hxl).1
        obtain ⟨X, hX⟩ : ∃ X, X = (L.getD x zm).id := ⟨_, rfl⟩
        rw [← hX] at c0 hid
        rw [Nat.zero_add] at c0
        obtain ⟨R, hR⟩ : ∃ R, least L X = R := ⟨_, rfl⟩
        have HX := Lib.hid (And.intro hX hR)
        have HID := Lib.hid hid
        have lb2 := World.block_lt_of_cell? (h := c0)
        clear hX hR hu hfm hid
        go_wp2_with fail
        refine (Least_any _ L X R er wr (HT.out.below HI.out.1).err HI.out.2 hIL.out HID.out.1 HID.out.2 HX.out.2).mono ?_
        rintro e w5 ⟨rfl, hB⟩
        have c0' := (hB.cell (p := ⟨b, x * 2, none⟩) lb2).trans c0
        have HJ : Hid (Below w.heap.size w w5 ∧ FmsAt (· < w5.heap.size) w5 (.slice (some ⟨b, 0, none⟩) m cp) L) := Lib.hid ⟨HI.out.1.trans (hB.mono HI.out.1.size), HI.out.2.below hB⟩
        clear hB c0 HI lb2 lb
        have hfl : Hid (least (L.take q) X = if x < q then R else 0) := Lib.hid (by
          rw [← HX.out.2, HX.out.1]; exact first_least HM.out.1.ok hxl)
        have HL : Hid (∀ d os, ∀ r, least (L.take q) X = r → Calls Tryz.prog 19 #[.slice (some ⟨b, 0, none⟩) q cp, .int .i64 X] (grow (redrawn w5 d) os) fun e w' => e = .returned (.int .i64 r) ∧ Below (grow (redrawn w5 d) os).heap.size (grow (redrawn w5 d) os) w') := Lib.hid fun d os r hr =>
          Least_any _ (L.take q) X r er _ ((HT.out.below HJ.out.1).below (below_regrown w5 d os)).err ((FmsAt.take HJ.out.2 (by rw [← HM.out.2.1]; exact hqm)).below (below_regrown w5 d os)) hIT.out HID.out.1 HID.out.2 hr
        have g0 := fun d os => cell_regrown c0' d os
        by_cases hxq : x < q
        · have hf1 : Hid (least (L.take q) X = R) := Lib.hid (by rw [hfl.out, if_pos hxq])
          have d1 : ¬ (q : Int) ≤ (x : Int) := by omega
          clear hfl c0'
          go_wp2_with fail
          refine wp_region_quiet_below (by kernel_rfl) (by kernel_rfl) ?_
          repeat (first | go_big_quiet_step (first | (go_at_call 19; exact Calls.regrown_of (HL.out _ _ _ hf1.out))) | quiet_step (first | (go_at_call 19; exact Calls.regrown_of (HL.out _ _ _ hf1.out))))
          refine wpQuiet_nil ?_
          intro _ hw'
          obtain ⟨⟨dq, osq⟩, hw''⟩ := hw'
          subst hw''
          have HE : Hid (Below w.heap.size w (grow (redrawn w5 dq) osq) ∧ FmsAt (· < (grow (redrawn w5 dq) osq).heap.size) (grow (redrawn w5 dq) osq) (.slice (some ⟨b, 0, none⟩) m cp) L) := Lib.hid ⟨HJ.out.1.trans ((below_regrown w5 dq osq).mono HJ.out.1.size), HJ.out.2.below (below_regrown w5 dq osq)⟩
          clear HL g0 HJ
          go_wp2_with fail
          exact ⟨⟨x + 1, by omega, by go_num, HE⟩, by simp [intOf]; omega⟩
        · have hf1 : Hid (least (L.take q) X = 0) := Lib.hid (by rw [hfl.out, if_neg hxq])
          have d1 : (q : Int) ≤ (x : Int) := by omega
          clear hfl c0'
          go_wp2_with fail
          refine wp_region_quiet_below (by kernel_rfl) (by kernel_rfl) ?_
          repeat (first | go_big_quiet_step (first | (go_at_call 19; exact Calls.regrown_of (HL.out _ _ _ hf1.out))) | quiet_step (first | (go_at_call 19; exact Calls.regrown_of (HL.out _ _ _ hf1.out))))
          refine wpQuiet_nil ?_
          intro _ hw'
          obtain ⟨⟨dq, osq⟩, hw''⟩ := hw'
          subst hw''
          have HE : Hid (Below w.heap.size w (grow (redrawn w5 dq) osq) ∧ FmsAt (· < (grow (redrawn w5 dq) osq).heap.size) (grow (redrawn w5 dq) osq) (.slice (some ⟨b, 0, none⟩) m cp) L) := Lib.hid ⟨HJ.out.1.trans ((below_regrown w5 dq osq).mono HJ.out.1.size), HJ.out.2.below (below_regrown w5 dq osq)⟩
          clear HL g0 HJ
          go_wp2_with fail
          exact ⟨⟨x + 1, by omega, by go_num, HE⟩, by simp [intOf]; omega⟩
      · obtain rfl : x = m := by omega
        go_wp2_with fail
        go_ret
        exact ⟨rfl, HI.out.1⟩
end Go.Proofs.YtcnokccgdiodlaaGreatDoor
