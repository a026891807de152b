/- The reference's Same. Conditions: the formats are readable. -/
import Derived.Test.YtcnokccgdiodlaaGreatDoorRefF
import Derived.BigQuiet
import Derived.Deep.QuietTactic
namespace Go.Proofs.YtcnokccgdiodlaaGreatDoor
open Go.RowKit Go.Shelf Fx Go.Sort

set_option maxRecDepth 100000 in
set_option maxHeartbeats 2000000 in
theorem rSame_any (v1 v2 : Value) (l k : List Fm) (q : Bool) (w : World) (h1 : FmsAt (· < w.heap.size) w v1 l) (h2 : FmsAt (· < w.heap.size) w v2 k) (hq : decide (l = k) = q) :
    Calls Tryz.prog 18 #[v1, v2] w fun e w' => e = .returned (.bool q) ∧ Below w.heap.size w w' := by
  obtain ⟨a1, c1, rfl, k1⟩ := h1.slice_
  obtain ⟨a2, c2, rfl, k2⟩ := h2.slice_
  obtain ⟨n, hn⟩ : ∃ n, n = l.length := ⟨_, rfl⟩
  obtain ⟨m, hm⟩ : ∃ m, m = k.length := ⟨_, rfl⟩
  rw [← hn] at h1 k1 ⊢
  rw [← hm] at h2 k2 ⊢
  have H := Lib.hid (And.intro (And.intro h1 h2) (And.intro (And.intro hn hm) hq))
  unfold maxLen at k1 k2
  clear h1 h2 hn hm hq
  by_cases hnm : n = m
  · have d1 : ((n : Int) == (m : Int)) = true := by rw [beq_iff_eq]; omega
    subst hnm
    go_enter Tryz.func18, Tryz.ntmps18
    go_wp2_with fail
    go_loopw [5] (fun i wr => ∃ j : Nat, j ≤ n ∧ i = .int .i64 j ∧ Hid (Below w.heap.size w wr ∧ l.take j = k.take j)) (fun i _ => n - (intOf i).toNat)
    case atStart => exact ⟨0, Nat.zero_le _, rfl, Lib.hid ⟨Below.refl _ _, rfl⟩⟩
    case round =>
      obtain ⟨j, hj, rfl, HI⟩ := hrel
      obtain ⟨wo, rfl⟩ : ∃ wo : World, wo = wr := ⟨_, rfl⟩
      by_cases hlt : j < n
      · have l1 : j < l.length := by have := H.out.2.1.1; omega
        have l2 : j < k.length := by have := H.out.2.1.2; omega
        obtain ⟨b1, o1, rfl, -, pb1, -, m1, m2, f1⟩ := H.out.1.1.at_ (by omega)
        obtain ⟨b2, o2, rfl, -, pb2, -, m3, m4, f2⟩ := H.out.1.2.at_ (by omega)
        obtain ⟨f, hf⟩ : ∃ f, f = l.getD j zm := ⟨_, rfl⟩
        obtain ⟨g, hg⟩ : ∃ g, g = k.getD j zm := ⟨_, rfl⟩
        obtain ⟨u1, x1⟩ := f1 j l1
        obtain ⟨u2, x2⟩ := f2 j l2
        rw [← hf] at x1
        rw [← hg] at x2
        have hK := Kept.of_below (P := (· < w.heap.size)) HI.out.1 fun _ h => h
        have y1 := x1.kept hK pb1
        have y2 := x2.kept hK pb2
        obtain ⟨uo1, uc1, rfl, e1⟩ := y1.fs.slice_
        obtain ⟨uo2, uc2, rfl, e2⟩ := y2.fs.slice_
        obtain ⟨nf, hnf⟩ : ∃ nf, nf = f.fs.length := ⟨_, rfl⟩
        obtain ⟨ng, hng⟩ : ∃ ng, ng = g.fs.length := ⟨_, rfl⟩
        rw [← hnf] at x1 y1 e1
        rw [← hng] at x2 y2 e2
        have p0 := y1.c0
        have p1 := y1.c1
        have r0 := y2.c0
        have r1 := y2.c1
        have z1 := World.block_lt_of_cell? (h := p0)
        have z2 := World.block_lt_of_cell? (h := r0)
        have HFG := Lib.hid (And.intro hf (And.intro hg (And.intro x1 (And.intro x2 (And.intro hnf hng)))))
        obtain ⟨X, hX⟩ : ∃ X, X = (decide (f.id ≠ g.id) || decide (nf ≠ ng)) := ⟨_, rfl⟩
        have HX := Lib.hid hX
        unfold maxLen at m2 m4 e1 e2
        have hnf2 : nf ≤ 9223372036854775807 := by omega
        have hng2 : ng ≤ 9223372036854775807 := by omega
        clear f1 f2 hf hg x1 x2 y1 y2 hK hnf hng hX e1 e2
        go_upto_region 6 with fail
        go_cut [43] from 18 to 43 (fun vc wx => vc = .bool X ∧ Below wo.heap.size wo wx)
        case first =>
          have g0 := fun d os => cell_regrown p0 d os
          have g1 := fun d os => cell_regrown p1 d os
          have g2 := fun d os => cell_regrown r0 d os
          have g3 := fun d os => cell_regrown r1 d os
          clear p0 p1 r0 r1
          by_cases hid : f.id = g.id
          · have d2 : ((f.id : Int) != g.id) = false := by simpa using hid
            by_cases hln : nf = ng
            · have d3 : ((nf : Int) != (ng : Int)) = false := by simp; omega
              have HP : Hid (X = false) := Lib.hid (by rw [HX.out]; simp [hid, hln])
              clear hid hln
              refine wp_region_quiet_below (by kernel_rfl) (by kernel_rfl) ?_
              repeat (first | go_big_quiet_step (fail) | quiet_step (fail))
              refine wpQuiet_nil ?_
              intro _ hw'
              obtain ⟨⟨dq, osq⟩, hw''⟩ := hw'
              subst hw''
              go_wp2
              go_meet
              case rel => exact ⟨by rw [HP.out], below_regrown _ _ _⟩
            · have d3 : ((nf : Int) != (ng : Int)) = true := by simp; omega
              have HP : Hid (X = true) := Lib.hid (by rw [HX.out]; simp [hid, hln])
              clear hid hln
              refine wp_region_quiet_below (by kernel_rfl) (by kernel_rfl) ?_
              repeat (first | go_big_quiet_step (fail) | quiet_step (fail))
              refine wpQuiet_nil ?_
              intro _ hw'
              obtain ⟨⟨dq, osq⟩, hw''⟩ := hw'
              subst hw''
              go_wp2
              go_meet
              case rel => exact ⟨by rw [HP.out], below_regrown _ _ _⟩
          · have d2 : ((f.id : Int) != g.id) = true := by simpa using hid
            have HP : Hid (X = true) := Lib.hid (by rw [HX.out]; simp [hid])
            clear hid
            refine wp_region_quiet_below (by kernel_rfl) (by kernel_rfl) ?_
            repeat (first | go_big_quiet_step (fail) | quiet_step (fail))
            refine wpQuiet_nil ?_
            intro _ hw'
            obtain ⟨⟨dq, osq⟩, hw''⟩ := hw'
            subst hw''
            go_wp2
            go_meet
            case rel => exact ⟨by rw [HP.out], below_regrown _ _ _⟩
        case rest =>
          obtain ⟨rfl, hbc⟩ := hcut
          have HBC := Lib.hid (HI.out.1.trans (hbc.mono HI.out.1.size))
          have HIT := Lib.hid HI.out.2
          clear HI p0 p1 r0 r1 hbc
          cases X with
          | true =>
            have HP : Hid (q = false) := Lib.hid (by
              rw [← H.out.2.2]
              refine decide_eq_false fun e => ?_
              have h := HX.out
              have e2 : f = g := by rw [HFG.out.1, HFG.out.2.1, e]
              rw [HFG.out.2.2.2.2.1, HFG.out.2.2.2.2.2, e2] at h
              simp at h)
            go_wp2_with fail
            go_ret
            exact ⟨by rw [HP.out]; rfl, HBC.out⟩
          | false =>
            have hid : f.id = g.id ∧ nf = ng := by
              have h := HX.out.symm
              simpa using h
            obtain ⟨hid, hln⟩ := hid
            subst hln
            have HID := Lib.hid hid
            clear hid
            go_wp2_with fail
            go_loopw [6] (fun i wr => ∃ t : Nat, t ≤ nf ∧ i = .int .i64 t ∧ Hid (Below w.heap.size w wr ∧ f.fs.take t = g.fs.take t)) (fun i _ => nf - (intOf i).toNat)
            case atStart => exact ⟨0, Nat.zero_le _, rfl, Lib.hid ⟨HBC.out, rfl⟩⟩
            case round =>
              obtain ⟨t, ht, rfl, HT⟩ := hrel
              have hK := Kept.of_below (P := (· < w.heap.size)) HT.out.1 fun _ h => h
              have y1 := HFG.out.2.2.1.kept hK pb1
              have y2 := HFG.out.2.2.2.1.kept hK pb2
              have p1 := y1.c1
              have r1 := y2.c1
              have z3 := World.block_lt_of_cell? (h := p1)
              have z4 := World.block_lt_of_cell? (h := r1)
              by_cases htn : t < nf
              · obtain ⟨fb1, fo1, rfl, -, lf1, n1, n2, q1⟩ := y1.fs.at_ (by have := HFG.out.2.2.2.2.1; omega)
                obtain ⟨fb2, fo2, rfl, -, lf2, n3, n4, q2⟩ := y2.fs.at_ (by have := HFG.out.2.2.2.2.2; omega)
                have l3 : t < f.fs.length := by have := HFG.out.2.2.2.2.1; omega
                have l4 : t < g.fs.length := by have := HFG.out.2.2.2.2.2; omega
                obtain ⟨x, hx⟩ : ∃ x, x = f.fs.getD t zf := ⟨_, rfl⟩
                obtain ⟨y, hy⟩ : ∃ y, y = g.fs.getD t zf := ⟨_, rfl⟩
                have s1 := q1 t l3
                have s2 := q2 t l4
                rw [← hx] at s1
                rw [← hy] at s2
                obtain ⟨s10, s11, s12, s13⟩ := s1
                obtain ⟨s20, s21, s22, s23⟩ := s2
                obtain ⟨v, hv⟩ : ∃ v, (!decide (x = y)) = v := ⟨_, rfl⟩
                have hrun := eqFld_run x y v hv
                have hgu := eqGuard_fld
                have HXY := Lib.hid (And.intro hx (And.intro hy hv))
                unfold maxLen at n2 n4
                clear q1 q2 hx hy hv y1 y2 hK
                go_wp2_with fail
                go_region
                cases v with
                | true =>
                  have HP : Hid (q = false) := Lib.hid (by
                    rw [← H.out.2.2]
                    refine decide_eq_false fun e => ?_
                    have h := HXY.out.2.2
                    have e2 : f = g := by rw [HFG.out.1, HFG.out.2.1, e]
                    rw [HXY.out.1, HXY.out.2.1, e2] at h
                    simp at h)
                  have HB := Lib.hid HT.out.1
                  clear HT HXY hrun hgu
                  go_wp2_with fail
                  go_ret
                  exact ⟨by rw [HP.out]; rfl, HB.out.drew⟩
                | false =>
                  have HN : Hid (Below w.heap.size w wr.drew ∧ f.fs.take (t + 1) = g.fs.take (t + 1)) := Lib.hid ⟨HT.out.1.drew, by
                    have h := HXY.out.2.2
                    simp at h
                    rw [take_succ_getD _ zf t l3, take_succ_getD _ zf t l4, HT.out.2, ← HXY.out.1, ← HXY.out.2.1, h]⟩
                  clear HT HXY hrun hgu
                  go_wp2_with fail
                  go_roundw
                  case rel => exact ⟨t + 1, by omega, by go_num, HN⟩
                  case measure => simp [intOf]; omega
              · obtain rfl : t = nf := by omega
                have HN : Hid (Below w.heap.size w wr ∧ l.take (j + 1) = k.take (j + 1)) := Lib.hid ⟨HT.out.1, by
                  have h := HT.out.2
                  rw [List.take_of_length_le (by have := HFG.out.2.2.2.2.1; omega), List.take_of_length_le (by have := HFG.out.2.2.2.2.2; omega)] at h
                  have e : f = g := by
                    have h1 := HID.out
                    cases f; cases g; simp_all
                  rw [take_succ_getD _ zm j l1, take_succ_getD _ zm j l2, HIT.out, ← HFG.out.1, ← HFG.out.2.1, e]⟩
                clear HT y1 y2 hK
                go_wp2_with fail
                go_roundw
                case rel => exact ⟨j + 1, by omega, by go_num, HN⟩
                case measure => simp [intOf]; omega
      · obtain rfl : j = n := by omega
        have HP : Hid (q = true) := Lib.hid (by
          rw [← H.out.2.2]
          have h := HI.out.2
          rw [List.take_of_length_le (by have := H.out.2.1.1; omega), List.take_of_length_le (by have := H.out.2.1.2; omega)] at h
          exact decide_eq_true h)
        have HB := Lib.hid HI.out.1
        clear HI
        go_wp2_with fail
        go_ret
        exact ⟨by rw [HP.out]; rfl, HB.out⟩
  · have d1 : ((n : Int) == (m : Int)) = false := by rw [beq_eq_false_iff_ne]; omega
    have HP : Hid (q = false) := Lib.hid (by
      rw [← H.out.2.2]
      refine decide_eq_false fun e => hnm ?_
      rw [H.out.2.1.1, H.out.2.1.2, e])
    go_enter Tryz.func18, Tryz.ntmps18
    go_wp2_with fail
    go_ret
    exact ⟨by rw [HP.out]; rfl, Below.refl _ _⟩
end Go.Proofs.YtcnokccgdiodlaaGreatDoor
