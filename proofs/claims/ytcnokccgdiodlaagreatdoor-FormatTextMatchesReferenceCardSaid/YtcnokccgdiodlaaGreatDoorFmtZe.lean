/- Same. Conditions: the lists are readable. -/
import Derived.Test.YtcnokccgdiodlaaGreatDoorFmtZd
namespace Go.Proofs.YtcnokccgdiodlaaGreatDoor
open Go.RowKit Go.Shelf Fx Go.Sort

theorem sameM1_any (f g : Fm) (u1 u2 : Value) (q : Bool) (w : World) (h1 : FldsAt w u1 f.fs) (h2 : FldsAt w u2 g.fs) (hq : decide (f = g) = q) :
    Calls Tryz.prog 38 #[.agg #[.int .i64 f.id, u1], .agg #[.int .i64 g.id, u2]] w fun e w' => e = .returned (.bool q) ∧ Below w.heap.size w w' := by
  obtain ⟨a1, c1, rfl, k1⟩ := h1.slice_
  obtain ⟨a2, c2, rfl, k2⟩ := h2.slice_
  obtain ⟨w0, hw0⟩ : ∃ w0, w0 = (w.alloc (.cells #[.int .i64 f.id, .slice a1 f.fs.length c1] 34)).alloc (.cells #[.int .i64 g.id, .slice a2 g.fs.length c2] 34) := ⟨_, rfl⟩
  have hb0 : Below w.heap.size w w0 := by rw [hw0]; exact (bx _).alloc (by simp) _
  have x1 : w0.heap[w.heap.size]? = some (.cells #[.int .i64 f.id, .slice a1 f.fs.length c1] 34 (0, 0)) := by rw [hw0]; exact heap_alloc2_old _ _ _
  have x2 : w0.heap[w.heap.size + 1]? = some (.cells #[.int .i64 g.id, .slice a2 g.fs.length c2] 34 (0, 0)) := by rw [hw0]; exact heap_alloc2_new _ _ _
  have HE := Lib.hid (And.intro (equalF_any (.slice a1 f.fs.length c1) (.slice a2 g.fs.length c2) f.fs g.fs (decide (f.fs = g.fs)) w0 (h1.below hb0) (h2.below hb0) rfl) hb0)
  have p0 : w0.cell? ⟨w.heap.size, 0, none⟩ = some (.int .i64 f.id) := cell_of_row _ _ _ _ _ _ x1
  have p1 : w0.cell? ⟨w.heap.size, 1, none⟩ = some (.slice a1 f.fs.length c1) := cell_of_row _ _ _ _ _ _ x1
  have r0 : w0.cell? ⟨w.heap.size + 1, 0, none⟩ = some (.int .i64 g.id) := cell_of_row _ _ _ _ _ _ x2
  have r1 : w0.cell? ⟨w.heap.size + 1, 1, none⟩ = some (.slice a2 g.fs.length c2) := cell_of_row _ _ _ _ _ _ x2
  have HQ := Lib.hid hq
  clear h1 h2 x1 x2 hb0 hq
  by_cases hid : f.id = g.id
  · have d1 : ((f.id : Int) == g.id) = true := by rw [beq_iff_eq]; exact hid
    have HR : Hid (q = decide (f.fs = g.fs)) := Lib.hid (by
      rw [← HQ.out, decide_eq_decide]
      constructor
      · intro h; rw [h]
      · intro h; cases f; cases g; simp_all)
    clear hid HQ
    go_enter Tryz.func38, Tryz.ntmps38
    go_wp2_with fail
    rw [← hw0]
    refine HE.out.1.mono ?_
    rintro e w1 ⟨rfl, hb⟩
    have HB := Lib.hid (HE.out.2.trans (hb.mono HE.out.2.size))
    clear hb hw0
    go_wp2_with fail
    go_ret
    exact ⟨by rw [HR.out]; rfl, HB.out⟩
  · have d1 : ((f.id : Int) == g.id) = false := by rw [beq_eq_false_iff_ne]; exact hid
    have HR : Hid (q = false) := Lib.hid (by
      rw [← HQ.out]
      exact decide_eq_false fun h => hid (by rw [h]))
    clear hid HQ
    go_enter Tryz.func38, Tryz.ntmps38
    go_wp2_with fail
    rw [← hw0]
    go_ret
    exact ⟨by rw [HR.out]; rfl, HE.out.2⟩
set_option maxRecDepth 100000 in
set_option maxHeartbeats 1000000 in
theorem Same_any (v1 v2 : Value) (l k : List Fm) (q : Bool) (w : World) (h1 : FmsAt (· < w.heap.size) w v1 l) (h2 : FmsAt (· < w.heap.size) w v2 k) (hq : decide (l = k) = q) :
    Calls Tryz.prog 23 #[v1, v2] w fun e w' => e = .returned (.bool q) ∧ Below w.heap.size w w' := by
  have EN : Enters 38 := enters_of Tryz.func38 (by kernel_rfl) (by kernel_rfl)
  unfold Enters at EN
  have key : Calls Tryz.prog 37 #[v1, v2, .func (.func 38) #[] #[]] w fun e w' => e = .returned (.bool q) ∧ Below w.heap.size w w' := by
    obtain ⟨a1, c1, rfl, k1⟩ := h1.slice_
    obtain ⟨a2, c2, rfl, k2⟩ := h2.slice_
    obtain ⟨n, hn⟩ : ∃ n, n = l.length := ⟨_, rfl⟩
    obtain ⟨m, hm⟩ : ∃ m, m = k.length := ⟨_, rfl⟩
    rw [← hn] at h1 k1 ⊢
    rw [← hm] at h2 k2 ⊢
    have H := Lib.hid (And.intro (And.intro h1 h2) (And.intro (And.intro hn hm) hq))
    unfold maxLen at k1 k2
    clear h1 h2 hn hm hq
    by_cases hnm : n = m
    · have d1 : ((n : Int) == (m : Int)) = true := by rw [beq_iff_eq]; omega
      subst hnm
      go_enter Tryz.func37, Tryz.ntmps37
      go_wp2_with fail
      go_loopw [17] (fun i wr => ∃ j : Nat, j ≤ n ∧ i = .int .i64 j ∧ Hid (Below w.heap.size w wr ∧ l.take j = k.take j)) (fun i _ => n - (intOf i).toNat)
      case atStart => exact ⟨0, Nat.zero_le _, rfl, Lib.hid ⟨Below.refl _ _, rfl⟩⟩
      case round =>
        obtain ⟨j, hj, rfl, HI⟩ := hrel
        by_cases hlt : j < n
        · have l1 : j < l.length := by have := H.out.2.1.1; omega
          have l2 : j < k.length := by have := H.out.2.1.2; omega
          obtain ⟨b1, o1, rfl, -, pb1, -, m1, m2, f1⟩ := H.out.1.1.at_ (by omega)
          obtain ⟨b2, o2, rfl, -, pb2, -, m3, m4, f2⟩ := H.out.1.2.at_ (by omega)
          obtain ⟨f, hf⟩ : ∃ f, f = l.getD j zm := ⟨_, rfl⟩
          obtain ⟨g, hg⟩ : ∃ g, g = k.getD j zm := ⟨_, rfl⟩
          obtain ⟨u1, x1⟩ := f1 j l1
          obtain ⟨u2, x2⟩ := f2 j l2
          rw [← hf] at x1
          rw [← hg] at x2
          have hK := Kept.of_below (P := (· < w.heap.size)) HI.out.1 fun _ h => h
          have y1 := x1.kept hK pb1
          have y2 := x2.kept hK pb2
          obtain ⟨uo1, uc1, rfl, e1⟩ := y1.fs.slice_
          obtain ⟨uo2, uc2, rfl, e2⟩ := y2.fs.slice_
          have p0 := y1.c0
          have p1 := y1.c1
          have r0 := y2.c0
          have r1 := y2.c1
          have z1 := World.block_lt_of_cell? (h := p0)
          have z2 := World.block_lt_of_cell? (h := r0)
          obtain ⟨v, hv⟩ : ∃ v, decide (f = g) = v := ⟨_, rfl⟩
          obtain ⟨wa, hwa⟩ : ∃ wa, wa = (wr.alloc (.cells #[.int .i64 f.id, .slice uo1 f.fs.length uc1] 34)).alloc (.cells #[.int .i64 g.id, .slice uo2 g.fs.length uc2] 34) := ⟨_, rfl⟩
          have hba : Below wr.heap.size wr wa := by rw [hwa]; exact (bx _).alloc (by simp) _
          have HS := Lib.hid (And.intro (sameM1_any f g _ _ v wa (y1.fs.below hba) (y2.fs.below hba) hv) hba)
          have HFG := Lib.hid (And.intro hf (And.intro hg hv))
          unfold maxLen at m2 m4
          clear f1 f2 hf hg hv x1 x2 y1 y2 hba hK
          go_wp2_with fail
          rw [← hwa]
          refine HS.out.1.mono ?_
          rintro e w1 ⟨rfl, hb⟩
          have HB := Lib.hid (HI.out.1.trans ((HS.out.2.trans (hb.mono HS.out.2.size)).mono HI.out.1.size))
          clear hb hwa
          cases v with
          | true =>
            have HN : Hid (Below w.heap.size w w1 ∧ l.take (j + 1) = k.take (j + 1)) := Lib.hid ⟨HB.out, by
              have h := of_decide_eq_true HFG.out.2.2
              rw [take_succ_getD _ zm j l1, take_succ_getD _ zm j l2, HI.out.2, ← HFG.out.1, ← HFG.out.2.1, h]⟩
            clear HI HFG HS HB p0 p1 r0 r1
            go_wp2_with fail
            go_roundw
            case rel => exact ⟨j + 1, by omega, by go_num, HN⟩
            case measure => simp [intOf]; omega
          | false =>
            have HP : Hid (q = false) := Lib.hid (by
              rw [← H.out.2.2]
              refine decide_eq_false fun e => ?_
              have h := of_decide_eq_false HFG.out.2.2
              rw [HFG.out.1, HFG.out.2.1, e] at h
              exact h rfl)
            clear HI HFG HS p0 p1 r0 r1
            go_wp2_with fail
            go_ret
            exact ⟨by rw [HP.out]; rfl, HB.out⟩
        · obtain rfl : j = n := by omega
          have HP : Hid (q = true) := Lib.hid (by
            rw [← H.out.2.2]
            have h := HI.out.2
            rw [List.take_of_length_le (by have := H.out.2.1.1; omega), List.take_of_length_le (by have := H.out.2.1.2; omega)] at h
            exact decide_eq_true h)
          have HB := Lib.hid HI.out.1
          clear HI
          go_wp2_with fail
          go_ret
          exact ⟨by rw [HP.out]; rfl, HB.out⟩
    · have d1 : ((n : Int) == (m : Int)) = false := by rw [beq_eq_false_iff_ne]; omega
      have HP : Hid (q = false) := Lib.hid (by
        rw [← H.out.2.2]
        refine decide_eq_false fun e => hnm ?_
        rw [H.out.2.1.1, H.out.2.1.2, e])
      go_enter Tryz.func37, Tryz.ntmps37
      go_wp2_with fail
      go_ret
      exact ⟨by rw [HP.out]; rfl, Below.refl _ _⟩
  have HK := Lib.hid key
  clear h1 h2 key
  go_enter Tryz.func23, Tryz.ntmps23
  go_wp2_with fail
  refine HK.out.mono ?_
  rintro e w1 ⟨rfl, hb⟩
  have HB := Lib.hid hb
  clear hb
  go_wp2_with fail
  go_ret
  exact ⟨rfl, HB.out⟩
end Go.Proofs.YtcnokccgdiodlaaGreatDoor
