/- The reference's Least, Find and Same. Conditions: the formats are readable; their numbers are ints. -/
import Derived.Test.YtcnokccgdiodlaaGreatDoorRefD
namespace Go.Proofs.YtcnokccgdiodlaaGreatDoor
open Go.RowKit Go.Shelf Fx Go.Sort

/-- The least length that the reference's search finds. -/
theorem least_idx {l : List Fm} (h : Ok l) {i : Nat} (hi : i < l.length) : ((rls l []).map (·.2)).getD i 0 = least l (l.getD i zm).id := by
  have h1 := (rls_at h hi).1
  unfold least
  rw [if_pos (vd_iff.2 h), ← h1]
  simp [List.getD]
  cases (rls l [])[i]? <;> rfl
theorem least_not {l : List Fm} {id : Int} (h : ∀ i, i < l.length → (l.getD i zm).id ≠ id) : least l id = 0 := by
  unfold least
  split
  · unfold lkz
    cases hk : lk (lm l) id with
    | none => rfl
    | some v =>
      obtain ⟨f, hf, he⟩ := lk_ids hk
      obtain ⟨i, hi, rfl⟩ := List.getElem_of_mem hf
      have := h i hi
      simp [List.getD, List.getElem?_eq_getElem hi] at this
      exact absurd he this
  · rfl
set_option maxHeartbeats 1000000 in
theorem rLeast_any (v : Value) (l : List Fm) (id r : Int) (w : World) (hV : FmsAt (· < w.heap.size) w v l) (hI : IntsL l) (hl : l.length ≤ 1000) (hr : least l id = r) :
    Calls Tryz.prog 20 #[v, .int .i64 id] w fun e w' => e = .returned (.int .i64 r) ∧ Below w.heap.size w w' := by
  obtain ⟨q, hq⟩ : ∃ q, vd l = q := ⟨_, rfl⟩
  have HVA := Lib.hid (rValid_any v l q w hV hI hl hq)
  have HLS := Lib.hid (fun w1 (hb : Below w.heap.size w w1) => leasts_any v l w1 ((hV.kept (Kept.of_below hb fun _ h => h)).mono fun g hg => Nat.lt_of_lt_of_le hg hb.size) hl)
  obtain ⟨a, c, rfl, hlc⟩ := hV.slice_
  obtain ⟨n, hn⟩ : ∃ n, n = l.length := ⟨_, rfl⟩
  rw [← hn] at hV hlc hl HVA HLS ⊢
  have HV := Lib.hid (And.intro hV (And.intro hn (And.intro hq hr)))
  clear hV hn hq hr hI
  go_enter Tryz.func20, Tryz.ntmps20
  go_wp2_with fail
  refine HVA.out.mono ?_
  rintro e w1 ⟨rfl, hb1⟩
  have HB1 := Lib.hid hb1
  clear hb1
  go_wp2_with fail
  refine (HLS.out w1 HB1.out).mono ?_
  rintro e w2 ⟨⟨u, rfl, hown⟩, hb2⟩
  have hll : ((rls l []).map (·.2)).length = n := by rw [List.length_map, rls_len, HV.out.2.1]; simp
  obtain ⟨qa, qc, rfl, hq0⟩ := hown.at_
  rw [hll] at hq0 ⊢
  have HO := Lib.hid (And.intro hq0 (HB1.out.trans (hb2.mono HB1.out.size)))
  clear hown hq0 hb2
  cases q with
  | false =>
    have HR : Hid (r = 0) := Lib.hid (by
      rw [← HV.out.2.2.2]; unfold least; rw [HV.out.2.2.1]; rfl)
    go_wp2_with fail
    refine wp_loop_rounds 1 ?_
    rw [rounds_succ]
    go_wp2_with fail
    all_goals
      go_ret
      exact ⟨by rw [HR.out]; rfl, HO.out.2⟩
  | true =>
    go_wp2_with fail
    go_loop [7] (fun i => ∃ k : Nat, k ≤ n ∧ i = .int .i64 k ∧ Hid (∀ x, x < k → (l.getD x zm).id ≠ id)) (fun i => n - (intOf i).toNat)
    case atStart => exact ⟨0, Nat.zero_le _, rfl, Lib.hid fun x hx => absurd hx (by omega)⟩
    case round =>
      obtain ⟨k, hk, rfl, HI⟩ := hrel
      by_cases hlt : k < n
      · have hkl : k < l.length := by have := HV.out.2.1; omega
        obtain ⟨b, off, rfl, -, hbl, -, m1, m2, hfm⟩ := HV.out.1.at_ (by omega)
        obtain ⟨u, hu⟩ := hfm k hkl
        have c0 := (hu.kept (Kept.of_below HO.out.2 fun _ h => h) hbl).c0
        have lb := World.block_lt_of_cell? (h := c0)
        obtain ⟨X, hX⟩ : ∃ X, X = (l.getD k zm).id := ⟨_, rfl⟩
        rw [← hX] at c0
        have HX := Lib.hid hX
        unfold maxLen at m2
        clear hX hu hfm
        by_cases hx : X = id
        · have d1 : (X == id) = true := by rw [beq_iff_eq]; exact hx
          have hq0 := HO.out.1
          rcases hq0 with hq0 | ⟨qb, rfl, -, lqb, hq1, hq2, hqat⟩
          · omega
          have p0 := hqat k hlt
          obtain ⟨Z, hZ⟩ : ∃ Z, Z = ((rls l []).map (·.2)).getD k 0 := ⟨_, rfl⟩
          rw [← hZ] at p0
          have HR : Hid (r = Z) := Lib.hid (by
            rw [hZ, least_idx (vd_iff.1 HV.out.2.2.1) hkl, ← HX.out, hx, HV.out.2.2.2])
          unfold maxLen at hq2
          clear hx hqat hZ HI
          go_wp2_with fail
          go_ret
          exact ⟨by rw [HR.out]; rfl, HO.out.2⟩
        · have d1 : (X == id) = false := by rw [beq_eq_false_iff_ne]; exact hx
          have HN : Hid (∀ x, x < k + 1 → (l.getD x zm).id ≠ id) := Lib.hid fun x hx2 => by
            rcases Nat.lt_succ_iff_lt_or_eq.1 hx2 with h | rfl
            · exact HI.out x h
            · rw [← HX.out]; exact hx
          clear hx HI
          go_wp2_with fail
          refine ⟨⟨k + 1, by omega, by go_num, HN⟩, by simp [intOf]; omega⟩
      · obtain rfl : k = n := by omega
        have HR : Hid (r = 0) := Lib.hid (by
          rw [← HV.out.2.2.2]
          exact least_not fun i hi => HI.out i (by have := HV.out.2.1; omega))
        clear HI
        go_wp2_with fail
        go_ret
        exact ⟨by rw [HR.out]; rfl, HO.out.2⟩
end Go.Proofs.YtcnokccgdiodlaaGreatDoor
