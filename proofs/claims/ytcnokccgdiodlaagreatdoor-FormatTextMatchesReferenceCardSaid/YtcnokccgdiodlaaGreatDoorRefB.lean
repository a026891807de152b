/- The reference's numbers. Conditions: the fields are readable; their numbers are ints. -/
import Derived.Test.YtcnokccgdiodlaaGreatDoorRefA
namespace Go.Proofs.YtcnokccgdiodlaaGreatDoor
open Go.RowKit Go.Shelf Fx Go.Sort

theorem counts_lo {fs : List Fld} {q : Int} (h : q < 0) : counts fs q = false := by unfold counts; rw [decide_eq_false (by omega)]; rfl
theorem counts_hi {fs : List Fld} {q : Int} (h : (fs.length : Int) ≤ q) : counts fs q = false := by unfold counts; rw [decide_eq_false (p := q < (fs.length : Int)) (by omega)]; simp
theorem counts_kind {fs : List Fld} {q : Int} (h : (fs.getD q.toNat zf).kind ≠ 2) : counts fs q = false := by unfold counts; rw [decide_eq_false h]; simp
theorem counts_used {fs : List Fld} {q : Int} {i : Nat} (hi : i < fs.length) (h : (fs.getD i zf).frm = q) : counts fs q = false := by
  unfold counts
  have : (fs.any fun g => decide (g.frm = q)) = true := by
    rw [List.any_eq_true]
    refine ⟨fs[i], List.getElem_mem hi, ?_⟩
    simp [List.getD, List.getElem?_eq_getElem hi] at h
    exact decide_eq_true h
  rw [this]; simp
theorem counts_true {fs : List Fld} {q : Int} (h0 : 0 ≤ q) (h1 : q < fs.length) (h2 : (fs.getD q.toNat zf).kind = 2) (h3 : ∀ i, i < fs.length → (fs.getD i zf).frm ≠ q) : counts fs q = true := by
  unfold counts
  have : (fs.any fun g => decide (g.frm = q)) = false := by
    rw [List.any_eq_false]
    intro x hx
    obtain ⟨i, hi, rfl⟩ := List.getElem_of_mem hx
    have := h3 i hi
    simp [List.getD, List.getElem?_eq_getElem hi] at this
    simpa using this
  rw [this, decide_eq_true h0, decide_eq_true h1, decide_eq_true h2]; rfl
theorem getD_take {α : Type} {l : List α} {z : α} {i k : Nat} (h : i < k) : (l.take k).getD i z = l.getD i z := by
  simp [List.getD, h]
set_option maxHeartbeats 1000000 in
theorem rnumber_any (v : Value) (fs : List Fld) (k : Nat) (q : Bool) (w : World) (hV : FldsAt w v fs) (hk : k < fs.length) (hI : ∀ i, i < fs.length → Ints (fs.getD i zf)) (hq : counts (fs.take k) (fs.getD k zf).frm = q) :
    Calls Tryz.prog 76 #[v, .int .i64 k] w fun e w' => e = .returned (.bool q) ∧ w' = w := by
  obtain ⟨a, c, rfl, hlc⟩ := hV.slice_
  obtain ⟨n, hn⟩ : ∃ n, n = fs.length := ⟨_, rfl⟩
  rw [← hn] at hV hlc ⊢
  obtain ⟨b, off, rfl, -, lb, m1, m2, hfl⟩ := hV.at_ (by omega)
  obtain ⟨Q, hQ⟩ : ∃ Q, Q = (fs.getD k zf).frm := ⟨_, rfl⟩
  have hkn : k < n := by omega
  have hQr := hI k hk
  have hQ1 : -9223372036854775808 ≤ Q := by rw [hQ]; exact hQr.f1
  have hQ2 : Q ≤ 9223372036854775807 := by rw [hQ]; exact hQr.f2
  have c2 := (hfl k hk).c2
  rw [← hQ] at c2 hq
  have HF := Lib.hid (And.intro hfl (And.intro hn hq))
  have lk : (fs.take k).length = k := by rw [List.length_take]; omega
  have HLK := Lib.hid lk
  unfold maxLen at m2
  clear hV hlc hfl hI hQr hQ hn hq hk lk
  by_cases q0 : Q < 0
  · have HP : Hid (q = false) := Lib.hid (by rw [← HF.out.2.2]; exact counts_lo q0)
    go_enter Tryz.func76, Tryz.ntmps76
    go_wp2_with fail
    go_ret
    exact ⟨by rw [HP.out]; rfl, rfl⟩
  · by_cases q1 : (k : Int) ≤ Q
    · have HP : Hid (q = false) := Lib.hid (by rw [← HF.out.2.2]; exact counts_hi (by rw [HLK.out]; exact q1))
      go_enter Tryz.func76, Tryz.ntmps76
      go_wp2_with fail
      go_ret
      exact ⟨by rw [HP.out]; rfl, rfl⟩
    · obtain ⟨Qn, hQn⟩ : ∃ Qn : Nat, Q = Qn := ⟨Q.toNat, by omega⟩
      subst hQn
      have hqk : Qn < k := by omega
      have cK := (HF.out.1 Qn (by have := HF.out.2.1; omega)).c0
      obtain ⟨KD, hKD⟩ : ∃ KD, KD = (fs.getD Qn zf).kind := ⟨_, rfl⟩
      rw [← hKD] at cK
      have HKD := Lib.hid hKD
      clear hKD
      by_cases hk2 : KD = 2
      · subst hk2
        go_enter Tryz.func76, Tryz.ntmps76
        go_wp2_with fail
        go_loop [6] (fun i => ∃ j : Nat, j ≤ k ∧ i = .int .i64 j ∧ Hid (∀ x, x < j → (fs.getD x zf).frm ≠ (Qn : Int))) (fun i => k - (intOf i).toNat)
        case atStart => exact ⟨0, Nat.zero_le _, rfl, Lib.hid fun x hx => absurd hx (by omega)⟩
        case round =>
          obtain ⟨j, hj, rfl, HJ⟩ := hrel
          by_cases hjk : j < k
          · have cF := (HF.out.1 j (by have := HF.out.2.1; omega)).c2
            obtain ⟨X, hX⟩ : ∃ X, X = (fs.getD j zf).frm := ⟨_, rfl⟩
            rw [← hX] at cF
            have HXX := Lib.hid hX
            clear hX
            by_cases hx : X = (Qn : Int)
            · have d1 : (X == (Qn : Int)) = true := by rw [beq_iff_eq]; exact hx
              have HP : Hid (q = false) := Lib.hid (by
                rw [← HF.out.2.2]
                exact counts_used (i := j) (by rw [HLK.out]; exact hjk) (by rw [getD_take hjk, ← HXX.out, hx]))
              clear hx HJ
              go_wp2_with fail
              go_ret
              exact ⟨by rw [HP.out]; rfl, rfl⟩
            · have d1 : (X == (Qn : Int)) = false := by rw [beq_eq_false_iff_ne]; exact hx
              have HN : Hid (∀ x, x < j + 1 → (fs.getD x zf).frm ≠ (Qn : Int)) := Lib.hid fun x h => by
                rcases Nat.lt_succ_iff_lt_or_eq.1 h with h | rfl
                · exact HJ.out x h
                · rw [← HXX.out]; exact hx
              clear hx HJ
              go_wp2_with fail
              refine ⟨⟨j + 1, by omega, by go_num, HN⟩, by simp [intOf]; omega⟩
          · obtain rfl : j = k := by omega
            have HP : Hid (q = true) := Lib.hid (by
              rw [← HF.out.2.2]
              refine counts_true (by omega) (by rw [HLK.out]; omega) ?_ fun i hi => ?_
              · rw [Int.toNat_natCast, getD_take hqk]; exact HKD.out.symm
              · rw [HLK.out] at hi
                rw [getD_take hi]; exact HJ.out i hi)
            clear HJ
            go_wp2_with fail
            go_ret
            exact ⟨by rw [HP.out]; rfl, rfl⟩
      · have HP : Hid (q = false) := Lib.hid (by
          rw [← HF.out.2.2]
          refine counts_kind ?_
          rw [Int.toNat_natCast, getD_take hqk, ← HKD.out]; exact hk2)
        go_enter Tryz.func76, Tryz.ntmps76
        go_wp2_with fail
        go_ret
        exact ⟨by rw [HP.out]; rfl, rfl⟩
end Go.Proofs.YtcnokccgdiodlaaGreatDoor
