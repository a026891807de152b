/- The reference's Make. Condition: ints. -/
import Derived.Test.YtphphamfejgdaaaGreatDoorRatRefA
namespace Go.Proofs.YtphphamfejgdaaaGreatDoor
open Go.RowKit

set_option maxRecDepth 20000 in
set_option maxHeartbeats 1000000 in
theorem rmake_any (n d x y z : Int) (w : World) (n1 : -9223372036854775808 ≤ n) (n2 : n ≤ 9223372036854775807) (d1 : -9223372036854775808 ≤ d) (d2 : d ≤ 9223372036854775807) (hx : Parts (Rt.mk n d) x y z) :
    Calls Tryz.prog 8 #[.int .i64 n, .int .i64 d] w fun e w' => e = .returned (.tuple #[frac x y, .int .i64 z]) ∧ Below w.heap.size w w' := by
  have HB0 : Hid (Below w.heap.size w (w.alloc (Obj.cells #[Value.int IntKind.i64 0, Value.int IntKind.i64 0] 25))) := Lib.hid ((Below.refl _ _).alloc (Nat.le_refl _) _)
  by_cases hd : d = 0
  · subst hd
    obtain ⟨rfl, rfl, rfl⟩ : x = 0 ∧ y = 0 ∧ z = 30 := by
      obtain ⟨h1, h2, h3⟩ := hx
      have e : Rt.mk n 0 = none := by unfold Rt.mk; rw [if_pos rfl]
      rw [e] at h1 h2 h3
      exact ⟨h1.symm, h2.symm, h3.symm⟩
    clear n1 n2 d1 d2 hx
    go_enter Tryz.func8, Tryz.ntmps8
    go_wp2_with fail
    refine bodyPost_ret (v := .tuple #[frac 0 0, .int .i64 30]) (by simp [results, Tryz.results8, go_sem]) rfl ⟨rfl, ?_⟩
    first | exact HB0.out | exact (HB0.out.setCell (Nat.le_refl _) _).setCell (Nat.le_refl _) _
  · obtain ⟨P, hP⟩ : ∃ P, n.natAbs = P := ⟨_, rfl⟩
    obtain ⟨Q, hQ⟩ : ∃ Q, d.natAbs = Q := ⟨_, rfl⟩
    obtain ⟨G, hG⟩ : ∃ G, Nat.gcd P Q = G := ⟨_, rfl⟩
    have hf := Rt.fits_case n d hd
    have hsg := Rt.sign_case n d hd
    have hdn := Rt.den_case n d hd
    rw [hP, hQ, hG] at hf hsg hdn
    have hG0 : 0 < G := by rw [← hG]; exact Nat.gcd_pos_of_pos_right _ (by omega)
    have hG1 : ¬ (G : Int) = 0 := by omega
    obtain ⟨p, hp⟩ : ∃ p, P / G = p := ⟨_, rfl⟩
    obtain ⟨r, hr⟩ : ∃ r, Q / G = r := ⟨_, rfl⟩
    rw [hp, hr] at hf
    rw [hp] at hsg
    rw [hr] at hdn
    have e1 : (P : Int) / (G : Int) = (p : Int) := by rw [← hp]; exact (Int.natCast_ediv ..).symm
    have e2 : (Q : Int) / (G : Int) = (r : Int) := by rw [← hr]; exact (Int.natCast_ediv ..).symm
    have hwrap : ∀ (m : Nat), m ≤ 9223372036854775808 → IntKind.u64.wrap (m : Int) = (m : Int) := fun m hm => by
      show (m : Int) % 18446744073709551616 = _
      omega
    have wp := hwrap p (by have := Nat.div_le_self P G; omega)
    have wr := hwrap r (by have := Nat.div_le_self Q G; omega)
    clear hwrap
    have hmk : Rt.mk n d = if Rt.fits (Rat.divInt n d) then some (Rat.divInt n d) else none := by unfold Rt.mk Rt.fit; rw [if_neg hd]
    have HM := Lib.hid (And.intro n1 (And.intro n2 (And.intro d1 (And.intro d2 (And.intro hP hQ)))))
    have HG := Lib.hid hG
    have hcases : (x = 0 ∧ y = 0 ∧ z = 30 ∧ (1000000000 < p ∨ (¬ 1000000000 < p ∧ 1000000000 < r))) ∨ (z = 0 ∧ y = (r : Int) ∧ p ≤ 1000000000 ∧ r ≤ 1000000000 ∧
        ((!decide (n < 0) == decide (d < 0)) = true ∧ x = -(p : Int) ∨ (!decide (n < 0) == decide (d < 0)) = false ∧ x = (p : Int))) := by
      obtain ⟨h1, h2, h3⟩ := hx
      rw [hmk] at h1 h2 h3
      cases hfv : Rt.fits (Rat.divInt n d) with
      | false =>
        rw [hfv] at h1 h2 h3 hf
        refine .inl ⟨h1.symm, h2.symm, h3.symm, ?_⟩
        have hf' := hf.symm
        simp only [Bool.and_eq_false_iff, decide_eq_false_iff_not] at hf'
        omega
      | true =>
        rw [hfv] at h1 h2 h3 hf
        have hf' := hf.symm
        simp only [Bool.and_eq_true, decide_eq_true_eq] at hf'
        refine .inr ⟨h3.symm, ?_, hf'.1, hf'.2, ?_⟩
        · rw [← h2]
          show ((Rat.divInt n d).den : Int) = (r : Int)
          rw [hdn]
        · have hx' : (Rat.divInt n d).num = x := h1
          rw [hsg, show (decide (n < 0) != decide (d < 0)) = (!decide (n < 0) == decide (d < 0)) from rfl] at hx'
          cases h : (!decide (n < 0) == decide (d < 0)) with
          | true => rw [h] at hx'; exact .inl ⟨rfl, hx'.symm⟩
          | false => rw [h] at hx'; exact .inr ⟨rfl, hx'.symm⟩
    clear n1 n2 d1 d2 hP hQ hG hp hr hG0 hf hsg hdn hmk hx
    rcases hcases with ⟨rfl, rfl, rfl, hc | ⟨hc, hc2⟩⟩ | ⟨rfl, rfl, hp1, hr1, ⟨hs, rfl⟩ | ⟨hs, rfl⟩⟩
    all_goals
      go_enter Tryz.func8, Tryz.ntmps8
      go_wp2_with fail
      refine (rsize_any n P _ HM.out.1 HM.out.2.1 HM.out.2.2.2.2.1).mono ?_; rintro e w' ⟨rfl, rfl⟩
      go_wp2_with fail
      refine (rsize_any d Q _ HM.out.2.2.1 HM.out.2.2.2.1 HM.out.2.2.2.2.2).mono ?_; rintro e w' ⟨rfl, rfl⟩
      go_wp2_with fail
      refine (rdivisor_any P Q G _ (by have := HM.out; omega) (by have := HM.out; omega) HG.out).mono ?_; rintro e w' ⟨rfl, k, rfl⟩
      go_wp2_with fail
      refine (rsize_any n P _ HM.out.1 HM.out.2.1 HM.out.2.2.2.2.1).mono ?_; rintro e w' ⟨rfl, rfl⟩
      go_wp2_with fail
      refine (rsize_any d Q _ HM.out.2.2.1 HM.out.2.2.2.1 HM.out.2.2.2.2.2).mono ?_; rintro e w' ⟨rfl, rfl⟩
      go_wp2_with fail
      refine bodyPost_ret (v := .tuple #[frac _ _, .int .i64 _]) (by simp [results, Tryz.results8, go_sem]; first | done | exact ⟨⟨rfl, rfl⟩, rfl⟩) rfl ⟨rfl, ?_⟩
      first
      | exact ((below_drewN HB0.out _).setCell (Nat.le_refl _) _).setCell (Nat.le_refl _) _
      | exact (((below_drewN HB0.out _).setCell (Nat.le_refl _) _).setCell (Nat.le_refl _) _).alloc (by have := HB0.out.size; simp at this ⊢) _
end Go.Proofs.YtphphamfejgdaaaGreatDoor
