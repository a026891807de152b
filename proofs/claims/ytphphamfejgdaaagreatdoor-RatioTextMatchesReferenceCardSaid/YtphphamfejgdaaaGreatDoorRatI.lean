/- compare, floor, Compare, Floor. Conditions: ints; the variable of the error holds a pointer. -/
import Derived.Test.YtphphamfejgdaaaGreatDoorRatH
namespace Go.Proofs.YtphphamfejgdaaaGreatDoor
open Go.RowKit

theorem cmp_any (x y r : Int) (w : World) (hr : Rt.cmpI x y = r) :
    Calls Tryz.prog 65 #[.int .i64 x, .int .i64 y] w fun e w' => e = .returned (.int .i64 r) ∧ w' = w := by
  have HR := Lib.hid hr
  clear hr
  go_enter Tryz.func65, Tryz.ntmps65
  go_wp2
  all_goals
    go_ret
    refine ⟨congrArg (fun z => Ending.returned (Value.int .i64 z)) ?_, rfl⟩
    have h := HR.out
    unfold Rt.cmpI at h
    split at h <;> (try split at h) <;> omega

theorem compare_any (a b c d r : Int) (w : World) (a1 : -1000000000 ≤ a) (a2 : a ≤ 1000000000) (b1 : 1 ≤ b) (b2 : b ≤ 1000000000)
    (c1 : -1000000000 ≤ c) (c2 : c ≤ 1000000000) (d1 : 1 ≤ d) (d2 : d ≤ 1000000000) (hr : Rt.cmpI (a * d) (c * b) = r) :
    Calls Tryz.prog 49 #[frac a b, frac c d] w fun e w' => e = .returned (.int .i64 r) ∧ Below w.heap.size w w' := by
  have k0 := prod_bound a1 a2 (show -1000000000 ≤ d by omega) d2
  have k1 := prod_bound c1 c2 (show -1000000000 ≤ b by omega) b2
  obtain ⟨P, hP⟩ : ∃ P, a * d = P := ⟨_, rfl⟩
  obtain ⟨Q, hQ⟩ : ∃ Q, c * b = Q := ⟨_, rfl⟩
  rw [hP, hQ] at hr
  rw [hP] at k0
  rw [hQ] at k1
  have m0 : -9223372036854775808 ≤ P := by omega
  have l0 : P ≤ 9223372036854775807 := by omega
  have m1 : -9223372036854775808 ≤ Q := by omega
  have l1 : Q ≤ 9223372036854775807 := by omega
  clear a1 a2 b1 b2 c1 c2 d1 d2 k0 k1
  have HR := Lib.hid hr
  clear hr
  go_enter Tryz.func49, Tryz.ntmps49
  go_wp2_with fail
  refine (cmp_any P Q r _ HR.out).mono ?_
  rintro e w2 ⟨rfl, rfl⟩
  go_wp2_with fail
  go_ret
  exact ⟨rfl, ((Below.refl _ _).alloc (Nat.le_refl _) _).alloc (by simp) _⟩

theorem floor_low (n d : Int) (hd : 1 ≤ d) (h : n.tmod d < 0) : n.tdiv d - 1 = n / d := by
  have e := Int.mul_tdiv_add_tmod n d
  have hb : -d < n.tmod d := by
    have := Int.lt_tmod_of_pos n (show 0 < d by omega); omega
  have e2 : n = (d + n.tmod d) + d * (n.tdiv d - 1) := by rw [Int.mul_sub]; omega
  have e3 := Int.add_mul_ediv_left (d + n.tmod d) (n.tdiv d - 1) (show d ≠ 0 by omega)
  have z := Int.ediv_eq_zero_of_lt (a := d + n.tmod d) (b := d) (by omega) (by omega)
  rw [← e2, z] at e3
  omega
theorem floor_high (n d : Int) (hd : 1 ≤ d) (h : 0 ≤ n.tmod d) : n.tdiv d = n / d := by
  have e := Int.mul_tdiv_add_tmod n d
  have hb : n.tmod d < d := Int.tmod_lt_of_pos n (by omega)
  have e2 : n = n.tmod d + d * n.tdiv d := by omega
  have e3 := Int.add_mul_ediv_left (n.tmod d) (n.tdiv d) (show d ≠ 0 by omega)
  have z := Int.ediv_eq_zero_of_lt h hb
  rw [← e2, z] at e3
  omega

theorem floor_any (n d k : Int) (w : World) (n1 : -9223372036854775808 ≤ n) (n2 : n ≤ 9223372036854775807) (d1 : 1 ≤ d) (d2 : d ≤ 9223372036854775807) (hk : n / d = k) :
    Calls Tryz.prog 45 #[.int .i64 n, .int .i64 d] w fun e w' => e = .returned (.int .i64 k) ∧ w' = w := by
  have HK := Lib.hid hk
  clear hk
  go_enter Tryz.func45, Tryz.ntmps45
  go_wp2
  · go_ret
    refine ⟨congrArg (fun z => Ending.returned (Value.int .i64 z)) ?_, rfl⟩
    have h : n.tmod d < 0 := by assumption
    have e := floor_low n d d1 h
    have e2 := Int.ediv_mul_le n (show d ≠ 0 by omega)
    have e3 : -9223372036854775808 ≤ n / d := by
      rcases (show n < 0 ∨ 0 ≤ n by omega) with h0 | h0
      · have := Int.le_ediv_of_mul_le (a := n) (b := n) (c := d) (by omega) (by
          have : n * d ≤ n * 1 := Int.mul_le_mul_of_nonpos_left (by omega) (by omega)
          omega)
        omega
      · have := Int.ediv_nonneg h0 (show 0 ≤ d by omega); omega
    have e4 : n / d ≤ 9223372036854775807 := by
      rcases (show n < 0 ∨ 0 ≤ n by omega) with h0 | h0
      · have := Int.ediv_neg_of_neg_of_pos h0 (show 0 < d by omega); omega
      · have := Int.ediv_le_self d h0; omega
    rw [HK.out] at e3 e4 e
    show wrap64 (n.tdiv d - 1) = k
    rw [e]
    unfold wrap64
    omega
  · go_ret
    refine ⟨congrArg (fun z => Ending.returned (Value.int .i64 z)) ?_, rfl⟩
    have h : 0 ≤ n.tmod d := by assumption
    exact (floor_high n d d1 h).trans HK.out
end Go.Proofs.YtphphamfejgdaaaGreatDoor
