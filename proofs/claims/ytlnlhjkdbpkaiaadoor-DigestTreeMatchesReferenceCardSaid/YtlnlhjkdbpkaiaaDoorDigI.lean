/- Where a list is split: the library's Len, split, left and Left; and binary. Conditions: the number is within an int, and at least 2 where a list is split. -/
import Derived.Test.YtlnlhjkdbpkaiaaDoorDigH
import Derived.Shelf.Small.Bits
namespace Go.Proofs.YtlnlhjkdbpkaiaaDoor
open Go.RowKit

/-- Where the library's Len lies in this program. -/
def lenRen : Go.Shelf.Ren := { f := fun x => if x = 125 then 52 else if x = 128 then 56 else if x = 129 then 57 else x, t := fun x => if x = 3 then 3 else if x = 4 then 4 else if x = 5 then 5 else if x = 9 then 9 else if x = 46 then 51 else if x = 51 then 47 else if x = 53 then 69 else x, g := fun x => x }
theorem lenLays : Lays.n125 Tryd.prog lenRen where
  mixed := by kernel_rfl
  f125 := by kernel_rfl
  f128 := by kernel_rfl
  f129 := by kernel_rfl
  t3 := by kernel_rfl
  a3 := fun w => by kernel_rfl
  z3 := fun w => by kernel_rfl
  v3 := fun w => by kernel_rfl
  t4 := by kernel_rfl
  a4 := fun w => by kernel_rfl
  z4 := fun w => by kernel_rfl
  v4 := fun w => by kernel_rfl
  t5 := by kernel_rfl
  a5 := fun w => by kernel_rfl
  z5 := fun w => by kernel_rfl
  v5 := fun w => by kernel_rfl
  t9 := by kernel_rfl
  a9 := fun w => by kernel_rfl
  z9 := fun w => by kernel_rfl
  v9 := fun w => by kernel_rfl
  t46 := by kernel_rfl
  a46 := fun w => by kernel_rfl
  z46 := fun w => by kernel_rfl
  v46 := fun w => by kernel_rfl
  t51 := by kernel_rfl
  a51 := fun w => by kernel_rfl
  z51 := fun w => by kernel_rfl
  v51 := fun w => by kernel_rfl
  t53 := by kernel_rfl
  a53 := fun w => by kernel_rfl
  z53 := fun w => by kernel_rfl
  v53 := fun w => by kernel_rfl
theorem bitLenAux_log (f : Nat) : ∀ x, x ≠ 0 → x < 2 ^ f → Lib.bitLenAux f x = x.log2 + 1 := by
  induction f with
  | zero => intro x h1 h2; omega
  | succ f ih =>
    intro x h1 h2
    unfold Lib.bitLenAux
    rw [if_neg h1, Nat.log2_def]
    by_cases h : 2 ≤ x
    · rw [if_pos h, ih (x / 2) (by omega) (by rw [Nat.pow_succ] at h2; omega)]; omega
    · have : x = 1 := by omega
      subst this
      simp
      cases f <;> simp [Lib.bitLenAux]
theorem bitLen_log {x : Nat} (h1 : x ≠ 0) (h2 : x < 9223372036854775808) : Lib.bitLen x = x.log2 + 1 := bitLenAux_log 64 x h1 (by omega)

theorem len_any (n : Nat) (w : World) (h1 : 2 ≤ n) (h2 : n ≤ 9223372036854775807) :
    Calls Tryd.prog 52 #[.int .u64 ((n : Int) - 1)] w fun e w' => e = .returned (.int .i64 (((n - 1).log2 : Nat) + 1 : Int)) ∧ w = w' := by
  refine (Any.bits_Len lenLays ((n : Int) - 1) w (by omega) (by omega)).mono ?_
  rintro e w' ⟨rfl, rfl⟩
  refine ⟨?_, rfl⟩
  rw [show ((n : Int) - 1).toNat = n - 1 by omega, bitLen_log (by omega) (by omega)]
  rfl

theorem lk_lt_pow {n : Nat} (h1 : 2 ≤ n) (h2 : n ≤ 9223372036854775807) : (n - 1).log2 ≤ 62 := by
  have := (Nat.log2_lt (n := n - 1) (k := 63) (by omega)).2 (by omega)
  omega

set_option maxHeartbeats 400000 in
theorem split_any (n : Nat) (w : World) (h1 : 2 ≤ n) (h2 : n ≤ 9223372036854775807) :
    Calls Tryd.prog 44 #[.int .i64 n] w fun e w' => e = .returned (.int .i64 (Dt.lk n : Nat)) ∧ w = w' := by
  obtain ⟨j, hj⟩ : ∃ j, j = (n - 1).log2 := ⟨_, rfl⟩
  have hj62 : j ≤ 62 := by rw [hj]; exact lk_lt_pow h1 h2
  have HL : ∀ w, Calls Tryd.prog 52 #[.int .u64 ((n : Int) - 1)] w fun e w' => e = .returned (.int .i64 ((j : Int) + 1)) ∧ w = w' := by rw [hj]; exact fun w => len_any n w h1 h2
  have HP : Hid (wrap64 ((2 : Int) ^ j) = (Dt.lk n : Nat)) := Lib.hid (by
    have e : ((2 : Int) ^ j) = (Dt.lk n : Nat) := by unfold Dt.lk; rw [hj]; simp
    have l := Dt.lk_lt h1
    rw [e]; exact IntWalk.wrap64_in _ ⟨by omega, by omega⟩)
  have HLL := Lib.hid HL
  clear HL hj
  go_enter Tryd.func44, Tryd.ntmps44
  go_wp2_with fail
  refine (HLL.out _).mono ?_
  rintro e w' ⟨rfl, rfl⟩
  go_wp2_with fail
  go_ret
  exact ⟨ret_int HP.out, rfl⟩

set_option maxHeartbeats 1000000 in
theorem left_any (n : Nat) (w : World) (h1 : 2 ≤ n) (h2 : n ≤ 9223372036854775807) :
    Calls Tryd.prog 35 #[.int .i64 n] w fun e w' => e = .returned (.int .i64 (Dt.lk n : Nat)) ∧ w = w' := by
  go_enter Tryd.func35, Tryd.ntmps35
  go_wp2
  go_loop [3] (fun c => ∃ m j : Nat, c = .int .i64 m ∧ m = 2 ^ j ∧ m < n) (fun c => n - (intOf c).toNat)
  case atStart => exact ⟨1, 0, rfl, rfl, by omega⟩
  case round =>
    obtain ⟨m, j, rfl, hm, hmn⟩ := hrel
    have hm1 : 1 ≤ m := by rw [hm]; exact Nat.one_le_two_pow
    have HM := Lib.hid hm
    clear hm
    by_cases hlt : (m : Int) < (n : Int) - m
    · have hlt' : 2 * m < n := by omega
      go_wp2
      go_round
      case rel => exact ⟨2 * m, j + 1, by go_num, by rw [HM.out, Nat.pow_succ]; omega, hlt'⟩
      case measure => simp [intOf]; omega
    · have HV : Hid (Dt.lk n = m) := Lib.hid (by
        rw [HM.out]; exact Dt.lk_of (by rw [← HM.out]; omega) (by rw [← HM.out]; omega))
      go_wp2
      go_ret
      exact ⟨ret_int (by rw [HV.out]), rfl⟩

set_option maxHeartbeats 1000000 in
theorem rLeft_any (n : Nat) (w : World) (h1 : 2 ≤ n) (h2 : n ≤ 9223372036854775807) :
    Calls Tryd.prog 41 #[.int .i64 n] w fun e w' => e = .returned (.int .i64 (Dt.lk n : Nat)) ∧ w = w' := by
  go_enter Tryd.func41, Tryd.ntmps41
  go_wp2
  go_loop [3] (fun c => ∃ m j : Nat, c = .int .i64 m ∧ m = 2 ^ j ∧ m < n) (fun c => n - (intOf c).toNat)
  case atStart => exact ⟨1, 0, rfl, rfl, by omega⟩
  case round =>
    obtain ⟨m, j, rfl, hm, hmn⟩ := hrel
    have hm1 : 1 ≤ m := by rw [hm]; exact Nat.one_le_two_pow
    have HM := Lib.hid hm
    clear hm
    by_cases hlt : (m : Int) < (n : Int) - m
    · have hlt' : 2 * m < n := by omega
      go_wp2
      go_round
      case rel => exact ⟨2 * m, j + 1, by go_num, by rw [HM.out, Nat.pow_succ]; omega, hlt'⟩
      case measure => simp [intOf]; omega
    · have HV : Hid (Dt.lk n = m) := Lib.hid (by
        rw [HM.out]; exact Dt.lk_of (by rw [← HM.out]; omega) (by rw [← HM.out]; omega))
      go_wp2
      go_ret
      exact ⟨ret_int (by rw [HV.out]), rfl⟩

set_option maxHeartbeats 1000000 in
theorem binary_any (n : Nat) (w : World) (h2 : n ≤ 9223372036854775807) :
    Calls Tryd.prog 28 #[.int .i64 n] w fun e w' => e = .returned (.int .i64 (Dt.bin n : Nat)) ∧ w = w' := by
  have hbn := Dt.bin_le n
  go_enter Tryd.func28, Tryd.ntmps28
  go_wp2
  go_loop [0, 3] (fun x c => ∃ m k : Nat, x = .int .i64 m ∧ c = .int .i64 k ∧ m ≤ n ∧ k + Dt.bin m = Dt.bin n) (fun x _ => (intOf x).toNat)
  case atStart => exact ⟨n, 0, rfl, rfl, by omega, by omega⟩
  case round =>
    obtain ⟨m, k, rfl, rfl, hm, hk⟩ := hrel
    have hkn : k ≤ n := by omega
    by_cases hlt : 0 < m
    · have HK : Hid (k + 1 + Dt.bin (m / 2) = Dt.bin n) := Lib.hid (by rw [← hk, Dt.bin_half (by omega : m ≠ 0)]; omega)
      have hk1 : k + 1 ≤ n := by have := HK.out; omega
      clear hk
      go_wp2
      go_round
      case rel => exact ⟨m / 2, k + 1, by go_num, by go_num, by omega, HK.out⟩
      case measure => simp [intOf]; omega
    · obtain rfl : m = 0 := by omega
      have HV : Hid (Dt.bin n = k) := Lib.hid (by rw [← hk]; simp [Dt.bin])
      clear hk
      go_wp2
      go_ret
      exact ⟨ret_int (by rw [HV.out]), rfl⟩
end Go.Proofs.YtlnlhjkdbpkaiaaDoor
