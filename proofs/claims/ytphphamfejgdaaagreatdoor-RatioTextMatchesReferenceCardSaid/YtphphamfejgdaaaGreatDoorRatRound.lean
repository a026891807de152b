/- Plain facts on rounding: floors, nearest multiples, and that greater fractions are not rounded to smaller ones. No condition of its own. -/
import Derived.Test.YtphphamfejgdaaaGreatDoorRatLaw
namespace Go.Proofs.YtphphamfejgdaaaGreatDoor
namespace Rt

/-! floors -/
theorem floor_self {q : Rat} (h : fits q = true) : floorO q.num q.den = q.num / q.den := by
  unfold floorO; rw [rd_self h]; rfl
theorem den_ge (q : Rat) : 1 ≤ (q.den : Int) := by have := q.den_pos; omega
theorem ediv_low (n d : Int) (hd : 1 ≤ d) : n / d * d ≤ n := Int.ediv_mul_le n (by omega)
theorem ediv_high (n d : Int) (hd : 1 ≤ d) : n < (n / d + 1) * d := by
  have := Int.lt_ediv_add_one_mul_self n (show 0 < d by omega)
  exact this
theorem floor_bounds {q : Rat} (h : fits q = true) : -1000000000 ≤ q.num / (q.den : Int) ∧ q.num / (q.den : Int) ≤ 1000000000 := by
  obtain ⟨h1, h2⟩ := fits_iff.1 h
  have hd := den_ge q
  constructor
  · apply Int.le_ediv_of_mul_le (by omega)
    have := Int.mul_le_mul_of_nonneg_left hd (show (0 : Int) ≤ 1000000000 by decide)
    omega
  · have := Int.ediv_le_ediv (show 0 < (q.den : Int) by omega) (show q.num ≤ 1000000000 by omega)
    have h3 : (1000000000 : Int) / (q.den : Int) ≤ 1000000000 := Int.ediv_le_self _ (by decide)
    omega
theorem floor_top {q : Rat} (h : fits q = true) (hk : q.num / (q.den : Int) = 1000000000) : q.num = 1000000000 ∧ q.den = 1 := by
  obtain ⟨h1, h2⟩ := fits_iff.1 h
  have hd := den_ge q
  have h3 := ediv_low q.num q.den hd
  rw [hk] at h3
  have h4 := q.den_pos
  omega
theorem floor_le {q : Rat} : cmpR ((q.num / (q.den : Int) : Int) : Rat) q ≤ 0 := by
  have e : cmpR ((q.num / (q.den : Int) : Int) : Rat) q = cmpI (q.num / (q.den : Int) * q.den) (q.num * 1) := rfl
  have := ediv_low q.num q.den (den_ge q)
  rw [e]; unfold cmpI
  split
  · decide
  · split
    · decide
    · omega
theorem lt_floor {q : Rat} : cmpR q ((q.num / (q.den : Int) + 1 : Int) : Rat) = -1 := by
  have e : cmpR q ((q.num / (q.den : Int) + 1 : Int) : Rat) = cmpI (q.num * 1) ((q.num / (q.den : Int) + 1) * q.den) := rfl
  have := ediv_high q.num q.den (den_ge q)
  rw [e]; unfold cmpI
  rw [if_pos (by omega)]

/-! nearest multiples -/
/-- The nearest multiple of 1 / k to q, times k. -/
def near (q : Rat) (k : Int) : Int := (2 * q.num * k + q.den) / (2 * q.den)
theorem near_low (q : Rat) (k : Int) : 2 * (near q k * q.den) ≤ 2 * (q.num * k) + q.den := by
  have h := ediv_low (2 * q.num * k + q.den) (2 * q.den) (by have := den_ge q; omega)
  have e1 : (2 * q.num * k + q.den) / (2 * q.den) * (2 * q.den) = 2 * (near q k * q.den) := by
    unfold near; rw [Int.mul_left_comm]
  have e2 : 2 * q.num * k = 2 * (q.num * k) := Int.mul_assoc ..
  omega
theorem near_high (q : Rat) (k : Int) : 2 * (q.num * k) + q.den < 2 * (near q k * q.den) + 2 * q.den := by
  have h := ediv_high (2 * q.num * k + q.den) (2 * q.den) (by have := den_ge q; omega)
  have e1 : ((2 * q.num * k + q.den) / (2 * q.den) + 1) * (2 * q.den) = 2 * (near q k * q.den) + 2 * q.den := by
    rw [Int.add_mul, Int.one_mul]
    congr 1
    unfold near; rw [Int.mul_left_comm]
  have e2 : 2 * q.num * k = 2 * (q.num * k) := Int.mul_assoc ..
  omega
theorem round_self {q : Rat} {k : Int} (h : fits q = true) (h1 : 1 ≤ k) (h2 : k ≤ 1000000000) : roundO q.num q.den k = mk (near q k) k := by
  unfold roundO; rw [rd_self h, decide_eq_true h1, decide_eq_true h2]; rfl
/-- A number whose numerator and denominator are small fits. -/
theorem small_fits (n k : Int) (h1 : 1 ≤ k) (h2 : k ≤ 1000000000) (h3 : n.natAbs ≤ 1000000000) : fits (Rat.divInt n k) = true := by
  rw [fits_case n k (by omega)]
  have a := Nat.div_le_self n.natAbs (Nat.gcd n.natAbs k.natAbs)
  have b := Nat.div_le_self k.natAbs (Nat.gcd n.natAbs k.natAbs)
  rw [decide_eq_true (show _ ≤ _ by omega), decide_eq_true (show _ ≤ _ by omega)]; rfl
theorem mk_small (n k : Int) (h1 : 1 ≤ k) (h2 : k ≤ 1000000000) (h3 : n.natAbs ≤ 1000000000) : mk n k = some (Rat.divInt n k) := by
  unfold mk; rw [if_neg (by omega), fit_of (small_fits n k h1 h2 h3)]
/-- The parts of n / k, crosswise. -/
theorem cross (n k : Int) (h : 1 ≤ k) : (Rat.divInt n k).num * k = n * (Rat.divInt n k).den := by
  have := (Rat.divInt_eq_divInt_iff (n₁ := (Rat.divInt n k).num) (d₁ := (Rat.divInt n k).den) (n₂ := n) (d₂ := k) (by have := (Rat.divInt n k).den_nz; omega) (by omega)).1 (Rat.num_divInt_den _)
  exact this
theorem den_dvd (n k : Int) (h : 1 ≤ k) : ((Rat.divInt n k).den : Int) ∣ k := by
  rw [den_case n k (by omega)]
  have : k.natAbs / Nat.gcd n.natAbs k.natAbs ∣ k.natAbs := Nat.div_dvd_of_dvd (Nat.gcd_dvd_right _ _)
  have e : ((k.natAbs : Nat) : Int) = k := by omega
  rw [← e]
  exact Int.natCast_dvd_natCast.2 (by rw [Int.natAbs_natCast]; exact this)
theorem back_mult (n k : Int) (h : 1 ≤ k) : (Rat.divInt n k).num * (k / (Rat.divInt n k).den) = n := by
  have hd := den_ge (Rat.divInt n k)
  have hv := den_dvd n k h
  have hc := cross n k h
  generalize (Rat.divInt n k).num = a at *
  generalize ((Rat.divInt n k).den : Int) = b at *
  obtain ⟨m, rfl⟩ := hv
  rw [Int.mul_ediv_cancel_left _ (by omega)]
  rw [Int.mul_left_comm, Int.mul_comm n] at hc
  exact Int.eq_of_mul_eq_mul_left (by omega) hc
theorem near_again (n k : Int) (h : 1 ≤ k) : near (Rat.divInt n k) k = n := by
  have hc := cross n k h
  have hd := den_ge (Rat.divInt n k)
  have h1 := near_low (Rat.divInt n k) k
  have h2 := near_high (Rat.divInt n k) k
  generalize near (Rat.divInt n k) k = F at *
  generalize (Rat.divInt n k).num = a at *
  generalize ((Rat.divInt n k).den : Int) = b at *
  rw [hc] at h1 h2
  have h3 : 2 * ((F - n) * b) ≤ b := by rw [Int.sub_mul]; omega
  have h4 : -b < 2 * ((F - n) * b) := by rw [Int.sub_mul]; omega
  rcases Int.lt_trichotomy (F - n) 0 with h5 | h5 | h5
  · have := Int.mul_le_mul_of_nonneg_right (show F - n ≤ -1 by omega) (show 0 ≤ b by omega)
    omega
  · omega
  · have := Int.mul_le_mul_of_nonneg_right (show 1 ≤ F - n by omega) (show 0 ≤ b by omega)
    omega
theorem near_mono {p q : Rat} {k : Int} (hk : 1 ≤ k) (h : p ≤ q) : near p k ≤ near q k := by
  rw [Rat.le_iff] at h
  have hp := den_ge p
  have hq := den_ge q
  have h1 := near_low p k
  have h2 := near_high q k
  generalize near p k = F at *
  generalize near q k = G at *
  generalize p.num = a at *
  generalize (p.den : Int) = b at *
  generalize q.num = c at *
  generalize (q.den : Int) = d at *
  apply Decidable.byContradiction
  intro hc
  have hF : G + 1 ≤ F := by omega
  have m1 := Int.mul_le_mul_of_nonneg_right h1 (show 0 ≤ d by omega)
  have m2 := Int.mul_lt_mul_of_pos_right h2 (show 0 < b by omega)
  have m3 := Int.mul_le_mul_of_nonneg_left h (show 0 ≤ k by omega)
  have m4 := Int.mul_le_mul_of_nonneg_right hF (show 0 ≤ b * d from Int.mul_nonneg (by omega) (by omega))
  have e1 : 2 * (F * b) * d = 2 * (F * (b * d)) := by rw [Int.mul_assoc, Int.mul_assoc]
  have e2 : (2 * (a * k) + b) * d = 2 * (k * (a * d)) + b * d := by rw [Int.add_mul, Int.mul_assoc, Int.mul_assoc, Int.mul_left_comm a]
  have e3 : (2 * (c * k) + d) * b = 2 * (k * (c * b)) + b * d := by rw [Int.add_mul, Int.mul_assoc, Int.mul_assoc, Int.mul_left_comm c, Int.mul_comm d]
  have e4 : (2 * (G * d) + 2 * d) * b = 2 * (G * (b * d)) + 2 * (b * d) := by rw [Int.add_mul, Int.mul_assoc, Int.mul_assoc, Int.mul_assoc, Int.mul_comm d]
  have e5 : (G + 1) * (b * d) = G * (b * d) + b * d := by rw [Int.add_mul, Int.one_mul]
  omega
theorem divInt_mono {m n k : Int} (hk : 1 ≤ k) (h : m ≤ n) : Rat.divInt m k ≤ Rat.divInt n k := by
  rw [Rat.le_iff]
  have h1 := cross m k hk
  have h2 := cross n k hk
  have hp := den_ge (Rat.divInt m k)
  have hq := den_ge (Rat.divInt n k)
  generalize (Rat.divInt m k).num = a at *
  generalize ((Rat.divInt m k).den : Int) = b at *
  generalize (Rat.divInt n k).num = c at *
  generalize ((Rat.divInt n k).den : Int) = d at *
  apply Int.le_of_mul_le_mul_left (a := k) _ (by omega)
  have e1 : k * (a * d) = m * (b * d) := by rw [← Int.mul_assoc, Int.mul_comm k, h1, Int.mul_assoc]
  have e2 : k * (c * b) = n * (b * d) := by rw [← Int.mul_assoc, Int.mul_comm k, h2, Int.mul_assoc, Int.mul_comm d]
  rw [e1, e2]
  exact Int.mul_le_mul_of_nonneg_right h (Int.mul_nonneg (by omega) (by omega))
/-- A numerator below a million and a denominator up to a thousand: the rounded number is small. -/
theorem near_small (n k d : Int) (hk : 1 ≤ k) (hd1 : 1 ≤ d) (hd2 : d ≤ 1000) (h1 : -999999 ≤ n) (h2 : n ≤ 999999) : (near (Rat.divInt n k) d).natAbs ≤ 1000000000 := by
  have hc := cross n k hk
  have hb := den_ge (Rat.divInt n k)
  have l := near_low (Rat.divInt n k) d
  have h := near_high (Rat.divInt n k) d
  have hnum : (Rat.divInt n k).num.natAbs ≤ 999999 := by
    rw [sign_case n k (by omega)]
    have := Nat.div_le_self n.natAbs (Nat.gcd n.natAbs k.natAbs)
    split
    · rw [Int.natAbs_neg, Int.natAbs_natCast]; omega
    · rw [Int.natAbs_natCast]; omega
  generalize near (Rat.divInt n k) d = F at *
  generalize (Rat.divInt n k).num = a at *
  generalize ((Rat.divInt n k).den : Int) = b at *
  have p1 : a * d ≤ 999999 * d := Int.mul_le_mul_of_nonneg_right (by omega) (by omega)
  have p2 : -999999 * d ≤ a * d := Int.mul_le_mul_of_nonneg_right (by omega) (by omega)
  rcases (show 1000000000 < F ∨ F ≤ 1000000000 by omega) with hF | hF
  · exfalso
    have := Int.mul_le_mul_of_nonneg_right (show 1000000001 ≤ F by omega) (show 0 ≤ b by omega)
    omega
  · rcases (show F < (-1000000000) ∨ (-1000000000) ≤ F by omega) with hG | hG
    · exfalso
      have := Int.mul_le_mul_of_nonneg_right (show F ≤ -1000000001 by omega) (show 0 ≤ b by omega)
      omega
    · omega
end Rt
end Go.Proofs.YtphphamfejgdaaaGreatDoor
