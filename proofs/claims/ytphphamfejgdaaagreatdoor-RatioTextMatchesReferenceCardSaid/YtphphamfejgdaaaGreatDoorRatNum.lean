/- Plain facts on fractions of limited size, over Lean's own rational numbers. No condition of its own. -/
namespace Go.Proofs.YtphphamfejgdaaaGreatDoor
namespace Rt

/-- The number has a numerator and a denominator within the limits. -/
def fits (q : Rat) : Bool := decide (q.num.natAbs ≤ 1000000000) && decide (q.den ≤ 1000000000)
def fit (q : Rat) : Option Rat := if fits q then some q else none
/-- What n divided by d gives. -/
def mk (n d : Int) : Option Rat := if d = 0 then none else fit (Rat.divInt n d)
/-- The number for which the pair stands, if it is valid. -/
def rd (n d : Int) : Option Rat :=
  match mk n d with
  | some q => if q.num = n ∧ (q.den : Int) = d then some q else none
  | none => none

theorem fits_iff {q : Rat} : fits q = true ↔ q.num.natAbs ≤ 1000000000 ∧ q.den ≤ 1000000000 := by simp [fits]
theorem fit_some {p q : Rat} (h : fit p = some q) : p = q ∧ fits q = true := by
  unfold fit at h
  split at h
  · rename_i hf; cases h; exact ⟨rfl, hf⟩
  · cases h
theorem fit_of {q : Rat} (h : fits q = true) : fit q = some q := by simp [fit, h]
theorem fit_none {q : Rat} : fit q = none ↔ fits q = false := by
  unfold fit
  split
  · rename_i h; simp [h]
  · rename_i h; simp [h]
theorem mk_some {n d : Int} {q : Rat} (h : mk n d = some q) : d ≠ 0 ∧ Rat.divInt n d = q ∧ fits q = true := by
  unfold mk at h
  split at h
  · cases h
  · rename_i hd; obtain ⟨h1, h2⟩ := fit_some h; exact ⟨hd, h1, h2⟩
theorem rd_some {n d : Int} {q : Rat} (h : rd n d = some q) : q.num = n ∧ (q.den : Int) = d ∧ fits q = true ∧ mk n d = some q := by
  unfold rd at h
  split at h
  · rename_i r hr
    split at h
    · rename_i hc; cases h; exact ⟨hc.1, hc.2, (mk_some hr).2.2, hr⟩
    · cases h
  · cases h
theorem rd_bounds {n d : Int} {q : Rat} (h : rd n d = some q) : -1000000000 ≤ n ∧ n ≤ 1000000000 ∧ 1 ≤ d ∧ d ≤ 1000000000 := by
  obtain ⟨h1, h2, h3, _⟩ := rd_some h
  obtain ⟨h4, h5⟩ := fits_iff.1 h3
  have := q.den_pos
  omega
theorem mk_self (q : Rat) : mk q.num q.den = fit q := by
  unfold mk
  rw [if_neg (by have := q.den_nz; omega), Rat.num_divInt_den]
theorem rd_self {q : Rat} (h : fits q = true) : rd q.num q.den = some q := by
  unfold rd
  rw [mk_self, fit_of h]
  simp

/-! The parts of a quotient, as they are reckoned -/
theorem sign_case (n d : Int) (hd : d ≠ 0) : (Rat.divInt n d).num = if decide (n < 0) != decide (d < 0) then -((n.natAbs / Nat.gcd n.natAbs d.natAbs : Nat) : Int) else ((n.natAbs / Nat.gcd n.natAbs d.natAbs : Nat) : Int) := by
  rw [Rat.num_divInt]
  have hg : (d.gcd n : Int) = (Nat.gcd n.natAbs d.natAbs : Nat) := by rw [Int.gcd_comm]; rfl
  rw [hg]
  generalize hG : Nat.gcd n.natAbs d.natAbs = g
  have hdv : (g : Int) ∣ n := by
    rw [← hG]; exact Int.ofNat_dvd_left.2 (Nat.gcd_dvd_left _ _)
  have hgp : 0 < g := by
    rw [← hG]; exact Nat.gcd_pos_of_pos_right _ (by omega)
  obtain ⟨k, hk⟩ := hdv
  have hgz : (g : Int) ≠ 0 := by omega
  have hnat : n.natAbs / g = k.natAbs := by
    rw [hk, Int.natAbs_mul, Int.natAbs_natCast, Nat.mul_div_cancel_left _ hgp]
  rw [hnat]
  have hkn : n < 0 ↔ k < 0 := by
    rw [hk]
    constructor
    · intro h
      rcases (show k < 0 ∨ 0 ≤ k by omega) with h' | h'
      · exact h'
      · have := Int.mul_nonneg (Int.natCast_nonneg g) h'; omega
    · intro h
      exact Int.mul_neg_of_pos_of_neg (by omega) h
  rcases (show d < 0 ∨ 0 ≤ d by omega) with h | h
  · rw [Int.sign_eq_neg_one_of_neg h]
    have e : -1 * n / (g : Int) = -k := by
      rw [hk, show -1 * ((g : Int) * k) = (g : Int) * (-k) by simp [Int.neg_mul, Int.mul_neg]]
      exact Int.mul_ediv_cancel_left _ hgz
    rw [e]
    by_cases h2 : n < 0
    · have := hkn.1 h2
      simp only [h, h2, decide_true, bne_self_eq_false, Bool.false_eq_true, if_false]; omega
    · have : ¬ k < 0 := fun h => h2 (hkn.2 h)
      simp only [h, h2, decide_true, decide_false]
      simp; omega
  · rw [Int.sign_eq_one_of_pos (by omega)]
    have e : 1 * n / (g : Int) = k := by
      rw [Int.one_mul, hk]
      exact Int.mul_ediv_cancel_left _ hgz
    rw [e]
    have hd0 : ¬ d < 0 := by omega
    by_cases h2 : n < 0
    · have := hkn.1 h2
      simp only [hd0, h2, decide_true, decide_false]
      simp; omega
    · have : ¬ k < 0 := fun h => h2 (hkn.2 h)
      simp only [hd0, h2, decide_false, bne_self_eq_false, Bool.false_eq_true, if_false]; omega
theorem den_case (n d : Int) (hd : d ≠ 0) : (Rat.divInt n d).den = d.natAbs / Nat.gcd n.natAbs d.natAbs := by
  rw [Rat.den_divInt, if_neg hd]
  congr 1
  rw [Int.gcd_comm]; rfl
theorem fits_case (n d : Int) (hd : d ≠ 0) : fits (Rat.divInt n d) = (decide (n.natAbs / Nat.gcd n.natAbs d.natAbs ≤ 1000000000) && decide (d.natAbs / Nat.gcd n.natAbs d.natAbs ≤ 1000000000)) := by
  unfold fits
  rw [den_case n d hd, sign_case n d hd]
  have e : ∀ (b : Bool) (x : Nat), (if b = true then -(x : Int) else (x : Int)).natAbs = x := by
    intro b x; cases b <;> simp
  rw [e]

/-! Sums, products and quotients of valid ones -/
theorem den_mul_nz (p q : Rat) : (p.den : Int) * q.den ≠ 0 := by
  have h1 := p.den_nz; have h2 := q.den_nz
  exact Int.mul_ne_zero (by omega) (by omega)
theorem mk_add (p q : Rat) : mk (p.num * q.den + q.num * p.den) (p.den * q.den) = fit (p + q) := by
  unfold mk
  rw [if_neg (den_mul_nz p q), Rat.add_def', show (p.den : Int) * q.den = ((p.den * q.den : Nat) : Int) by simp, Rat.divInt_ofNat]
theorem mk_sub (p q : Rat) : mk (p.num * q.den - q.num * p.den) (p.den * q.den) = fit (p - q) := by
  unfold mk
  rw [if_neg (den_mul_nz p q), Rat.sub_def', show (p.den : Int) * q.den = ((p.den * q.den : Nat) : Int) by simp, Rat.divInt_ofNat]
theorem mk_mul (p q : Rat) : mk (p.num * q.num) (p.den * q.den) = fit (p * q) := by
  unfold mk
  rw [if_neg (den_mul_nz p q), Rat.mul_def', show (p.den : Int) * q.den = ((p.den * q.den : Nat) : Int) by simp, Rat.divInt_ofNat]
theorem mk_div (p q : Rat) : mk (p.num * q.den) (p.den * q.num) = if q = 0 then none else fit (p / q) := by
  unfold mk
  have hp := p.den_nz
  by_cases hq : q = 0
  · subst hq; simp
  · have hn : q.num ≠ 0 := fun h => hq (Rat.num_eq_zero.1 h)
    rw [if_neg (Int.mul_ne_zero (by omega) hn), if_neg hq]
    congr 1
    rw [Rat.div_def, Rat.inv_def]
    conv => rhs; rw [← Rat.num_divInt_den p]
    rw [Rat.divInt_mul_divInt]
theorem mk_one (n : Int) (h : n.natAbs ≤ 1000000000) : mk n 1 = some (n : Rat) := by
  have := mk_self (n : Rat)
  simp only [Rat.num_intCast, Rat.den_intCast] at this
  have e : mk n 1 = fit (n : Rat) := this
  rw [e, fit_of]
  rw [fits_iff]; simp [h]
end Rt
end Go.Proofs.YtphphamfejgdaaaGreatDoor
