/- Plain facts on what the functions of fractions give, and the rules of arithmetic and order that follow. No condition of its own. -/
import Derived.Test.YtphphamfejgdaaaGreatDoorRatText
namespace Go.Proofs.YtphphamfejgdaaaGreatDoor
namespace Rt

/-! what each function gives, as the text reckons it -/
def both (a b c d : Int) : Bool := (rd a b).isSome && (rd c d).isSome
def addO (a b c d : Int) : Option Rat := if both a b c d then mk (a * d + c * b) (b * d) else none
def subO (a b c d : Int) : Option Rat := if both a b c d then mk (a * d - c * b) (b * d) else none
def mulO (a b c d : Int) : Option Rat := if both a b c d then mk (a * c) (b * d) else none
def divO (a b c d : Int) : Option Rat := if both a b c d then mk (a * d) (b * c) else none
def cmpI (x y : Int) : Int := if x < y then -1 else if x = y then 0 else 1
def cmpO (a b c d : Int) : Int := if both a b c d then cmpI (a * d) (c * b) else 0
def floorO (a b : Int) : Int := if (rd a b).isSome then a / b else 0
def roundO (a b k : Int) : Option Rat := if (rd a b).isSome && (decide (1 ≤ k) && decide (k ≤ 1000000000)) then mk ((2 * a * k + b) / (2 * b)) k else none
/-- The parts of a result: numerator, denominator, error. -/
def nm (o : Option Rat) : Int := match o with | some q => q.num | none => 0
def dn (o : Option Rat) : Int := match o with | some q => q.den | none => 0
def er (o : Option Rat) : Int := match o with | some _ => 0 | none => 30

theorem both_self {p q : Rat} (hp : fits p = true) (hq : fits q = true) : both p.num p.den q.num q.den = true := by
  unfold both; rw [rd_self hp, rd_self hq]; rfl
theorem both_some {a b c d : Int} (h : both a b c d = true) : ∃ p q, rd a b = some p ∧ rd c d = some q := by
  unfold both at h
  cases h1 : rd a b with
  | none => rw [h1] at h; cases h
  | some p =>
    cases h2 : rd c d with
    | none => rw [h1, h2] at h; cases h
    | some q => exact ⟨p, q, rfl, rfl⟩
theorem add_self {p q : Rat} (hp : fits p = true) (hq : fits q = true) : addO p.num p.den q.num q.den = fit (p + q) := by
  unfold addO; rw [both_self hp hq, if_pos rfl, mk_add]
theorem sub_self {p q : Rat} (hp : fits p = true) (hq : fits q = true) : subO p.num p.den q.num q.den = fit (p - q) := by
  unfold subO; rw [both_self hp hq, if_pos rfl, mk_sub]
theorem mul_self {p q : Rat} (hp : fits p = true) (hq : fits q = true) : mulO p.num p.den q.num q.den = fit (p * q) := by
  unfold mulO; rw [both_self hp hq, if_pos rfl, mk_mul]
theorem div_self {p q : Rat} (hp : fits p = true) (hq : fits q = true) : divO p.num p.den q.num q.den = if q = 0 then none else fit (p / q) := by
  unfold divO; rw [both_self hp hq, if_pos rfl, mk_div]

/-! integers -/
theorem mk_int {n : Int} (h1 : -1000000000 ≤ n) (h2 : n ≤ 1000000000) : mk n 1 = some (n : Rat) := mk_one n (by omega)
theorem fits_int {n : Int} (h1 : -1000000000 ≤ n) (h2 : n ≤ 1000000000) : fits (n : Rat) = true := by
  rw [fits_iff]; simp only [Rat.num_intCast, Rat.den_intCast]; omega
theorem fit_int_add {m n : Int} (h1 : -1000000000 ≤ m + n) (h2 : m + n ≤ 1000000000) : fit ((m : Rat) + (n : Rat)) = some ((m + n : Int) : Rat) := by
  rw [← Rat.intCast_add, fit_of (fits_int h1 h2)]
theorem fit_int_mul {m n : Int} (h1 : -1000000000 ≤ m * n) (h2 : m * n ≤ 1000000000) : fit ((m : Rat) * (n : Rat)) = some ((m * n : Int) : Rat) := by
  rw [← Rat.intCast_mul, fit_of (fits_int h1 h2)]

/-! order -/
def cmpR (p q : Rat) : Int := cmpI (p.num * q.den) (q.num * p.den)
theorem cmp_self {p q : Rat} (hp : fits p = true) (hq : fits q = true) : cmpO p.num p.den q.num q.den = cmpR p q := by
  unfold cmpO; rw [both_self hp hq, if_pos rfl]; rfl
theorem cmpR_lt {p q : Rat} : cmpR p q = -1 ↔ p < q := by
  rw [Rat.lt_iff]; unfold cmpR cmpI
  split
  · simp [*]
  · split <;> simp [*]
theorem cmpR_eq {p q : Rat} : cmpR p q = 0 ↔ p = q := by
  rw [Rat.eq_iff_mul_eq_mul]; unfold cmpR cmpI
  split
  · constructor
    · intro h; cases h
    · intro h; omega
  · split <;> simp [*]
theorem cmpR_gt {p q : Rat} : cmpR p q = 1 ↔ q < p := by
  rw [Rat.lt_iff]; unfold cmpR cmpI
  split
  · constructor
    · intro h; cases h
    · intro h; omega
  · split
    · constructor
      · intro h; cases h
      · intro h; omega
    · constructor
      · intro _; omega
      · intro _; rfl
theorem cmpR_cases (p q : Rat) : (cmpR p q = -1 ∧ p < q) ∨ (cmpR p q = 0 ∧ p = q) ∨ (cmpR p q = 1 ∧ q < p) := by
  have h1 := @cmpR_lt p q
  have h2 := @cmpR_eq p q
  have h3 := @cmpR_gt p q
  have : cmpR p q = -1 ∨ cmpR p q = 0 ∨ cmpR p q = 1 := by
    unfold cmpR cmpI
    split
    · left; rfl
    · split
      · right; left; rfl
      · right; right; rfl
  rcases this with h | h | h
  · exact .inl ⟨h, h1.1 h⟩
  · exact .inr (.inl ⟨h, h2.1 h⟩)
  · exact .inr (.inr ⟨h, h3.1 h⟩)
theorem cmpR_neg (p q : Rat) : cmpR q p = -cmpR p q := by
  rcases cmpR_cases p q with ⟨h, h'⟩ | ⟨h, h'⟩ | ⟨h, h'⟩
  · rw [h, cmpR_gt.2 h']; rfl
  · rw [h, cmpR_eq.2 h'.symm]; rfl
  · rw [h, cmpR_lt.2 h']
theorem cmpR_le {p q : Rat} : cmpR p q ≤ 0 ↔ p ≤ q := by
  rcases cmpR_cases p q with ⟨h, h'⟩ | ⟨h, h'⟩ | ⟨h, h'⟩
  · rw [h]; simp [Rat.le_of_lt h']
  · rw [h, h']; simp
  · rw [h]; simp [Rat.not_le.2 h']
theorem num_pos {q : Rat} : 0 < q.num ↔ 0 < q := by
  rw [Rat.lt_iff]; simp
theorem sub_num (p q : Rat) : (cmpR p q = -1 ↔ 0 < (q - p).num) ∧ (cmpR p q = 0 ↔ (q - p).num = 0) := by
  constructor
  · rw [num_pos, cmpR_lt, Rat.lt_iff_sub_pos]
  · rw [cmpR_eq, Rat.num_eq_zero]
    constructor
    · intro h; rw [h, Rat.sub_self]
    · intro h
      have h2 : q - p + p = 0 + p := by rw [h]
      rw [Rat.sub_add_cancel, Rat.zero_add] at h2
      exact h2.symm
theorem cmpR_trans (p q r : Rat) (h1 : cmpR p q ≤ 0) (h2 : cmpR q r ≤ 0) : cmpR p r ≤ 0 ∧ (cmpR p q < 0 → cmpR p r < 0) := by
  have h3 := Rat.le_trans (cmpR_le.1 h1) (cmpR_le.1 h2)
  refine ⟨cmpR_le.2 h3, fun h => ?_⟩
  rcases cmpR_cases p r with ⟨k, _⟩ | ⟨k, k'⟩ | ⟨k, _⟩
  · omega
  · exfalso
    subst k'
    have := cmpR_le.1 h2
    have e := Rat.le_antisymm (cmpR_le.1 h1) this
    rw [cmpR_eq.2 e] at h; omega
  · have := cmpR_le.2 h3; omega
end Rt
end Go.Proofs.YtphphamfejgdaaaGreatDoor
