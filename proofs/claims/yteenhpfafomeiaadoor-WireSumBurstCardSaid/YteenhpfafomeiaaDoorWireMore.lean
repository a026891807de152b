/- Plain facts on the checksum: it is affine, and it notices each burst. No condition. -/
import Derived.Test.YteenhpfafomeiaaDoorWireMath
namespace Go.Proofs.YteenhpfafomeiaaDoor
namespace Wm

theorem xor3 (a b c p q r : Nat) : (a ^^^ b ^^^ c) ^^^ (p ^^^ q ^^^ r) = (a ^^^ p) ^^^ (b ^^^ q) ^^^ (c ^^^ r) := by
  apply Nat.eq_of_testBit_eq; intro i
  simp only [Nat.testBit_xor]
  cases a.testBit i <;> cases b.testBit i <;> cases c.testBit i <;> cases p.testBit i <;> cases q.testBit i <;> cases r.testBit i <;> rfl
theorem mul_xor (a b : Nat) : 256 * (a ^^^ b) = 256 * a ^^^ 256 * b := by
  apply Nat.eq_of_testBit_eq; intro i
  rw [Nat.testBit_xor, show (256 : Nat) = 2 ^ 8 from rfl, Nat.testBit_two_pow_mul, Nat.testBit_two_pow_mul, Nat.testBit_two_pow_mul, Nat.testBit_xor]
  cases decide (8 ≤ i) <;> simp
theorem leN_xor3 (x : List UInt8) : ∀ (a b c : List UInt8), a.length = x.length → b.length = x.length → c.length = x.length →
    (∀ j, j < x.length → (x.getD j 0).toNat = (a.getD j 0).toNat ^^^ (b.getD j 0).toNat ^^^ (c.getD j 0).toNat) → leN x = leN a ^^^ leN b ^^^ leN c := by
  induction x with
  | nil =>
    intro a b c ha hb hc _
    obtain rfl := List.eq_nil_of_length_eq_zero ha
    obtain rfl := List.eq_nil_of_length_eq_zero hb
    obtain rfl := List.eq_nil_of_length_eq_zero hc
    rfl
  | cons x0 x ih =>
    intro a b c ha hb hc h
    match a, ha, b, hb, c, hc with
    | a0 :: a, ha, b0 :: b, hb, c0 :: c, hc =>
      have h0 := h 0 (by simp)
      simp at h0
      have ht := ih a b c (by simpa using ha) (by simpa using hb) (by simpa using hc) (fun j hj => by
        have := h (j + 1) (by simpa using hj)
        simpa using this)
      simp only [leN]
      rw [add_xor _ _ x0.toNat_lt, add_xor _ _ a0.toNat_lt, add_xor _ _ b0.toNat_lt, add_xor _ _ c0.toNat_lt, ht, h0, mul_xor, mul_xor]
      exact xor3 _ _ _ _ _ _

theorem not32 (r : Nat) (h : r < 4294967296) : 4294967295 - r = 4294967295 ^^^ r := by
  apply Nat.eq_of_testBit_eq
  intro i
  have e : 4294967295 - r = 2 ^ 32 - (r + 1) := by simp
  rw [e, Nat.testBit_two_pow_sub_succ (by simpa using h), Nat.testBit_xor, show (4294967295 : Nat) = 2 ^ 32 - 1 from rfl, Nat.testBit_two_pow_sub_one]
  by_cases hi : i < 32
  · simp [hi]
  · have : r.testBit i = false := Nat.testBit_lt_two_pow (Nat.lt_of_lt_of_le h (by simpa using Nat.pow_le_pow_right (n := 2) (by omega) (by omega : 32 ≤ i)))
    simp [hi, this]
theorem crc_eq (l : List UInt8) : crc l = 4294967295 ^^^ cfN (8 * l.length) (4294967295 ^^^ leN l) := by
  unfold crc
  rw [not32 _ (crcL_lt l (by decide)), crcL_eq]
theorem crc_lt (l : List UInt8) : crc l < 4294967296 := by unfold crc; omega

/-- The checksum is affine. -/
theorem crc_xor3 (x a b c : List UInt8) (ha : a.length = x.length) (hb : b.length = x.length) (hc : c.length = x.length)
    (h : ∀ j, j < x.length → (x.getD j 0).toNat = (a.getD j 0).toNat ^^^ (b.getD j 0).toNat ^^^ (c.getD j 0).toNat) : crc x = crc a ^^^ crc b ^^^ crc c := by
  rw [crc_eq, crc_eq, crc_eq, crc_eq, ha, hb, hc, leN_xor3 x a b c ha hb hc h]
  generalize 8 * x.length = N
  have e : 4294967295 ^^^ (leN a ^^^ leN b ^^^ leN c) = (4294967295 ^^^ leN a) ^^^ (4294967295 ^^^ leN b) ^^^ (4294967295 ^^^ leN c) := by
    apply Nat.eq_of_testBit_eq; intro i
    simp only [Nat.testBit_xor]
    cases (4294967295 : Nat).testBit i <;> cases (leN a).testBit i <;> cases (leN b).testBit i <;> cases (leN c).testBit i <;> rfl
  rw [e, cfN_xor, cfN_xor]
  generalize cfN N (4294967295 ^^^ leN a) = A
  generalize cfN N (4294967295 ^^^ leN b) = B
  generalize cfN N (4294967295 ^^^ leN c) = C
  apply Nat.eq_of_testBit_eq; intro i
  simp only [Nat.testBit_xor]
  cases (4294967295 : Nat).testBit i <;> cases A.testBit i <;> cases B.testBit i <;> cases C.testBit i <;> rfl

/-- A changed byte, seen in the number of the string. -/
theorem leN_set (l : List UInt8) : ∀ (k : Nat) (v : UInt8), k < l.length → leN (l.set k (l.getD k 0 ^^^ v)) = leN l ^^^ v.toNat * 256 ^ k := by
  induction l with
  | nil => intro k v h; simp at h
  | cons b t ih =>
    intro k v h
    cases k with
    | zero =>
      simp only [List.set_cons_zero, List.getD_cons_zero, leN, Nat.pow_zero, Nat.mul_one]
      rw [add_xor _ _ (UInt8.toNat_lt _), add_xor _ _ b.toNat_lt, UInt8.toNat_xor]
      apply Nat.eq_of_testBit_eq; intro i
      simp only [Nat.testBit_xor]
      cases b.toNat.testBit i <;> cases v.toNat.testBit i <;> cases (256 * leN t).testBit i <;> rfl
    | succ k =>
      have := ih k v (by simpa using h)
      simp only [List.set_cons_succ, List.getD_cons_succ, leN]
      rw [add_xor _ _ b.toNat_lt, add_xor _ _ b.toNat_lt, this, mul_xor, ← Nat.xor_assoc]
      congr 1
      rw [Nat.pow_succ, Nat.mul_comm 256 (v.toNat * 256 ^ k), Nat.mul_assoc]

/-- The number of the first bits, with one more. -/
theorem mod_succ_bit (x i : Nat) : x % 2 ^ (i + 1) = x % 2 ^ i ^^^ (x / 2 ^ i % 2) * 2 ^ i := by
  apply Nat.eq_of_testBit_eq; intro j
  rw [Nat.testBit_xor, Nat.testBit_mod_two_pow, Nat.testBit_mod_two_pow, Nat.mul_comm, Nat.testBit_two_pow_mul]
  have hb : (x / 2 ^ i % 2).testBit (j - i) = (decide (j = i) && x.testBit i || (decide (j < i) && x.testBit i)) := by
    have h0 : (x / 2 ^ i % 2) = (x.testBit i).toNat := by
      rw [Nat.testBit_eq_decide_div_mod_eq]
      rcases Nat.mod_two_eq_zero_or_one (x / 2 ^ i) with h | h <;> simp [h]
    rw [h0]
    rcases Nat.lt_trichotomy j i with h | h | h
    · have : j - i = 0 := by omega
      rw [this]; simp [h, Nat.ne_of_lt h]; cases x.testBit i <;> rfl
    · subst h; simp; cases x.testBit j <;> rfl
    · have : ∃ m, j - i = m + 1 := ⟨j - i - 1, by omega⟩
      obtain ⟨m, hm⟩ := this
      rw [hm]
      simp [Nat.ne_of_gt h, Nat.not_lt_of_gt h]
      cases x.testBit i <;> simp [Nat.testBit_succ]
  rw [hb]
  rcases Nat.lt_trichotomy j i with h | h | h
  · simp [h, Nat.lt_succ_of_lt h, Nat.not_le_of_gt h]
  · subst h; simp
  · simp [Nat.not_lt_of_gt h, show ¬ j < i + 1 by omega, Nat.ne_of_gt h]

/-- A burst is noticed. -/
theorem crc_burst (l l' : List UInt8) (f W : Nat) (hl : l'.length = l.length) (hf : f ≤ 8 * l.length) (hW : W < 4294967296) (h : leN l' = leN l ^^^ W * 2 ^ f) : (crc l' = crc l ↔ W = 0) := by
  constructor
  · intro e
    rw [crc_eq, crc_eq, hl, h, ← Nat.xor_assoc, cfN_xor (8 * l.length) (4294967295 ^^^ leN l)] at e
    have e2 : cfN (8 * l.length) (W * 2 ^ f) = 0 := by
      have : (4294967295 ^^^ cfN (8 * l.length) (4294967295 ^^^ leN l)) ^^^ (4294967295 ^^^ (cfN (8 * l.length) (4294967295 ^^^ leN l) ^^^ cfN (8 * l.length) (W * 2 ^ f))) = 0 := by rw [e, Nat.xor_self]
      rw [← this]
      generalize cfN (8 * l.length) (4294967295 ^^^ leN l) = A
      generalize cfN (8 * l.length) (W * 2 ^ f) = B
      apply Nat.eq_of_testBit_eq; intro i
      simp only [Nat.testBit_xor]
      cases (4294967295 : Nat).testBit i <;> cases A.testBit i <;> cases B.testBit i <;> rfl
    rw [show 8 * l.length = f + (8 * l.length - f) by omega, cfN_add, Nat.mul_comm W, cfN_pow] at e2
    exact cfN_zero _ hW e2
  · intro e
    subst e
    rw [crc_eq, crc_eq, hl, h]; simp
end Wm
end Go.Proofs.YteenhpfafomeiaaDoor
