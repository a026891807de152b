/- Plain facts on the encodings of integers and strings and on the checksum: numbers and lists alone. No condition. -/
namespace Go.Proofs.YteenhpfafomeiaaDoor
namespace Wm

/-- The number that is encoded for n. -/
def zz (n : Int) : Nat := if n < 0 then (-2 * n - 1).toNat else (2 * n).toNat
/-- The integer whose number is z. -/
def unz (z : Nat) : Int := if z % 2 = 1 then - (z / 2 : Nat) - 1 else (z / 2 : Nat)

theorem unz_zz (n : Int) : unz (zz n) = n := by
  unfold unz zz
  by_cases h : n < 0 <;> simp only [h, if_true, if_false] <;> split <;> omega
theorem zz_unz (z : Nat) : zz (unz z) = z := by
  unfold unz zz
  by_cases h : z % 2 = 1
  · simp only [h, if_true]; rw [if_pos (by omega)]; omega
  · simp only [h, if_false]; rw [if_neg (by omega)]; omega
theorem zz_inj {a b : Int} (h : zz a = zz b) : a = b := by rw [← unz_zz a, h, unz_zz]
theorem zz_lt (n : Int) (h1 : -4611686018427387903 ≤ n) (h2 : n ≤ 4611686018427387903) : zz n < 9223372036854775807 := by
  unfold zz; split <;> omega

/-- The groups of z, from the least significant one, with at most f + 1 of them. -/
def encF : Nat → Nat → List UInt8
  | 0, z => [UInt8.ofNat z]
  | f + 1, z => if z < 128 then [UInt8.ofNat z] else UInt8.ofNat (z % 128 + 128) :: encF f (z / 128)
def enc (z : Nat) : List UInt8 := encF 8 z

theorem encF_pos (f z : Nat) : 1 ≤ (encF f z).length := by
  cases f with
  | zero => simp [encF]
  | succ f => unfold encF; split <;> simp
theorem encF_le (f : Nat) : ∀ z, (encF f z).length ≤ f + 1 := by
  induction f with
  | zero => intro z; simp [encF]
  | succ f ih => intro z; unfold encF; split; · simp
                 · have := ih (z / 128); simp; omega

/-- What the list begins with: the number and how many bytes it takes; i: how many bytes came before. -/
def dec : Nat → Nat → List UInt8 → Option (Nat × Nat)
  | 0, _, _ => none
  | _ + 1, _, [] => none
  | f + 1, i, b :: t =>
    if b.toNat < 128 then (if b.toNat = 0 ∧ 0 < i then none else some (b.toNat, 1))
    else match dec f (i + 1) t with
      | none => none
      | some (z, k) => some (b.toNat % 128 + 128 * z, k + 1)

theorem dec_bound (f : Nat) : ∀ i l z k, dec f i l = some (z, k) → z < 128 ^ f ∧ 1 ≤ k ∧ k ≤ f ∧ k ≤ l.length := by
  induction f with
  | zero => intro i l z k h; simp [dec] at h
  | succ f ih =>
    intro i l z k h
    cases l with
    | nil => simp [dec] at h
    | cons b t =>
      unfold dec at h
      have hp : 128 ^ (f + 1) = 128 * 128 ^ f := by rw [Nat.pow_succ]; omega
      have hq : 0 < 128 ^ f := Nat.pow_pos (by omega)
      split at h
      · rename_i hb
        split at h
        · simp at h
        · simp at h; obtain ⟨rfl, rfl⟩ := h; simp; omega
      · split at h
        · simp at h
        · rename_i z' k' hd
          simp at h; obtain ⟨rfl, rfl⟩ := h
          have := ih _ _ _ _ hd
          simp only [List.length_cons]
          omega

theorem dec_enc (f : Nat) : ∀ i z t, z < 128 ^ (f + 1) → (0 < i → 0 < z) → dec (f + 1) i (encF f z ++ t) = some (z, (encF f z).length) := by
  induction f with
  | zero =>
    intro i z t hz hi
    have e : (UInt8.ofNat z).toNat = z := by simp at hz ⊢; omega
    simp [encF, dec, e]
    omega
  | succ f ih =>
    intro i z t hz hi
    have hp : 128 ^ (f + 1 + 1) = 128 * 128 ^ (f + 1) := by rw [Nat.pow_succ]; omega
    unfold encF
    split
    · rename_i h
      have e : (UInt8.ofNat z).toNat = z := by simp; omega
      have hn : ¬ (z = 0 ∧ 0 < i) := by omega
      simp only [List.cons_append, List.nil_append, dec, e, if_pos h, if_neg hn]
      rfl
    · rename_i h
      have e : (UInt8.ofNat (z % 128 + 128)).toNat = z % 128 + 128 := by simp; omega
      have hd := ih (i + 1) (z / 128) t (by omega) (by omega)
      simp only [List.cons_append]
      rw [dec, hd, e, if_neg (by omega)]
      simp
      omega

theorem enc_dec (f : Nat) : ∀ i l z k, dec (f + 1) i l = some (z, k) → l.take k = encF f z ∧ (0 < i → 0 < z) := by
  induction f with
  | zero =>
    intro i l z k h
    cases l with
    | nil => simp [dec] at h
    | cons b t =>
      unfold dec at h
      split at h
      · split at h
        · simp at h
        · simp at h; obtain ⟨rfl, rfl⟩ := h
          simp [encF]; omega
      · simp [dec] at h
  | succ f ih =>
    intro i l z k h
    cases l with
    | nil => simp [dec] at h
    | cons b t =>
      unfold dec at h
      split at h
      · split at h
        · simp at h
        · simp at h; obtain ⟨rfl, rfl⟩ := h
          rename_i hb _
          simp [encF, hb]; omega
      · rename_i hb
        split at h
        · simp at h
        · rename_i z' k' hd
          simp at h; obtain ⟨rfl, rfl⟩ := h
          obtain ⟨h1, h2⟩ := ih _ _ _ _ hd
          have hz' : 0 < z' := h2 (by omega)
          have hb' := b.toNat_lt
          refine ⟨?_, by omega⟩
          unfold encF
          rw [if_neg (by omega)]
          have e1 : (b.toNat % 128 + 128 * z') / 128 = z' := by omega
          have e2 : (b.toNat % 128 + 128 * z') % 128 + 128 = b.toNat := by omega
          rw [e1, e2, List.take_succ_cons, h1]
          simp

/-- The integer that the list begins with, and how many bytes it takes. -/
def decI (l : List UInt8) : Option (Int × Nat) :=
  match dec 9 0 l with
  | none => none
  | some (z, k) => if unz z < -4611686018427387903 then none else some (unz z, k)
def encI (n : Int) : List UInt8 := enc (zz n)
def Fits (n : Int) : Prop := -4611686018427387903 ≤ n ∧ n ≤ 4611686018427387903

theorem encI_pos (n : Int) : 1 ≤ (encI n).length := encF_pos _ _
theorem encI_le (n : Int) : (encI n).length ≤ 9 := encF_le _ _

theorem decI_encI {n : Int} (h : Fits n) (t : List UInt8) : decI (encI n ++ t) = some (n, (encI n).length) := by
  have hz := zz_lt n h.1 h.2
  have hd := dec_enc 8 0 (zz n) t (by omega) (by omega)
  unfold decI encI enc
  rw [hd]
  simp only [unz_zz]
  rw [if_neg (by have := h.1; omega)]

theorem encI_decI {l : List UInt8} {n : Int} {k : Nat} (h : decI l = some (n, k)) : Fits n ∧ l.take k = encI n ∧ k = (encI n).length ∧ k ≤ l.length := by
  unfold decI at h
  split at h
  · simp at h
  · rename_i z k' hd
    split at h
    · simp at h
    · rename_i hn
      simp at h; obtain ⟨rfl, rfl⟩ := h
      have hb := dec_bound _ _ _ _ _ hd
      have he := (enc_dec 8 _ _ _ _ hd).1
      have e : encI (unz z) = encF 8 z := by unfold encI enc; rw [zz_unz]
      refine ⟨⟨by omega, ?_⟩, by rw [e, he], ?_, hb.2.2.2⟩
      · unfold unz; unfold unz at hn; split <;> omega
      · rw [e, ← he, List.length_take]; omega

/-- Encodings are prefix free. -/
theorem encI_prefix {a b : Int} (ha : Fits a) (hb : Fits b) {t : List UInt8} (h : encI b = encI a ++ t) : a = b := by
  have h1 := decI_encI ha t
  have h2 := decI_encI hb []
  rw [List.append_nil, h, h1] at h2
  simp at h2
  exact h2.1

/-- No proper beginning of an encoding is accepted. -/
theorem decI_take {n : Int} (h : Fits n) {j : Nat} (hj : j < (encI n).length) : decI ((encI n).take j) = none := by
  cases hd : decI ((encI n).take j) with
  | none => rfl
  | some p =>
    obtain ⟨m, k⟩ := p
    obtain ⟨hm, ht, hk, hl⟩ := encI_decI hd
    have hl' : k ≤ j := by rw [List.length_take] at hl; omega
    have : encI n = encI m ++ (encI n).drop k := by
      rw [← ht, List.take_take, Nat.min_eq_left hl', List.take_append_drop]
    have e := encI_prefix hm h this
    subst e
    omega

/-- Strings: the length's encoding, and the bytes. -/
def encS (s : List UInt8) : List UInt8 := encI s.length ++ s
def decS (l : List UInt8) : Option (List UInt8 × Nat) :=
  match decI l with
  | none => none
  | some (n, k) => if n < 0 ∨ 65536 < n ∨ (l.length : Int) - k < n then none else some ((l.drop k).take n.toNat, k + n.toNat)

theorem decS_encS {s : List UInt8} (h : s.length ≤ 65536) (t : List UInt8) : decS (encS s ++ t) = some (s, (encS s).length) := by
  have hf : Fits (s.length : Int) := ⟨by omega, by omega⟩
  unfold decS encS
  rw [List.append_assoc, decI_encI hf]
  simp only [List.length_append]
  rw [if_neg (by omega)]
  simp

theorem encS_decS {l s : List UInt8} {k : Nat} (h : decS l = some (s, k)) : s.length ≤ 65536 ∧ l.take k = encS s ∧ k = (encS s).length ∧ k ≤ l.length := by
  unfold decS at h
  split at h
  · simp at h
  · rename_i n k' hd
    split at h
    · simp at h
    · rename_i hn
      simp at h; obtain ⟨rfl, rfl⟩ := h
      obtain ⟨hf, ht, hk, hl⟩ := encI_decI hd
      have hlen : ((l.drop k').take n.toNat).length = n.toNat := by simp; omega
      have hen : encI (((l.drop k').take n.toNat).length : Int) = encI n := by rw [hlen]; congr 1; omega
      refine ⟨by omega, ?_, ?_, by omega⟩
      · unfold encS
        rw [hen, ← ht, List.take_add]
      · unfold encS
        rw [List.length_append, hen, hlen]; omega

theorem decS_take {s : List UInt8} (h : s.length ≤ 65536) {j : Nat} (hj : j < (encS s).length) : decS ((encS s).take j) = none := by
  cases hd : decS ((encS s).take j) with
  | none => rfl
  | some p =>
    obtain ⟨u, k⟩ := p
    obtain ⟨hu, ht, hk, hl⟩ := encS_decS hd
    have hl' : k ≤ j := by rw [List.length_take] at hl; omega
    have e : encS s = encS u ++ (encS s).drop k := by
      rw [← ht, List.take_take, Nat.min_eq_left hl', List.take_append_drop]
    have h1 := decS_encS h []
    rw [List.append_nil, e, decS_encS hu] at h1
    simp at h1
    obtain ⟨rfl, h2⟩ := h1
    omega
end Wm
namespace Wm
/-- One step of the register. -/
def cf (r : Nat) : Nat := r / 2 ^^^ (if r % 2 = 1 then 2197175160 else 0)
def cfN : Nat → Nat → Nat
  | 0, r => r
  | k + 1, r => cfN k (cf r)
theorem xor_half (a b : Nat) : (a ^^^ b) / 2 = a / 2 ^^^ b / 2 := by
  have := Nat.xor_div_two_pow (a := a) (b := b) (n := 1)
  simpa using this
theorem xor_par (a b : Nat) : (a ^^^ b) % 2 = (a % 2) ^^^ (b % 2) := by
  have := Nat.xor_mod_two_pow (a := a) (b := b) (n := 1)
  simpa using this
theorem cf_xor (a b : Nat) : cf (a ^^^ b) = cf a ^^^ cf b := by
  unfold cf
  rw [xor_half, xor_par]
  rcases Nat.mod_two_eq_zero_or_one a with ha | ha <;> rcases Nat.mod_two_eq_zero_or_one b with hb | hb <;> simp only [ha, hb] <;> simp
  · rw [Nat.xor_assoc]
  · rw [Nat.xor_assoc, Nat.xor_comm (b / 2), ← Nat.xor_assoc]
  · rw [Nat.xor_assoc, Nat.xor_comm 2197175160, Nat.xor_assoc, Nat.xor_self, Nat.xor_zero]
theorem cfN_xor (k : Nat) : ∀ a b, cfN k (a ^^^ b) = cfN k a ^^^ cfN k b := by
  induction k with
  | zero => intro a b; rfl
  | succ k ih => intro a b; simp only [cfN, cf_xor, ih]
theorem cf_double (m : Nat) : cf (2 * m) = m := by
  unfold cf; rw [if_neg (by omega)]; simp
theorem cfN_add (j k : Nat) : ∀ r, cfN (j + k) r = cfN k (cfN j r) := by
  induction j with
  | zero => intro r; simp [cfN]
  | succ j ih => intro r; rw [show j + 1 + k = (j + k) + 1 by omega]; simp only [cfN, ih]
theorem cfN_pow (k : Nat) : ∀ m, cfN k (2 ^ k * m) = m := by
  induction k with
  | zero => intro m; simp [cfN]
  | succ k ih => intro m; rw [cfN, show 2 ^ (k + 1) * m = 2 * (2 ^ k * m) by rw [Nat.pow_succ, Nat.mul_comm (2 ^ k) 2, Nat.mul_assoc], cf_double, ih]
theorem cf_lt {r : Nat} (h : r < 4294967296) : cf r < 4294967296 := by
  unfold cf
  exact Nat.xor_lt_two_pow (n := 32) (by simp; omega) (by split <;> decide)
theorem cfN_lt (k : Nat) : ∀ {r}, r < 4294967296 → cfN k r < 4294967296 := by
  induction k with
  | zero => intro r h; exact h
  | succ k ih => intro r h; exact ih (cf_lt h)
theorem xor_eq {a b : Nat} (h : a ^^^ b = 0) : a = b := by
  have : a = (a ^^^ b) ^^^ b := by rw [Nat.xor_assoc, Nat.xor_self, Nat.xor_zero]
  rw [this, h, Nat.zero_xor]
theorem cf_zero {r : Nat} (h : r < 4294967296) (e : cf r = 0) : r = 0 := by
  unfold cf at e
  have := xor_eq e
  split at this <;> omega
theorem cfN_zero (k : Nat) : ∀ {r}, r < 4294967296 → cfN k r = 0 → r = 0 := by
  induction k with
  | zero => intro r _ e; exact e
  | succ k ih => intro r h e; exact cf_zero h (ih (cf_lt h) e)
theorem cfN_of_zero (k : Nat) : cfN k 0 = 0 := by
  induction k with
  | zero => rfl
  | succ k ih => exact ih

/-- A string as a number, its first byte the least significant one. -/
def leN : List UInt8 → Nat
  | [] => 0
  | b :: t => b.toNat + 256 * leN t
theorem leN_lt (l : List UInt8) : leN l < 256 ^ l.length := by
  induction l with
  | nil => simp [leN]
  | cons b t ih => have := b.toNat_lt; simp only [leN, List.length_cons, Nat.pow_succ]; omega
theorem add_xor (b m : Nat) (h : b < 256) : b + 256 * m = b ^^^ 256 * m := by
  have h1 := Nat.two_pow_add_eq_or_of_lt (i := 8) (b := b) (by simpa using h) m
  have e : (256 * m) ^^^ b = (256 * m) ||| b := by
    apply Nat.eq_of_testBit_eq
    intro i
    simp only [Nat.testBit_xor, Nat.testBit_or]
    have : ¬ ((256 * m).testBit i = true ∧ b.testBit i = true) := by
      rintro ⟨x, y⟩
      have hi : i < 8 := by
        rcases Nat.lt_or_ge i 8 with hi | hi
        · exact hi
        · exact absurd y (by rw [Nat.testBit_lt_two_pow (Nat.lt_of_lt_of_le h (by simpa using Nat.pow_le_pow_right (n := 2) (by omega) hi))]; simp)
      have := Nat.testBit_two_pow_mul (i := 8) (a := m) (j := i)
      rw [show (2 : Nat) ^ 8 = 256 from rfl] at this
      rw [this] at x
      simp at x; omega
    cases hx : (256 * m).testBit i <;> cases hy : b.testBit i <;> simp_all
  rw [Nat.add_comm, Nat.xor_comm, e]
  simpa using h1

/-- One byte. -/
def crcStep (r : Nat) (b : UInt8) : Nat := cfN 8 (r ^^^ b.toNat)
def crcL (r : Nat) (l : List UInt8) : Nat := l.foldl crcStep r
theorem crcL_eq (l : List UInt8) : ∀ r, crcL r l = cfN (8 * l.length) (r ^^^ leN l) := by
  induction l with
  | nil => intro r; simp [crcL, leN, cfN]
  | cons b t ih =>
    intro r
    have : crcL r (b :: t) = crcL (crcStep r b) t := rfl
    rw [this, ih]
    unfold crcStep
    rw [List.length_cons, show 8 * (t.length + 1) = 8 + 8 * t.length by omega, cfN_add, leN, add_xor _ _ b.toNat_lt, ← Nat.xor_assoc, cfN_xor 8 (r ^^^ b.toNat)]
    congr 2
    exact (cfN_pow 8 _).symm
theorem crcL_lt (l : List UInt8) : ∀ {r}, r < 4294967296 → crcL r l < 4294967296 := by
  induction l with
  | nil => intro r h; exact h
  | cons b t ih => intro r h; exact ih (cfN_lt 8 (Nat.xor_lt_two_pow (n := 32) h (by have := b.toNat_lt; simp; omega)))
/-- The checksum. -/
def crc (l : List UInt8) : Nat := 4294967295 - crcL 4294967295 l

/-- The table of four steps. -/
def tab : List Nat := [0, 274646895, 549293790, 820201905, 1098587580, 1361435347, 1640403810, 1905808397, 2197175160, 2460548119, 2722870694, 2987750089, 3280807620, 3553878443, 3811616794, 4084100981]
theorem cf4 (r : Nat) : cfN 4 r = r / 16 ^^^ tab.getD (r % 16) 0 := by
  have e : r = (r % 16) ^^^ 16 * (r / 16) := by
    have h1 := Nat.two_pow_add_eq_or_of_lt (i := 4) (b := r % 16) (by simp; omega) (r / 16)
    apply Nat.eq_of_testBit_eq
    intro i
    rw [Nat.testBit_xor]
    have hl := Nat.testBit_mod_two_pow r 4 i
    have hr := Nat.testBit_two_pow_mul (i := 4) (a := r / 2 ^ 4) (j := i)
    simp at hl hr
    rw [hl, hr]
    by_cases h : i < 4
    · have h' : ¬ 4 ≤ i := by omega
      simp [h, h']
    · have h' : 4 ≤ i := by omega
      have hd' : (r / 16).testBit (i - 4) = r.testBit i := by
        have := Nat.testBit_div_two_pow r (i - 4) (n := 4)
        rw [show i - 4 + 4 = i by omega] at this
        simpa using this
      simp [h, h', hd']
  have e2 : cfN 4 r = cfN 4 (r % 16) ^^^ cfN 4 (16 * (r / 16)) := by
    conv => lhs; rw [e]
    exact cfN_xor 4 _ _
  rw [e2, show (16 : Nat) = 2 ^ 4 from rfl, cfN_pow 4, Nat.xor_comm]
  congr 1
  have hm : r % 2 ^ 4 < 16 := Nat.mod_lt _ (by decide)
  generalize r % 2 ^ 4 = c at hm
  have all : ∀ c, c < 16 → cfN 4 c = tab.getD c 0 := by decide
  exact all c hm
theorem crcStep_tab (r : Nat) (b : UInt8) : crcStep r b = (let x := r ^^^ b.toNat; let y := x / 16 ^^^ tab.getD (x % 16) 0; y / 16 ^^^ tab.getD (y % 16) 0) := by
  unfold crcStep
  rw [show (8 : Nat) = 4 + 4 from rfl, cfN_add, cf4, cf4]
end Wm

namespace Wm
/-- A group, and whether it is the last one. -/
abbrev GB := { p : Nat × Bool // p.1 < 128 }
def grpF : Nat → Nat → List GB
  | 0, z => [⟨(z % 128, true), Nat.mod_lt _ (by decide)⟩]
  | f + 1, z => if h : z < 128 then [⟨(z, true), h⟩] else ⟨(z % 128, false), Nat.mod_lt _ (by decide)⟩ :: grpF f (z / 128)
/-- The number that stands for a group. -/
def outN (p : GB) : Nat := if p.1.2 = true then p.1.1 else p.1.1 + 128
theorem outN_lt (p : GB) : outN p < 256 := by have := p.2; unfold outN; split <;> omega
def outB (p : GB) : UInt8 := UInt8.ofNat (outN p)
theorem outB_toNat (p : GB) : (outB p).toNat = outN p := by have := outN_lt p; unfold outB; simp; omega
theorem grpF_pos (f z : Nat) : 1 ≤ (grpF f z).length := by
  cases f with
  | zero => simp [grpF]
  | succ f => unfold grpF; split <;> simp
theorem grpF_le (f : Nat) : ∀ z, (grpF f z).length ≤ f + 1 := by
  induction f with
  | zero => intro z; simp [grpF]
  | succ f ih => intro z; unfold grpF; split; · simp
                 · have := ih (z / 128); simp; omega
theorem encF_grp (f : Nat) : ∀ z, z < 128 ^ (f + 1) → encF f z = (grpF f z).map outB := by
  induction f with
  | zero => intro z h; simp at h; simp [encF, grpF, outB, outN]; rw [Nat.mod_eq_of_lt h]
  | succ f ih =>
    intro z h
    have hp : 128 ^ (f + 1 + 1) = 128 * 128 ^ (f + 1) := by rw [Nat.pow_succ]; omega
    unfold encF grpF
    by_cases hz : z < 128
    · simp [hz, outB, outN]
    · simp only [hz, if_false, dif_neg, not_false_eq_true, List.map_cons]
      rw [ih _ (by omega)]
      simp [outB, outN]
theorem grpF_last {f z : Nat} (h : z < 128) : grpF f z = [⟨(z, true), h⟩] := by
  cases f with
  | zero => simp only [grpF]; congr 1; apply Subtype.ext; show (z % 128, true) = (z, true); rw [Nat.mod_eq_of_lt h]
  | succ f => simp [grpF, h]
theorem grpF_more {f z : Nat} (h : ¬ z < 128) (hf : z < 128 ^ (f + 1)) : ∃ f', f = f' + 1 ∧ grpF f z = ⟨(z % 128, false), Nat.mod_lt _ (by decide)⟩ :: grpF f' (z / 128) ∧ z / 128 < 128 ^ (f' + 1) := by
  cases f with
  | zero => simp at hf; omega
  | succ f =>
    have hp : 128 ^ (f + 1 + 1) = 128 * 128 ^ (f + 1) := by rw [Nat.pow_succ]; omega
    exact ⟨f, rfl, by simp [grpF, h], by omega⟩
end Wm
end Go.Proofs.YteenhpfafomeiaaDoor
