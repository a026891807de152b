/- Plain facts on the texts of fractions: printed, parsed again, and parsed as the reference parses. No condition of its own. -/
import Derived.Test.YtphphamfejgdaaaGreatDoorRatNum
import Derived.Lib.AtoiAll
import Derived.Lib.ItoaNum
import Derived.Lib.IndexMore
namespace Go.Proofs.YtphphamfejgdaaaGreatDoor
namespace Rt
open Go.Lib (itoa decDigits atoiAll parseUint10 parseMag NumEnd)

/-- The text of a fraction. -/
def textB (q : Rat) : List UInt8 := itoa q.num ++ (if q.den = 1 then [] else 47 :: itoa q.den)
def numO (l : List UInt8) : Option Int :=
  match atoiAll l with
  | .ok n => some n
  | _ => none
/-- What is parsed from a pair of numbers and the text they come from. -/
def backO (n d : Int) (l : List UInt8) : Option Rat :=
  match rd n d with
  | some q => if textB q = l then some q else none
  | none => none
def parseO (l : List UInt8) : Option Rat :=
  match numO (Lib.cut l [47]).1, numO (if (Lib.cut l [47]).2.2 then (Lib.cut l [47]).2.1 else [49]) with
  | some n, some d => backO n d l
  | _, _ => none

theorem backO_some {n d : Int} {l : List UInt8} {q : Rat} (h : backO n d l = some q) : rd n d = some q ∧ textB q = l := by
  unfold backO at h
  split at h
  · rename_i r hr
    split at h
    · rename_i ht; cases h; exact ⟨hr, ht⟩
    · cases h
  · cases h
theorem backO_self {q : Rat} (h : fits q = true) : backO q.num q.den (textB q) = some q := by
  unfold backO; rw [rd_self h]; simp

/-! digits -/
theorem dig_nat (k : Nat) (h : k < 10) : (UInt8.ofNat (48 + k)).toNat = 48 + k := by
  rw [UInt8.toNat_ofNat']; omega
theorem dec_small {u : Nat} (h : u < 10) : decDigits u = [UInt8.ofNat (48 + u)] := by rw [decDigits, dif_pos h]
theorem dec_big {u : Nat} (h : ¬ u < 10) : decDigits u = decDigits (u / 10) ++ [UInt8.ofNat (48 + u % 10)] := by rw [decDigits, dif_neg h]
theorem dec_mem (u : Nat) : ∀ c ∈ decDigits u, 48 ≤ c.toNat ∧ c.toNat ≤ 57 := by
  induction u using Nat.strongRecOn with
  | ind u ih =>
    intro c hc
    by_cases h : u < 10
    · rw [dec_small h] at hc
      simp only [List.mem_singleton] at hc
      subst hc; rw [dig_nat u h]; omega
    · rw [dec_big h] at hc
      rcases List.mem_append.1 hc with hc | hc
      · exact ih (u / 10) (by omega) c hc
      · simp only [List.mem_singleton] at hc
        subst hc; rw [dig_nat _ (by omega)]; omega
theorem dec_ne_nil (u : Nat) : decDigits u ≠ [] := by
  by_cases h : u < 10
  · rw [dec_small h]; simp
  · rw [dec_big h]; simp
theorem itoa_mem (n : Int) : ∀ c ∈ itoa n, c ≠ 47 := by
  intro c hc he
  subst he
  unfold itoa at hc
  split at hc
  · rcases List.mem_cons.1 hc with h | h
    · exact absurd h (by decide)
    · have := dec_mem _ _ h
      have e : (47 : UInt8).toNat = 47 := rfl
      omega
  · have := dec_mem _ _ hc
    have e : (47 : UInt8).toNat = 47 := rfl
    omega

/-! what is printed is read again -/
theorem pu_snoc : ∀ (l : List UInt8) (acc a : Nat) (c : UInt8), parseUint10 acc l = .ok a → a < 1844674407370955161 → 48 ≤ c.toNat → c.toNat ≤ 57 → parseUint10 acc (l ++ [c]) = .ok (a * 10 + (c.toNat - 48))
  | [], acc, a, c, h, ha, h1, h2 => by
    simp only [parseUint10] at h
    injection h with h
    subst h
    simp only [List.nil_append, parseUint10]
    rw [if_pos ⟨h1, h2⟩, if_neg (by omega), if_neg (by omega)]
  | x :: r, acc, a, c, h, ha, h1, h2 => by
    simp only [parseUint10] at h
    simp only [List.cons_append, parseUint10]
    split at h
    · rename_i hx
      rw [if_pos hx]
      split at h
      · cases h
      · rename_i hy
        rw [if_neg hy]
        split at h
        · cases h
        · rename_i hz
          rw [if_neg hz]
          exact pu_snoc r _ a c h ha h1 h2
    · cases h
theorem pu_dec (u : Nat) (hu : u < 1844674407370955161) : parseUint10 0 (decDigits u) = .ok u := by
  induction u using Nat.strongRecOn with
  | ind u ih =>
    by_cases h : u < 10
    · rw [dec_small h]
      have := pu_snoc [] 0 0 (UInt8.ofNat (48 + u)) rfl (by omega) (by rw [dig_nat u h]; omega) (by rw [dig_nat u h]; omega)
      rw [List.nil_append, dig_nat u h] at this
      rw [this]
      congr 1; omega
    · rw [dec_big h]
      have := pu_snoc _ 0 (u / 10) (UInt8.ofNat (48 + u % 10)) (ih (u / 10) (by omega) (by omega)) (by omega) (by rw [dig_nat _ (by omega)]; omega) (by rw [dig_nat _ (by omega)]; omega)
      rw [dig_nat _ (by omega)] at this
      rw [this]
      congr 1; omega
theorem pm_dec (u : Nat) (hu : u < 1844674407370955161) : parseMag (decDigits u) = .ok u := by
  unfold parseMag
  rw [if_neg (dec_ne_nil u), pu_dec u hu]
theorem atoi_itoa (n : Int) (h : n.natAbs ≤ 1000000000) : atoiAll (itoa n) = .ok n := by
  unfold itoa
  by_cases hn : n < 0
  · rw [if_pos hn]
    simp only [atoiAll]
    rw [if_pos (by right; rfl), pm_dec _ (by omega)]
    simp only [show (45 : UInt8).toNat = 45 from rfl, not_true, false_and, if_false, true_and, if_true]
    rw [if_neg (by omega)]
    congr 1; omega
  · rw [if_neg hn]
    have hm := dec_mem n.toNat
    have hp := pm_dec n.toNat (by omega)
    generalize decDigits n.toNat = l at hm hp
    cases l with
    | nil => cases hp
    | cons c r =>
      have := hm c (List.mem_cons_self ..)
      simp only [atoiAll]
      rw [if_neg (by omega), hp]
      have h45 : ¬ c.toNat = 45 := by omega
      simp only [h45, not_false_eq_true, true_and, false_and, if_false]
      rw [if_neg (by omega)]
      congr 1; omega
theorem numO_itoa (n : Int) (h : n.natAbs ≤ 1000000000) : numO (itoa n) = some n := by
  unfold numO; rw [atoi_itoa n h]
theorem numO_one : numO [49] = some 1 := by
  have := numO_itoa 1 (by decide)
  have e : itoa 1 = [49] := by unfold itoa; rw [if_neg (by decide)]; exact dec_small (by decide)
  rwa [e] at this

/-! where the stroke stands -/
theorem index_here (b : List UInt8) : ∀ (a : List UInt8), (∀ c ∈ a, c ≠ 47) → Lib.index (a ++ 47 :: b) [47] = a.length
  | [], _ => by simp [Lib.index, List.isPrefixOf]
  | x :: t, h => by
    have hx : x ≠ 47 := h x (List.mem_cons_self ..)
    have ih := index_here b t fun c hc => h c (List.mem_cons_of_mem _ hc)
    have hp : List.isPrefixOf [47] (x :: (t ++ 47 :: b)) = false := by
      simp only [List.isPrefixOf, Bool.and_true]
      exact beq_false_of_ne (Ne.symm hx)
    rw [List.cons_append, Lib.index, hp, ih]
    have : (((t.length : Nat) : Int) == -1) = false := by rw [beq_eq_false_iff_ne]; omega
    simp [this]
theorem index_nowhere : ∀ (a : List UInt8), (∀ c ∈ a, c ≠ 47) → Lib.index a [47] = -1
  | [], _ => by simp [Lib.index]
  | x :: t, h => by
    have hx : x ≠ 47 := h x (List.mem_cons_self ..)
    have ih := index_nowhere t fun c hc => h c (List.mem_cons_of_mem _ hc)
    have hp : List.isPrefixOf [47] (x :: t) = false := by
      simp only [List.isPrefixOf, Bool.and_true]
      exact beq_false_of_ne (Ne.symm hx)
    rw [Lib.index, hp, ih]; simp
theorem cut_here (a b : List UInt8) (h : ∀ c ∈ a, c ≠ 47) : Lib.cut (a ++ 47 :: b) [47] = (a, b, true) := by
  unfold Lib.cut
  rw [index_here b a h, if_pos (by omega)]
  simp [List.drop_append]
theorem cut_nowhere (a : List UInt8) (h : ∀ c ∈ a, c ≠ 47) : Lib.cut a [47] = (a, [], false) := by
  unfold Lib.cut
  rw [index_nowhere a h, if_neg (by omega)]
theorem parse_text {q : Rat} (h : fits q = true) : parseO (textB q) = some q := by
  have hb := backO_self h
  obtain ⟨h1, h2⟩ := fits_iff.1 h
  unfold parseO
  by_cases hd : q.den = 1
  · have e : textB q = itoa q.num := by unfold textB; rw [if_pos hd, List.append_nil]
    rw [e] at hb ⊢
    rw [cut_nowhere _ (itoa_mem _)]
    simp only [Bool.false_eq_true, if_false, numO_itoa _ h1, numO_one]
    rw [hd] at hb; exact hb
  · have e : textB q = itoa q.num ++ 47 :: itoa q.den := by unfold textB; rw [if_neg hd]
    rw [e] at hb ⊢
    rw [cut_here _ _ (itoa_mem _)]
    simp only [if_true, numO_itoa _ h1, numO_itoa (q.den : Int) (by omega)]
    exact hb
theorem parse_some {l : List UInt8} {q : Rat} (h : parseO l = some q) : fits q = true ∧ textB q = l := by
  unfold parseO at h
  split at h
  · obtain ⟨h1, h2⟩ := backO_some h
    exact ⟨(rd_some h1).2.2.1, h2⟩
  · cases h

/-! the reference's way -/
def readN (l : List UInt8) : Nat := l.foldl (fun a c => if 48 ≤ c.toNat ∧ c.toNat ≤ 57 then 10 * a + (c.toNat - 48) else a) 0
def readI (l : List UInt8) : Int := if l.head? = some 45 then -(readN l : Int) else readN l
def slash (l : List UInt8) : Nat := l.findIdx (fun c => c == 47)
def refO (l : List UInt8) : Option Rat :=
  if 22 < l.length then none
  else backO (readI (l.take (min (slash l) 11))) (if slash l < l.length then readI ((l.drop (slash l + 1)).take 11) else 1) l
theorem readN_dec (u : Nat) : readN (decDigits u) = u := by
  unfold readN
  induction u using Nat.strongRecOn with
  | ind u ih =>
    by_cases h : u < 10
    · rw [dec_small h]
      simp only [List.foldl_cons, List.foldl_nil, dig_nat u h]
      rw [if_pos (by omega)]; omega
    · rw [dec_big h, List.foldl_append, ih (u / 10) (by omega)]
      simp only [List.foldl_cons, List.foldl_nil]
      rw [dig_nat _ (by omega), if_pos (by omega)]; omega
theorem readI_itoa (n : Int) : readI (itoa n) = n := by
  unfold itoa
  by_cases hn : n < 0
  · rw [if_pos hn]
    unfold readI
    rw [if_pos (show (45 :: decDigits n.natAbs).head? = some 45 from rfl)]
    have : readN (45 :: decDigits n.natAbs) = readN (decDigits n.natAbs) := by
      unfold readN
      rw [List.foldl_cons]
      rfl
    rw [this, readN_dec]; omega
  · rw [if_neg hn]
    unfold readI
    rw [readN_dec, if_neg ?_]
    · omega
    · have hm := dec_mem n.toNat
      generalize decDigits n.toNat = l at hm
      cases l with
      | nil => simp
      | cons c r =>
        have := hm c (List.mem_cons_self ..)
        simp only [List.head?_cons, Option.some.injEq]
        intro e; subst e
        have e : (45 : UInt8).toNat = 45 := rfl
        omega
theorem slash_here (b : List UInt8) (a : List UInt8) (h : ∀ c ∈ a, c ≠ 47) : slash (a ++ 47 :: b) = a.length := by
  unfold slash
  rw [List.findIdx_append]
  have : List.findIdx (fun c => c == 47) a = a.length := List.findIdx_eq_length.2 fun c hc => by simpa using h c hc
  rw [this]; simp [List.findIdx_cons]
theorem slash_nowhere (a : List UInt8) (h : ∀ c ∈ a, c ≠ 47) : slash a = a.length :=
  List.findIdx_eq_length.2 fun c hc => by simpa using h c hc
theorem dec_len (u : Nat) (h : u ≤ 1000000000) : (decDigits u).length ≤ 10 := by
  rw [Lib.decDigits_length]
  rcases Nat.lt_or_ge u 1 with h0 | h0
  · have : u = 0 := by omega
    subst this; rw [Lib.nDigits_small (by decide)]; decide
  · apply Decidable.byContradiction
    intro hc
    have key : ∀ (k v : Nat), 1 ≤ v → v < 10 ^ k → Lib.nDigits v ≤ k := by
      intro k
      induction k with
      | zero => intro v h1 h2; simp at h2; omega
      | succ k ih =>
        intro v h1 h2
        by_cases h3 : v < 10
        · rw [Lib.nDigits_small h3]; omega
        · rw [Lib.nDigits_big h3]
          have := ih (v / 10) (by omega) (by rw [Nat.pow_succ] at h2; omega)
          omega
    have := key 10 u h0 (by omega)
    omega
theorem itoa_len (n : Int) (h : n.natAbs ≤ 1000000000) : (itoa n).length ≤ 11 := by
  unfold itoa
  split
  · have := dec_len n.natAbs h; simp only [List.length_cons]; omega
  · have := dec_len n.toNat (by omega); omega
theorem itoa_len_pos (n : Nat) (h : n ≤ 1000000000) : (itoa n).length ≤ 10 := by
  unfold itoa
  rw [if_neg (by omega)]
  exact dec_len _ (by omega)
theorem ref_text {q : Rat} (h : fits q = true) : refO (textB q) = some q := by
  have hb := backO_self h
  obtain ⟨h1, h2⟩ := fits_iff.1 h
  have hl := itoa_len _ h1
  unfold refO
  by_cases hd : q.den = 1
  · have e : textB q = itoa q.num := by unfold textB; rw [if_pos hd, List.append_nil]
    rw [e] at hb ⊢
    rw [if_neg (by omega), slash_nowhere _ (itoa_mem _), if_neg (by omega), Nat.min_eq_left hl, List.take_length, readI_itoa]
    rw [hd] at hb; exact hb
  · have e : textB q = itoa q.num ++ 47 :: itoa q.den := by unfold textB; rw [if_neg hd]
    have hl2 := itoa_len_pos q.den h2
    rw [e] at hb ⊢
    rw [if_neg (by simp only [List.length_append, List.length_cons]; omega), slash_here _ _ (itoa_mem _), if_pos (by simp only [List.length_append, List.length_cons]; omega), Nat.min_eq_left hl]
    rw [List.take_left, List.drop_append, List.drop_eq_nil_of_le (by omega), List.nil_append, show (itoa q.num).length + 1 - (itoa q.num).length = 1 by omega, List.drop_one, List.tail_cons, List.take_of_length_le (by omega), readI_itoa, readI_itoa]
    exact hb
theorem ref_some {l : List UInt8} {q : Rat} (h : refO l = some q) : fits q = true ∧ textB q = l := by
  unfold refO at h
  split at h
  · cases h
  · obtain ⟨h1, h2⟩ := backO_some h
    exact ⟨(rd_some h1).2.2.1, h2⟩
theorem parse_ref (l : List UInt8) : parseO l = refO l := by
  cases h : parseO l with
  | some q =>
    obtain ⟨h1, h2⟩ := parse_some h
    rw [← h2, ref_text h1]
  | none =>
    cases h' : refO l with
    | none => rfl
    | some q =>
      obtain ⟨h1, h2⟩ := ref_some h'
      rw [← h2, parse_text h1] at h
      cases h
end Rt
end Go.Proofs.YtphphamfejgdaaaGreatDoor
