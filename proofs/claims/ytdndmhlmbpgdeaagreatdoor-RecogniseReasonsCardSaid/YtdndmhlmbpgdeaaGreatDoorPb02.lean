/- Plain facts on the texts of tables: printed, read again line by line. No condition of its own. Small functions of package format: within, require, and what the kinds ask of a field by itself. Conditions: the variable of the error holds a pointer. What package format keeps in memory: blocks, maps of ints, lists of fields and of formats, a table. No condition of its own. (The words on blocks are lemmas that the guide gives for copying.) errors.As of a refusal at a variable of a refusal's type. Condition: the package's own variable of the type 'error' is laid. (Written after the guide's worked text ToyasAs.) errors.As of a refusal, told by blocks; stopped and attempt: what comes of a function that ends, or is stopped by a refusal. Conditions: the package's own variable of the type 'error' is laid; the function keeps attempt's own blocks. -/
import Derived.Test.YtdndmhlmbpgdeaaGreatDoorPb01
import Derived.Lib.AtoiAll
import Derived.Lib.ItoaNum
import Derived.Lib.IndexMore
import Derived.Test.YtdndmhlmbpgdeaaGreatDoorProg
import Derived.WalkKit
import Derived.Outline
import Derived.Below
import Derived.IntWalk
import Derived.LoopTactic
import Derived.Lib.Hide
import Derived.Deep.QuietTactic
import Derived.BigQuiet
import Derived.Tactics
import Derived.Tactics2
import Derived.WalkLawsBesides
import Derived.Laws.EntriesVeiled
import Derived.Laws.OwnMore
import Derived.Deep.Draws
import Derived.Laws.Rows
import Derived.Maps.OwnOps
import Derived.Maps.OwnSet
import Derived.Maps.AppendAt
import Derived.LaidEql
import Derived.Stop.Asserts
import Derived.RowKitTokens
import Derived.Laws.CopyRow
import Derived.Defers
import Derived.Recover
import Derived.Laws.Pointers
namespace Go.Proofs.YtdndmhlmbpgdeaaGreatDoor
section FmtText
namespace Fx
open Go.Lib (itoa decDigits atoiAll parseUint10 parseMag NumEnd)

/-! digits -/
theorem dig_nat (k : Nat) (h : k < 10) : (UInt8.ofNat (48 + k)).toNat = 48 + k := by rw [UInt8.toNat_ofNat']; omega
theorem dec_small {u : Nat} (h : u < 10) : decDigits u = [UInt8.ofNat (48 + u)] := by rw [decDigits, dif_pos h]
theorem dec_big {u : Nat} (h : ¬ u < 10) : decDigits u = decDigits (u / 10) ++ [UInt8.ofNat (48 + u % 10)] := by rw [decDigits, dif_neg h]
theorem dec_mem (u : Nat) : ∀ c ∈ decDigits u, 48 ≤ c.toNat ∧ c.toNat ≤ 57 := by
  induction u using Nat.strongRecOn with
  | ind u ih =>
    intro c hc
    by_cases h : u < 10
    · rw [dec_small h] at hc
      simp only [List.mem_singleton] at hc
      subst hc; rw [dig_nat u h]; omega
    · rw [dec_big h] at hc
      rcases List.mem_append.1 hc with hc | hc
      · exact ih (u / 10) (by omega) c hc
      · simp only [List.mem_singleton] at hc
        subst hc; rw [dig_nat _ (by omega)]; omega
theorem dec_ne_nil (u : Nat) : decDigits u ≠ [] := by
  by_cases h : u < 10
  · rw [dec_small h]; simp
  · rw [dec_big h]; simp
theorem itoa_mem (n : Int) : ∀ c ∈ itoa n, 45 ≤ c.toNat ∧ c.toNat ≤ 57 := by
  intro c hc
  unfold itoa at hc
  split at hc
  · rcases List.mem_cons.1 hc with h | h
    · subst h; decide
    · have := dec_mem _ _ h; omega
  · have := dec_mem _ _ hc; omega
theorem itoa_pos {n : Int} (h : 0 ≤ n) : itoa n = decDigits n.toNat := by unfold itoa; rw [if_neg (by omega)]
theorem itoa_ne_nil (n : Int) : itoa n ≠ [] := by
  unfold itoa
  split
  · simp
  · exact dec_ne_nil _
/-! what is printed is read again -/
theorem pu_snoc : ∀ (l : List UInt8) (acc a : Nat) (c : UInt8), parseUint10 acc l = .ok a → a < 1844674407370955161 → 48 ≤ c.toNat → c.toNat ≤ 57 → parseUint10 acc (l ++ [c]) = .ok (a * 10 + (c.toNat - 48))
  | [], acc, a, c, h, ha, h1, h2 => by
    simp only [parseUint10] at h
    injection h with h
    subst h
    simp only [List.nil_append, parseUint10]
    rw [if_pos ⟨h1, h2⟩, if_neg (by omega), if_neg (by omega)]
  | x :: r, acc, a, c, h, ha, h1, h2 => by
    simp only [parseUint10] at h
    simp only [List.cons_append, parseUint10]
    split at h
    · rename_i hx
      rw [if_pos hx]
      split at h
      · cases h
      · rename_i hy
        rw [if_neg hy]
        split at h
        · cases h
        · rename_i hz
          rw [if_neg hz]
          exact pu_snoc r _ a c h ha h1 h2
    · cases h
theorem pu_dec (u : Nat) (hu : u < 1844674407370955161) : parseUint10 0 (decDigits u) = .ok u := by
  induction u using Nat.strongRecOn with
  | ind u ih =>
    by_cases h : u < 10
    · rw [dec_small h]
      have := pu_snoc [] 0 0 (UInt8.ofNat (48 + u)) rfl (by omega) (by rw [dig_nat u h]; omega) (by rw [dig_nat u h]; omega)
      rw [List.nil_append, dig_nat u h] at this
      rw [this]
      congr 1; omega
    · rw [dec_big h]
      have := pu_snoc _ 0 (u / 10) (UInt8.ofNat (48 + u % 10)) (ih (u / 10) (by omega) (by omega)) (by omega) (by rw [dig_nat _ (by omega)]; omega) (by rw [dig_nat _ (by omega)]; omega)
      rw [dig_nat _ (by omega)] at this
      rw [this]
      congr 1; omega
theorem pm_dec (u : Nat) (hu : u < 1844674407370955161) : parseMag (decDigits u) = .ok u := by
  unfold parseMag
  rw [if_neg (dec_ne_nil u), pu_dec u hu]
theorem atoi_itoa (n : Int) (h : n.natAbs ≤ 1000000000) : atoiAll (itoa n) = .ok n := by
  unfold itoa
  by_cases hn : n < 0
  · rw [if_pos hn]
    simp only [atoiAll]
    rw [if_pos (by right; rfl), pm_dec _ (by omega)]
    simp only [show (45 : UInt8).toNat = 45 from rfl, not_true, false_and, if_false, true_and, if_true]
    rw [if_neg (by omega)]
    congr 1; omega
  · rw [if_neg hn]
    have hm := dec_mem n.toNat
    have hp := pm_dec n.toNat (by omega)
    generalize decDigits n.toNat = l at hm hp
    cases l with
    | nil => cases hp
    | cons c r =>
      have := hm c (List.mem_cons_self ..)
      simp only [atoiAll]
      rw [if_neg (by omega), hp]
      have h45 : ¬ c.toNat = 45 := by omega
      simp only [h45, not_false_eq_true, true_and, false_and, if_false]
      rw [if_neg (by omega)]
      congr 1; omega
def numO (l : List UInt8) : Option Int :=
  match atoiAll l with
  | .ok n => some n
  | _ => none
theorem numO_itoa (n : Int) (h : n.natAbs ≤ 1000000000) : numO (itoa n) = some n := by
  unfold numO; rw [atoi_itoa n h]

/-! words -/
/-- The parts of a list between the places where a byte stands. -/
def sp (c : UInt8) : List UInt8 → List (List UInt8)
  | [] => [[]]
  | x :: t => if x = c then [] :: sp c t else
    match sp c t with
    | [] => [[x]]
    | p :: ps => (x :: p) :: ps
theorem sp_ne (c : UInt8) : ∀ l, sp c l ≠ []
  | [] => by simp [sp]
  | x :: t => by
    unfold sp
    split
    · simp
    · split <;> simp
theorem sp_nowhere {c : UInt8} : ∀ {a : List UInt8}, (∀ x ∈ a, x ≠ c) → sp c a = [a]
  | [], _ => rfl
  | x :: t, h => by
    unfold sp
    rw [if_neg (h x (by simp)), sp_nowhere fun y hy => h y (List.mem_cons_of_mem _ hy)]
theorem sp_here {c : UInt8} {b : List UInt8} : ∀ {a : List UInt8}, (∀ x ∈ a, x ≠ c) → sp c (a ++ c :: b) = a :: sp c b
  | [], _ => by rw [List.nil_append, sp, if_pos rfl]
  | x :: t, h => by
    rw [List.cons_append, sp, if_neg (h x (by simp)), sp_here fun y hy => h y (List.mem_cons_of_mem _ hy)]
/-- The parts again, put together. -/
def jn (c : UInt8) : List (List UInt8) → List UInt8
  | [] => []
  | [p] => p
  | p :: q :: ps => p ++ c :: jn c (q :: ps)
theorem jn_cons {c : UInt8} {p : List UInt8} {ps : List (List UInt8)} (h : ps ≠ []) : jn c (p :: ps) = p ++ c :: jn c ps := by
  cases ps with
  | nil => exact absurd rfl h
  | cons q ps => rfl
theorem jn_sp (c : UInt8) : ∀ l, jn c (sp c l) = l
  | [] => rfl
  | x :: t => by
    have ih := jn_sp c t
    unfold sp
    split
    · rename_i h
      rw [jn_cons (sp_ne c t), ih, h]; rfl
    · have hne := sp_ne c t
      generalize sp c t = q at ih hne
      match q, hne with
      | p :: ps, _ =>
        cases ps with
        | nil => simp only [jn] at ih ⊢; rw [ih]
        | cons q ps => rw [jn_cons (by simp)] at ih ⊢; rw [← ih]; rfl
theorem sp_mem (c : UInt8) : ∀ l, ∀ p ∈ sp c l, ∀ x ∈ p, x ≠ c
  | [], p, hp, x, hx => by simp [sp] at hp; subst hp; simp at hx
  | y :: t, p, hp, x, hx => by
    have ih := sp_mem c t
    unfold sp at hp
    split at hp
    · rcases List.mem_cons.1 hp with rfl | hp
      · simp at hx
      · exact ih p hp x hx
    · rename_i hy
      have hne := sp_ne c t
      generalize sp c t = q at ih hne hp
      match q, hne with
      | r :: rs, _ =>
        rcases List.mem_cons.1 hp with rfl | hp
        · rcases List.mem_cons.1 hx with rfl | hx
          · exact hy
          · exact ih r (by simp) x hx
        · exact ih p (List.mem_cons_of_mem _ hp) x hx
theorem index_here (c : UInt8) (b : List UInt8) : ∀ (a : List UInt8), (∀ x ∈ a, x ≠ c) → Lib.index (a ++ c :: b) [c] = a.length
  | [], _ => by simp [Lib.index, List.isPrefixOf]
  | x :: t, h => by
    have hx : x ≠ c := h x (List.mem_cons_self ..)
    have ih := index_here c b t fun y hy => h y (List.mem_cons_of_mem _ hy)
    have hp : List.isPrefixOf [c] (x :: (t ++ c :: b)) = false := by
      simp only [List.isPrefixOf, Bool.and_true]
      exact beq_false_of_ne (Ne.symm hx)
    rw [List.cons_append, Lib.index, hp, ih]
    have : (((t.length : Nat) : Int) == -1) = false := by rw [beq_eq_false_iff_ne]; omega
    simp [this]
theorem index_nowhere (c : UInt8) : ∀ (a : List UInt8), (∀ x ∈ a, x ≠ c) → Lib.index a [c] = -1
  | [], _ => by simp [Lib.index]
  | x :: t, h => by
    have hx : x ≠ c := h x (List.mem_cons_self ..)
    have ih := index_nowhere c t fun y hy => h y (List.mem_cons_of_mem _ hy)
    have hp : List.isPrefixOf [c] (x :: t) = false := by
      simp only [List.isPrefixOf, Bool.and_true]
      exact beq_false_of_ne (Ne.symm hx)
    rw [Lib.index, hp, ih]; simp
theorem cut_here {c : UInt8} {a b : List UInt8} (h : ∀ x ∈ a, x ≠ c) : Lib.cut (a ++ c :: b) [c] = (a, b, true) := by
  unfold Lib.cut
  rw [index_here c b a h, if_pos (by omega)]
  simp [List.drop_append]
theorem cut_nowhere {c : UInt8} {a : List UInt8} (h : ∀ x ∈ a, x ≠ c) : Lib.cut a [c] = (a, [], false) := by
  unfold Lib.cut
  rw [index_nowhere c a h, if_neg (by omega)]
/-- What a cut gives, in terms of the parts. -/
theorem cut_sp (c : UInt8) (l : List UInt8) : ∃ p ps, sp c l = p :: ps ∧ ((ps = [] ∧ p = l ∧ Lib.cut l [c] = (p, [], false)) ∨ (ps ≠ [] ∧ sp c (jn c ps) = ps ∧ l = p ++ c :: jn c ps ∧ Lib.cut l [c] = (p, jn c ps, true))) := by
  have hj := jn_sp c l
  have hm := sp_mem c l
  have hne := sp_ne c l
  generalize hq : sp c l = q at hj hm hne
  match q, hne with
  | p :: ps, _ =>
    refine ⟨p, ps, rfl, ?_⟩
    have hp : ∀ x ∈ p, x ≠ c := hm p (by simp)
    cases ps with
    | nil =>
      left
      have : p = l := hj
      subst this
      exact ⟨rfl, rfl, cut_nowhere hp⟩
    | cons q ps =>
      right
      rw [jn_cons (by simp)] at hj
      refine ⟨by simp, ?_, hj.symm, by rw [← hj]; exact cut_here hp⟩
      rw [← hj, sp_here hp] at hq
      injection hq

/-! lines -/
def wFormat : List UInt8 := [102, 111, 114, 109, 97, 116]
def wFrom : List UInt8 := [102, 114, 111, 109]
def wordK (k : Int) : List UInt8 :=
  if k = 1 then [108, 105, 116, 101, 114, 97, 108] else if k = 2 then [110, 117, 109, 98, 101, 114] else if k = 3 then [98, 121, 116, 101, 115]
  else if k = 4 then [108, 105, 115, 116] else if k = 5 then [105, 110, 115, 105, 100, 101] else if k = 6 then [99, 104, 101, 99, 107] else []
/-- The kind with a word; 0 if there is none. -/
def kindOf (w : List UInt8) : Int :=
  if w = [108, 105, 116, 101, 114, 97, 108] then 1 else if w = [110, 117, 109, 98, 101, 114] then 2 else if w = [98, 121, 116, 101, 115] then 3
  else if w = [108, 105, 115, 116] then 4 else if w = [105, 110, 115, 105, 100, 101] then 5 else if w = [99, 104, 101, 99, 107] then 6 else 0
def hexD (n : Nat) : UInt8 := if n < 10 then UInt8.ofNat (48 + n) else UInt8.ofNat (87 + n)
def hex (l : List UInt8) : List UInt8 := l.flatMap fun c => [hexD (c.toNat / 16), hexD (c.toNat % 16)]
def heading (id : Int) : List UInt8 := wFormat ++ 32 :: itoa id
def writeF (f : Fld) : List UInt8 :=
  if f.kind = 1 then hex f.text.data.toList
  else if f.kind = 3 then (if f.frm = -1 then itoa f.n else wFrom ++ 32 :: itoa f.frm)
  else if f.kind = 4 ∨ f.kind = 5 then itoa f.n ++ 32 :: (wFrom ++ 32 :: itoa f.frm)
  else itoa f.n
def lineF (f : Fld) : List UInt8 := wordK f.kind ++ 32 :: writeF f
def textF (fs : List Fld) : List UInt8 := fs.flatMap fun f => lineF f ++ [10]
def textM (m : Fm) : List UInt8 := heading m.id ++ 10 :: textF m.fs
def text (l : List Fm) : List UInt8 := l.flatMap textM

/-- The value of a hexadecimal digit, whatever its case. -/
def hexV (c : UInt8) : Option Nat :=
  if 48 ≤ c.toNat ∧ c.toNat ≤ 57 then some (c.toNat - 48) else if 97 ≤ c.toNat ∧ c.toNat ≤ 102 then some (c.toNat - 87) else if 65 ≤ c.toNat ∧ c.toNat ≤ 70 then some (c.toNat - 55) else none
def unhexO : List UInt8 → Option (List UInt8)
  | [] => some []
  | [_] => none
  | a :: b :: t =>
    match hexV a, hexV b with
    | some x, some y => (unhexO t).map fun l => UInt8.ofNat (16 * x + y) :: l
    | _, _ => none
def eb : ByteArray := ByteArray.empty
def numW (r : List (List UInt8)) : Option Int :=
  match r with
  | [] => none
  | p :: _ => numO p
/-- What is read of the words behind the first one. -/
def readK (k : Int) (r : List (List UInt8)) : Option Fld :=
  if k = 1 then (match r with | [] => none | p :: _ => (unhexO p).map fun l => ⟨0, 0, -1, ⟨l.toArray⟩⟩)
  else if k = 3 then (match r with | [] => none | p :: r' => if p = wFrom then (numW r').map fun n => ⟨0, 0, n, eb⟩ else (numO p).map fun n => ⟨0, n, -1, eb⟩)
  else if k = 4 ∨ k = 5 then (match r with
    | [] => none
    | p :: r' => match numO p with
      | none => none
      | some n => match r' with
        | [] => none
        | q :: r'' => if q = wFrom then (numW r'').map fun m => ⟨0, n, m, eb⟩ else none)
  else (numW r).map fun n => ⟨0, n, -1, eb⟩
def setK (k : Int) (f : Fld) : Fld := ⟨k, f.n, f.frm, f.text⟩
/-- What a line says: a format's number, or a field. -/
inductive Item where
  | head (id : Int)
  | fld (f : Fld)
def itemD (line : List UInt8) : Option Item :=
  match sp 32 line with
  | [] => none
  | w :: r =>
    if w = wFormat then
      match numW r with
      | none => none
      | some id => if line = heading id then some (.head id) else none
    else if kindOf w = 0 then none
    else
      match readK (kindOf w) r with
      | none => none
      | some f => if line = lineF (setK (kindOf w) f) then some (.fld (setK (kindOf w) f)) else none
def applyO (s : St) : Item → Option St
  | .head id => beginO s id
  | .fld f => addO s f
def readO (s : St) (line : List UInt8) : Option St :=
  match itemD line with
  | none => none
  | some x => applyO s x
/-- What parsing ends in: the table's end, or the number of a line. -/
inductive PR where
  | ok (s : St)
  | bad (k : Nat)
def parseL : St → List (List UInt8) → Nat → PR
  | _, [], k => .bad k
  | s, [p], k => if p = [] then (match endO s with | some s1 => .ok s1 | none => .bad k) else .bad k
  | s, p :: q :: ps, k => match readO s p with
    | some s1 => parseL s1 (q :: ps) (k + 1)
    | none => .bad k
def parseO (l : List UInt8) : PR := parseL st0 (sp 10 l) 1
theorem parseL_more {s : St} {p : List UInt8} {ps : List (List UInt8)} {k : Nat} (h : ps ≠ []) : parseL s (p :: ps) k = match readO s p with
    | some s1 => parseL s1 ps (k + 1)
    | none => .bad k := by
  cases ps with
  | nil => exact absurd rfl h
  | cons q ps => rfl

/-! a field as its line gives it -/
/-- A field has nothing that its line does not say. -/
def Canon (f : Fld) : Prop :=
  (f.kind = 1 ∧ f.n = 0 ∧ f.frm = -1) ∨ ((f.kind = 2 ∨ f.kind = 6) ∧ f.frm = -1 ∧ f.text = eb) ∨ (f.kind = 3 ∧ f.text = eb ∧ (f.frm = -1 ∨ f.n = 0)) ∨ ((f.kind = 4 ∨ f.kind = 5) ∧ f.text = eb)
theorem kindOf_wordK {k : Int} (h1 : 1 ≤ k) (h2 : k ≤ 6) : kindOf (wordK k) = k := by
  obtain rfl | rfl | rfl | rfl | rfl | rfl : k = 1 ∨ k = 2 ∨ k = 3 ∨ k = 4 ∨ k = 5 ∨ k = 6 := by omega
  all_goals rfl
theorem wordK_mem {k : Int} : ∀ c ∈ wordK k, 97 ≤ c.toNat := by
  unfold wordK
  repeat' split
  all_goals (intro c hc; simp at hc; try (rcases hc with rfl | rfl | rfl | rfl | rfl | rfl | rfl <;> decide))
  all_goals (try (rcases hc with rfl | rfl | rfl | rfl | rfl | rfl <;> decide))
  all_goals (try (rcases hc with rfl | rfl | rfl | rfl | rfl <;> decide))
  all_goals (try (rcases hc with rfl | rfl | rfl | rfl <;> decide))
theorem wordK_ne {k : Int} (h1 : 1 ≤ k) (h2 : k ≤ 6) : wordK k ≠ wFormat := by
  obtain rfl | rfl | rfl | rfl | rfl | rfl : k = 1 ∨ k = 2 ∨ k = 3 ∨ k = 4 ∨ k = 5 ∨ k = 6 := by omega
  all_goals decide
theorem kindOf_le (w : List UInt8) : 0 ≤ kindOf w ∧ kindOf w ≤ 6 := by
  unfold kindOf
  repeat' split
  all_goals omega
theorem wFormat_mem : ∀ c ∈ wFormat, 97 ≤ c.toNat := by decide
theorem wFrom_mem : ∀ c ∈ wFrom, 97 ≤ c.toNat := by decide
theorem ne_of_ge {l : List UInt8} {b : Nat} (h : ∀ c ∈ l, b ≤ c.toNat) {d : UInt8} (hd : d.toNat < b) : ∀ c ∈ l, c ≠ d := fun c hc he => by
  have := h c hc
  subst he; omega
theorem hexD_toNat {n : Nat} (h : n < 16) : (hexD n).toNat = if n < 10 then 48 + n else 87 + n := by
  unfold hexD
  split <;> rw [UInt8.toNat_ofNat'] <;> omega
theorem hexV_hexD {n : Nat} (h : n < 16) : hexV (hexD n) = some n := by
  unfold hexV
  rw [hexD_toNat h]
  by_cases h1 : n < 10
  · rw [if_pos h1, if_pos (by omega)]; congr 1; omega
  · rw [if_neg h1, if_neg (by omega), if_pos (by omega)]; congr 1; omega
theorem hex_mem (l : List UInt8) : ∀ c ∈ hex l, 48 ≤ c.toNat := by
  intro c hc
  unfold hex at hc
  obtain ⟨x, _, hx⟩ := List.mem_flatMap.1 hc
  have := x.toNat_lt
  simp only [List.mem_cons, List.not_mem_nil, or_false] at hx
  rcases hx with rfl | rfl
  · rw [hexD_toNat (by omega)]; split <;> omega
  · rw [hexD_toNat (by omega)]; split <;> omega
theorem unhex_hex : ∀ l : List UInt8, unhexO (hex l) = some l
  | [] => rfl
  | c :: t => by
    have ih := unhex_hex t
    have := c.toNat_lt
    show unhexO (hexD (c.toNat / 16) :: hexD (c.toNat % 16) :: hex t) = _
    rw [unhexO, hexV_hexD (by omega), hexV_hexD (by omega), ih]
    simp only [Option.map_some]
    congr 2
    apply UInt8.toNat_inj.1
    rw [UInt8.toNat_ofNat']; omega
theorem itemD_head {line : List UInt8} {id : Int} (h : itemD line = some (.head id)) : line = heading id := by
  unfold itemD at h
  split at h
  · cases h
  · split at h
    · split at h
      · cases h
      · split at h
        · rename_i he; cases h; exact he
        · cases h
    · split at h
      · cases h
      · split at h
        · cases h
        · split at h <;> cases h
theorem readK_canon {k : Int} {r : List (List UInt8)} {f : Fld} (h1 : 1 ≤ k) (h2 : k ≤ 6) (h : readK k r = some f) : Canon (setK k f) := by
  have key : ∀ {o : Option Int} {n m : Int → Int}, (o.map fun x => (⟨0, n x, m x, eb⟩ : Fld)) = some f → ∃ x, f = ⟨0, n x, m x, eb⟩ := by
    intro o n m h
    cases o with
    | none => cases h
    | some x => cases h; exact ⟨x, rfl⟩
  unfold readK at h
  unfold Canon setK
  by_cases k1 : k = 1
  · rw [if_pos k1] at h
    cases r with
    | nil => cases h
    | cons p r =>
      simp only at h
      cases hu : unhexO p with
      | none => rw [hu] at h; cases h
      | some l => rw [hu] at h; cases h; exact .inl ⟨k1, rfl, rfl⟩
  · rw [if_neg k1] at h
    by_cases k3 : k = 3
    · rw [if_pos k3] at h
      cases r with
      | nil => cases h
      | cons p r =>
        simp only at h
        split at h
        · obtain ⟨x, rfl⟩ := key (n := fun _ => 0) (m := fun x => x) h
          exact .inr (.inr (.inl ⟨k3, rfl, .inr rfl⟩))
        · obtain ⟨x, rfl⟩ := key (n := fun x => x) (m := fun _ => -1) h
          exact .inr (.inr (.inl ⟨k3, rfl, .inl rfl⟩))
    · rw [if_neg k3] at h
      by_cases k4 : k = 4 ∨ k = 5
      · rw [if_pos k4] at h
        cases r with
        | nil => cases h
        | cons p r =>
          simp only at h
          cases hn : numO p with
          | none => rw [hn] at h; cases h
          | some n =>
            rw [hn] at h
            cases r with
            | nil => cases h
            | cons q r =>
              simp only at h
              split at h
              · obtain ⟨x, rfl⟩ := key (n := fun _ => n) (m := fun x => x) h
                exact .inr (.inr (.inr ⟨k4, rfl⟩))
              · cases h
      · rw [if_neg k4] at h
        obtain ⟨x, rfl⟩ := key (n := fun x => x) (m := fun _ => -1) h
        exact .inr (.inl ⟨by simp only; omega, rfl, rfl⟩)
theorem itemD_fld {line : List UInt8} {f : Fld} (h : itemD line = some (.fld f)) : line = lineF f ∧ Canon f ∧ 1 ≤ f.kind ∧ f.kind ≤ 6 := by
  unfold itemD at h
  split at h
  · cases h
  · rename_i w r _
    split at h
    · split at h
      · cases h
      · split at h <;> cases h
    · split at h
      · cases h
      · rename_i hk
        have := kindOf_le w
        split at h
        · cases h
        · rename_i g hg
          split at h
          · rename_i he
            cases h
            exact ⟨he, readK_canon (by omega) (by omega) hg, by show 1 ≤ kindOf w; omega, by show kindOf w ≤ 6; omega⟩
          · cases h
theorem itemD_heading {id : Int} (h : id.natAbs ≤ 1000000000) : itemD (heading id) = some (.head id) := by
  have e : sp 32 (heading id) = [wFormat, itoa id] := by
    unfold heading
    rw [sp_here (ne_of_ge wFormat_mem (by decide)), sp_nowhere (ne_of_ge (fun c hc => (itoa_mem id c hc).1) (by decide))]
  unfold itemD
  rw [e]
  simp only [if_true, numW, numO_itoa id h]
theorem sp_two {a b c d e : List UInt8} (ha : ∀ x ∈ a, x ≠ (32 : UInt8)) (hb : ∀ x ∈ b, x ≠ (32 : UInt8)) : sp 32 (a ++ 32 :: b) = [a, b] ∧ ((∀ x ∈ c, x ≠ (32 : UInt8)) → sp 32 (a ++ 32 :: (b ++ 32 :: c)) = [a, b, c]) ∧
    ((∀ x ∈ d, x ≠ (32 : UInt8)) → (∀ x ∈ e, x ≠ (32 : UInt8)) → sp 32 (a ++ 32 :: (b ++ 32 :: (d ++ 32 :: e))) = [a, b, d, e]) := by
  refine ⟨by rw [sp_here ha, sp_nowhere hb], fun hc => by rw [sp_here ha, sp_here hb, sp_nowhere hc], fun hd he => by rw [sp_here ha, sp_here hb, sp_here hd, sp_nowhere he]⟩
theorem itoa_no32 (n : Int) : ∀ x ∈ itoa n, x ≠ (32 : UInt8) := ne_of_ge (fun c hc => (itoa_mem n c hc).1) (by decide)
theorem wFrom_ne_itoa (n : Int) : itoa n ≠ wFrom := fun h => by
  have := (itoa_mem n 102 (by rw [h]; decide)).2
  exact absurd this (by decide)
theorem itemD_lineF {f : Fld} (hc : Canon f) (h1 : 1 ≤ f.kind) (h2 : f.kind ≤ 6) (hn : f.n.natAbs ≤ 1000000000) (hf : f.frm.natAbs ≤ 1000000000) (hF : f.kind = 3 → f.frm ≠ -1 → True) : itemD (lineF f) = some (.fld f) := by
  have hw : ∀ x ∈ wordK f.kind, x ≠ (32 : UInt8) := ne_of_ge wordK_mem (by decide)
  have key : ∀ r g, sp 32 (lineF f) = wordK f.kind :: r → readK f.kind r = some g → setK f.kind g = f → itemD (lineF f) = some (.fld f) := by
    intro r g e hr hg
    unfold itemD
    rw [e]
    simp only
    rw [if_neg (wordK_ne h1 h2), kindOf_wordK h1 h2, if_neg (by omega), hr]
    simp only [hg, if_true]
  rcases hc with ⟨k, n0, f0⟩ | ⟨k, f0, t0⟩ | ⟨k, t0, hh⟩ | ⟨k, t0⟩
  · refine key [hex f.text.data.toList] ⟨0, 0, -1, f.text⟩ ?_ ?_ ?_
    · unfold lineF writeF
      rw [if_pos k]
      exact (sp_two (c := []) (d := []) (e := []) hw (ne_of_ge (hex_mem _) (by decide))).1
    · unfold readK
      rw [if_pos k]
      simp only [unhex_hex, Option.map_some]
    · obtain ⟨kind, n, frm, text⟩ := f
      simp only at k n0 f0
      subst n0; subst f0; rfl
  · refine key [itoa f.n] ⟨0, f.n, -1, eb⟩ ?_ ?_ ?_
    · unfold lineF writeF
      rw [if_neg (by omega), if_neg (by omega), if_neg (by omega)]
      exact (sp_two (c := []) (d := []) (e := []) hw (itoa_no32 _)).1
    · unfold readK
      rw [if_neg (by omega), if_neg (by omega), if_neg (by omega)]
      simp only [numW, numO_itoa _ hn, Option.map_some]
    · obtain ⟨kind, n, frm, text⟩ := f
      simp only at k t0 f0
      subst t0; subst f0; rfl
  · by_cases hm : f.frm = -1
    · refine key [itoa f.n] ⟨0, f.n, -1, eb⟩ ?_ ?_ ?_
      · unfold lineF writeF
        rw [if_neg (by omega), if_pos k, if_pos hm]
        exact (sp_two (c := []) (d := []) (e := []) hw (itoa_no32 _)).1
      · unfold readK
        rw [if_neg (by omega), if_pos k]
        simp only [if_neg (wFrom_ne_itoa f.n), numO_itoa _ hn, Option.map_some]
      · obtain ⟨kind, n, frm, text⟩ := f
        simp only at k t0 hm
        subst t0; subst hm; rfl
    · refine key [wFrom, itoa f.frm] ⟨0, 0, f.frm, eb⟩ ?_ ?_ ?_
      · unfold lineF writeF
        rw [if_neg (by omega), if_pos k, if_neg hm]
        exact (sp_two (c := itoa f.frm) (d := []) (e := []) hw (ne_of_ge wFrom_mem (by decide))).2.1 (itoa_no32 _)
      · unfold readK
        rw [if_neg (by omega), if_pos k]
        simp only [if_true, numW, numO_itoa _ hf, Option.map_some]
      · obtain ⟨kind, n, frm, text⟩ := f
        simp only at k t0 hm hh
        obtain rfl : n = 0 := by rcases hh with h | h; exact absurd h hm; exact h
        subst t0; rfl
  · refine key [itoa f.n, wFrom, itoa f.frm] ⟨0, f.n, f.frm, eb⟩ ?_ ?_ ?_
    · unfold lineF writeF
      rw [if_neg (by omega), if_neg (by omega), if_pos k]
      exact (sp_two (c := []) (d := wFrom) (e := itoa f.frm) hw (itoa_no32 _)).2.2 (ne_of_ge wFrom_mem (by decide)) (itoa_no32 _)
    · unfold readK
      rw [if_neg (by omega), if_neg (by omega), if_pos k]
      simp only [if_true, numW, numO_itoa _ hn, numO_itoa _ hf, Option.map_some]
    · obtain ⟨kind, n, frm, text⟩ := f
      simp only at t0
      subst t0; rfl
/-- What a field that may stand there is like. -/
theorem size_eb {t : ByteArray} (h : t.size = 0) : t = eb := by
  obtain ⟨⟨l⟩⟩ := t
  have : l.length = 0 := h
  cases l with
  | nil => rfl
  | cons a l => simp at this
/-- All numbers of a list of pairs are small. -/
def Small (m : List (Int × Int)) : Prop := ∀ id v, lk m id = some v → 0 ≤ id ∧ id ≤ 1000000
theorem right_canon {m : List (Int × Int)} {fs : List Fld} {f : Fld} (hs : Small m) (hl : fs.length ≤ 16) (h : right m fs f = true) : Canon f ∧ 1 ≤ f.kind ∧ f.kind ≤ 6 ∧ 0 ≤ f.n ∧ f.n ≤ 1000000 ∧ -1 ≤ f.frm ∧ f.frm ≤ 16 ∧ f.text.size ≤ 16 := by
  have hk := right_kind h
  have ha : ∀ {q}, knows m q = true → 0 ≤ q ∧ q ≤ 1000000 := by
    intro q hq
    obtain ⟨v, hv⟩ := Option.isSome_iff_exists.1 hq
    exact hs q v hv
  unfold right at h
  unfold Canon
  split at h
  · rename_i k
    have := literal_of h
    exact ⟨.inl ⟨k, this.1, this.2.1⟩, by omega⟩
  · split at h
    · rename_i k
      have := sized_of h
      exact ⟨.inr (.inl ⟨.inl k, this.1, size_eb this.2.1⟩), by omega⟩
    · split at h
      · rename_i k
        rcases Bool.or_eq_true_iff.1 h with h | h
        · have := sized_of h
          exact ⟨.inr (.inr (.inl ⟨k, size_eb this.2.1, .inl this.1⟩)), by omega⟩
        · have := counted_of h
          have h2 := counts_of this.2.2
          exact ⟨.inr (.inr (.inl ⟨k, size_eb this.2.1, .inr this.1⟩)), by omega⟩
      · split at h
        · rename_i k
          have := nests_of h
          have h2 := counts_of this.2.2
          have h3 := ha this.2.1
          exact ⟨.inr (.inr (.inr ⟨.inl k, size_eb this.1⟩)), by omega⟩
        · split at h
          · rename_i k
            rw [Bool.and_eq_true] at h
            have := nests_of h.1
            have h2 := counts_of this.2.2
            have h3 := ha this.2.1
            exact ⟨.inr (.inr (.inr ⟨.inr k, size_eb this.1⟩)), by omega⟩
          · split at h
            · rename_i k
              have := sized_of h
              exact ⟨.inr (.inl ⟨.inr k, this.1, size_eb this.2.1⟩), by omega⟩
            · cases h
theorem Ok.small : ∀ {l : List Fm}, Ok l → Small (lm l) := by
  intro l
  generalize hn : l.length = n
  induction n generalizing l with
  | zero => intro _; rw [List.eq_nil_of_length_eq_zero hn]; intro id v h; rw [lm_nil, lk_nil] at h; cases h
  | succ n ih =>
    intro h
    obtain ⟨d, f, rfl⟩ : ∃ t f, l = t ++ [f] := ⟨l.dropLast, l.getLast (by intro e; rw [e] at hn; simp at hn), by rw [List.dropLast_concat_getLast]⟩
    obtain ⟨h1, h2⟩ := h.snoc_inv
    have h3 := ih (by simpa using hn) h1
    rw [lm_snoc]
    intro id v hv
    rw [lk_cons] at hv
    split at hv
    · rename_i he
      simp only at he
      have := h2.lo; have := h2.hi
      omega
    · exact h3 id v hv
end Fx
end FmtText
section FmtA
open Go.RowKit Fx

/-- A field as a value. -/
abbrev fldV (f : Fld) : Value := .agg #[.int .i64 f.kind, .int .i64 f.n, .int .i64 f.frm, .string f.text]
/-- The error as a value. -/
abbrev errV (a : Addr) : Value := .iface 225 (.pointer (some a))
/-- The variable of the error holds a pointer. -/
structure ErrAt (w : World) (a : Addr) : Prop where
  cell : w.cell? ⟨1, 0, none⟩ = some (errV a)
theorem ErrAt.lt {w : World} {a : Addr} (h : ErrAt w a) : 1 < w.heap.size := World.block_lt_of_cell? (h := h.cell)
theorem ErrAt.below {w w' : World} {a : Addr} (h : ErrAt w a) (hb : Below w.heap.size w w') : ErrAt w' a := ⟨(hb.cell (p := ⟨1, 0, none⟩) h.lt).trans h.cell⟩
theorem bcell {W w1 : World} {B : Nat} (hb : Below B W w1) : (∀ b o, b < B → w1.cell? ⟨b, o, none⟩ = W.cell? ⟨b, o, none⟩) ∧ (∀ b o, b < B → w1.frozen? ⟨b, o, none⟩ = W.frozen? ⟨b, o, none⟩) :=
  ⟨fun b o h => hb.cell (p := ⟨b, o, none⟩) h, fun b o h => hb.frozen (p := ⟨b, o, none⟩) h⟩
theorem ret_bool {a b : Bool} (h : a = b) : Ending.returned (.bool a) = .returned (.bool b) := by rw [h]
theorem ret_int {k : IntKind} {a b : Int} (h : a = b) : Ending.returned (.int k a) = .returned (.int k b) := by rw [h]

/-- A function that has a body is entered. -/
def Enters (fn : FuncId) : Prop := ∀ (args : Array Value) (w : World), (callFunc fn args).run Tryz.prog w = .ok (.enter fn args) w
theorem enters_of {f : FuncId} {fn : Func} (hf : Tryz.prog.funcs[f]? = some fn) (hn : (fn.name == "runtime.NumGoroutine") = false) (hb : fn.body.isNone = false) : Enters f := fun args w => by
  have hn' : fn.name ≠ "runtime.NumGoroutine" := by simpa using hn
  have hb' : fn.body ≠ none := by intro h; rw [h] at hb; cases hb
  unfold callFunc
  simp [go_sem, hf, hn', hb']
/-- What a function without results that may stop the reading ends in. -/
def ends (a : Addr) : Bool → Ending
  | true => .returned (.tuple #[])
  | false => .panicked [{ v := errV a, recovered := false }]

theorem require_any (c : Bool) (er : Addr) (w : World) (hE : ErrAt w er) :
    Calls Tryz.prog 120 #[.bool c] w fun e w' => e = ends er c ∧ w = w' := by
  have hc := hE.cell
  cases c with
  | true =>
    clear hc hE
    go_enter Tryz.func120, Tryz.ntmps120
    go_wp2
    go_end0
    exact ⟨rfl, rfl⟩
  | false =>
    clear hE
    go_enter Tryz.func120, Tryz.ntmps120
    go_wp2
    exact ⟨rfl, rfl, rfl⟩

def withinB (n lo hi : Int) : Bool := decide (lo ≤ n) && decide (n ≤ hi)
theorem within_any (n lo hi : Int) (v : Bool) (w : World) (hv : withinB n lo hi = v) :
    Calls Tryz.prog 122 #[.int .i64 n, .int .i64 lo, .int .i64 hi] w fun e w' => e = .returned (.bool v) ∧ w = w' := by
  unfold withinB at hv
  by_cases h1 : lo ≤ n
  · have hv2 : decide (n ≤ hi) = v := by simpa [h1] using hv
    have HV := Lib.hid hv2
    clear hv hv2
    go_enter Tryz.func122, Tryz.ntmps122
    go_wp2
    go_ret
    exact ⟨ret_bool HV.out, rfl⟩
  · have h2 : decide (lo ≤ n) = false := by simpa using h1
    have hv2 : false = v := by simpa [h1] using hv
    have HV := Lib.hid hv2
    clear hv hv2
    go_enter Tryz.func122, Tryz.ntmps122
    go_wp2
    go_ret
    exact ⟨ret_bool HV.out, rfl⟩

theorem dd {p q : Prop} [Decidable p] [Decidable q] (h : p ↔ q) : decide p = decide q := decide_eq_decide.2 h
theorem bx {w : World} (o : Obj) : Below w.heap.size w (w.alloc o) := (Below.refl _ _).alloc (Nat.le_refl _) _

theorem literal_any (v0 : Value) (f : Fld) (v : Bool) (w : World) (hf : f.text.size ≤ 9223372036854775807) (hv : literal f = v) :
    Calls Tryz.prog 121 #[v0, fldV f] w fun e w' => e = .returned (.bool v) ∧ Below w.heap.size w w' := by
  have HV := Lib.hid hv
  clear hv
  by_cases h1 : f.n = 0
  · by_cases h2 : f.frm = -1
    · obtain ⟨u, hu⟩ : ∃ u, withinB (f.text.size : Int) 1 16 = u := ⟨_, rfl⟩
      have HU := Lib.hid hu
      clear hu
      have d1 : ((f.n : Int) == 0) = true := by simpa using h1
      have d2 : ((f.frm : Int) == -1) = true := by simpa using h2
      have HH := Lib.hid (And.intro h1 h2)
      clear h1 h2
      go_enter Tryz.func121, Tryz.ntmps121
      go_wp2_with fail
      refine (within_any _ _ _ u _ HU.out).mono ?_
      rintro e w' ⟨rfl, rfl⟩
      go_wp2_with fail
      go_ret
      refine ⟨ret_bool ?_, bx _⟩
      rw [← HV.out, ← HU.out]
      unfold literal withinB
      rw [decide_eq_true HH.out.1, decide_eq_true HH.out.2, Bool.true_and, Bool.true_and]
      congr 1
      · exact dd (by omega)
      · exact dd (by omega)
    · have d1 : ((f.n : Int) == 0) = true := by simpa using h1
      have d2 : ((f.frm : Int) == -1) = false := by simpa using h2
      have HH : Hid (false = v) := Lib.hid (by rw [← HV.out]; simp [literal, h2])
      clear h1 h2
      go_enter Tryz.func121, Tryz.ntmps121
      go_wp2_with fail
      go_ret
      exact ⟨ret_bool HH.out, bx _⟩
  · have d1 : ((f.n : Int) == 0) = false := by simpa using h1
    have HH : Hid (false = v) := Lib.hid (by rw [← HV.out]; simp [literal, h1])
    clear h1
    go_enter Tryz.func121, Tryz.ntmps121
    go_wp2_with fail
    go_ret
    exact ⟨ret_bool HH.out, bx _⟩
theorem textLen_any (v0 : Value) (f : Fld) (w : World) :
    Calls Tryz.prog 123 #[v0, fldV f] w fun e w' => e = .returned (.int .i64 f.text.size) ∧ Below w.heap.size w w' := by
  go_enter Tryz.func123, Tryz.ntmps123
  go_wp2_with fail
  go_ret
  exact ⟨rfl, bx _⟩
theorem zeroLen_any (v0 : Value) (f : Fld) (w : World) :
    Calls Tryz.prog 131 #[v0, fldV f] w fun e w' => e = .returned (.int .i64 0) ∧ Below w.heap.size w w' := by
  go_enter Tryz.func131, Tryz.ntmps131
  go_wp2_with fail
  go_ret
  exact ⟨rfl, bx _⟩
theorem nLen_any (v0 : Value) (f : Fld) (w : World) :
    Calls Tryz.prog 141 #[v0, fldV f] w fun e w' => e = .returned (.int .i64 f.n) ∧ Below w.heap.size w w' := by
  go_enter Tryz.func141, Tryz.ntmps141
  go_wp2_with fail
  go_ret
  exact ⟨rfl, bx _⟩
theorem str_empty (t : ByteArray) : t.toList = [] ↔ t.size = 0 := by
  rw [ByteArray.toList_eq]
  obtain ⟨⟨l⟩⟩ := t
  show l = [] ↔ l.length = 0
  exact List.length_eq_zero_iff.symm
theorem sized_any (v0 : Value) (lo hi : Int) (p q : Addr) (f : Fld) (v : Bool) (w : World) (hp : w.cell? p = some (.int .i64 lo)) (hq : w.cell? q = some (.int .i64 hi)) (hv : Fx.sized lo hi f = v) :
    Calls Tryz.prog 140 #[v0, fldV f, .pointer (some p), .pointer (some q)] w fun e w' => e = .returned (.bool v) ∧ Below w.heap.size w w' := by
  have HV := Lib.hid hv
  clear hv
  have hp1 := World.block_lt_of_cell? (h := hp)
  have hq1 := World.block_lt_of_cell? (h := hq)
  by_cases h1 : f.frm = -1
  · have d1 : ((f.frm : Int) == -1) = true := by simpa using h1
    by_cases h2 : f.text.size = 0
    · have d2 : f.text.toList = [] := (str_empty _).2 h2
      have d3 : f.text.toList.isEmpty = true := by rw [d2]; rfl
      obtain ⟨u, hu⟩ : ∃ u, withinB f.n lo hi = u := ⟨_, rfl⟩
      have HU : Hid (withinB f.n lo hi = u ∧ u = v) := Lib.hid ⟨hu, by rw [← hu, ← HV.out]; unfold Fx.sized withinB; rw [decide_eq_true h1, decide_eq_true h2, Bool.true_and, Bool.true_and]⟩
      clear hu h1 h2
      go_enter Tryz.func140, Tryz.ntmps140
      go_wp2_with fail
      refine (within_any _ _ _ u _ HU.out.1).mono ?_
      rintro e w' ⟨rfl, rfl⟩
      go_wp2_with fail
      go_ret
      exact ⟨ret_bool HU.out.2, bx _⟩
    · have d2 : ¬ f.text.toList = [] := fun h => h2 ((str_empty _).1 h)
      have d3 : f.text.toList.isEmpty = false := by simpa using d2
      have HH : Hid (false = v) := Lib.hid (by rw [← HV.out]; simp [Fx.sized, h2])
      clear h1 h2
      go_enter Tryz.func140, Tryz.ntmps140
      go_wp2_with fail
      go_ret
      exact ⟨ret_bool HH.out, bx _⟩
  · have d1 : ((f.frm : Int) == -1) = false := by simpa using h1
    have HH : Hid (false = v) := Lib.hid (by rw [← HV.out]; simp [Fx.sized, h1])
    clear h1
    go_enter Tryz.func140, Tryz.ntmps140
    go_wp2_with fail
    go_ret
    exact ⟨ret_bool HH.out, bx _⟩
end FmtA
section FmtB
open Go.RowKit Go.Maps Fx

/-! blocks -/
def Blk (w : World) (g : Nat) (t : TypeId) (cs : Array Value) : Prop := w.heap[g]? = some (.cells cs t (0, 0))
section
variable {w w' : World} {g : Nat} {t : TypeId} {cs : Array Value}
theorem Blk.lt (h : Blk w g t cs) : g < w.heap.size := by
  rcases Nat.lt_or_ge g w.heap.size with hlt | hge
  · exact hlt
  · unfold Blk at h; rw [Array.getElem?_eq_none hge] at h; cases h
theorem Blk.cell (h : Blk w g t cs) (i : Nat) : w.cell? ⟨g, i, none⟩ = cs[i]? := cell_of_row w g i cs t (0, 0) h
theorem Blk.frozen (h : Blk w g t cs) (i : Nat) : w.frozen? ⟨g, i, none⟩ = false := by
  unfold Blk at h
  simp [World.frozen?, h]
theorem Blk.new (w : World) (t : TypeId) (cs : Array Value) : Blk (w.alloc (.cells cs t)) w.heap.size t cs := heap_alloc_new w _
theorem Blk.set_ (h : Blk w g t cs) (i : Nat) (u : Value) : Blk (w.setCell ⟨g, i, none⟩ u) g t (cs.setIfInBounds i u) := by
  unfold Blk at h ⊢
  simp [World.setCell, Array.getElem?_modify, h]
end

/-! which blocks stay as they are -/
/-- The blocks of a kind are as they were; no block has gone. -/
structure Kept (P : Nat → Prop) (w w' : World) : Prop where
  os : w'.os = w.os
  tape : w'.tape = w.tape
  output : w'.output = w.output
  size : w.heap.size ≤ w'.heap.size
  block : ∀ k, P k → w'.heap[k]? = w.heap[k]?
section
variable {P Q : Nat → Prop} {a b c w w' : World}
theorem Kept.refl (P : Nat → Prop) (w : World) : Kept P w w := ⟨rfl, rfl, rfl, Nat.le_refl _, fun _ _ => rfl⟩
theorem Kept.trans (h : Kept P a b) (k : Kept P b c) : Kept P a c :=
  ⟨k.os.trans h.os, k.tape.trans h.tape, k.output.trans h.output, Nat.le_trans h.size k.size, fun i hi => (k.block i hi).trans (h.block i hi)⟩
theorem Kept.mono (h : Kept P w w') (hq : ∀ k, Q k → P k) : Kept Q w w' := ⟨h.os, h.tape, h.output, h.size, fun k hk => h.block k (hq k hk)⟩
theorem Kept.of_below {B : Nat} (h : Below B w w') (hp : ∀ k, P k → k < B) : Kept P w w' := ⟨h.os, h.tape, h.output, h.size, fun k hk => h.block k (hp k hk)⟩
theorem Kept.below {B : Nat} (h : Kept P w w') (hp : ∀ k, k < B → P k) : Below B w w' := ⟨h.os, h.tape, h.output, h.size, fun k hk => h.block k (hp k hk)⟩
theorem Kept.alloc (h : Kept P a w) (hp : ∀ k, P k → k < w.heap.size) (o : Obj) : Kept P a (w.alloc o) :=
  h.trans (Kept.of_below ((Below.refl _ _).alloc (Nat.le_refl _) _) hp)
theorem Kept.setCell (h : Kept P a w) {p : Addr} (hp : ¬ P p.block) (u : Value) : Kept P a (w.setCell p u) :=
  h.trans ⟨rfl, rfl, rfl, by simp [World.setCell], fun k hk => Below.heap_setCell _ _ _ _ (fun e => hp (e ▸ hk))⟩
theorem Kept.drew (h : Kept P a w) : Kept P a w.drew := ⟨h.os, h.tape, h.output, h.size, h.block⟩
theorem Kept.grown (h : Kept P a w) {row : Option Nat} (hg : w.grownBy w' row) (hp : ∀ k, P k → k < w.heap.size) (hr : ∀ k, row = some k → ¬ P k) : Kept P a w' :=
  h.trans ⟨hg.os, hg.tape, hg.output, hg.size, fun k hk => hg.block k (hp k hk) (fun e => hr k e.symm hk)⟩
theorem Kept.cell (h : Kept P w w') {p : Addr} (hp : P p.block) : w'.cell? p = w.cell? p := World.cell?_of_block (w := w) (h.block p.block hp)
theorem Kept.frozen (h : Kept P w w') {p : Addr} (hp : P p.block) : w'.frozen? p = w.frozen? p := World.frozen?_of_block (w := w) (h.block p.block hp)
end

/-! maps of ints -/
theorem zeroInt (w : World) : (zeroValue 3).run Tryz.prog w = .ok (.int .i64 0) w := by kernel_rfl
def key (id : Int) : Lit := .int .i64 id
/-- A block is a map that holds of each number what the list holds. -/
structure MapIs (w : World) (mb : Nat) (m : List (Int × Int)) : Prop where
  is : ∃ (n : Nat) (D : DataW Unit), n ≤ m.length ∧ w.ownsMap Tryz.prog 3 (plainElem Tryz.prog 3) mb n D ∧ IsMap D ∧
    ∀ id : Int, -9223372036854775808 ≤ id → id ≤ 9223372036854775807 → D.atKey (key id) (.lit (.int .i64 0)) = .lit (.int .i64 (lkz m id)) ∧ Maps.has D (key id) = knows m id
theorem intKeyed : Keyed Tryz.prog 3 := int_keyed Tryz.underlying3
theorem wfInt {id : Int} (h1 : -9223372036854775808 ≤ id) (h2 : id ≤ 9223372036854775807) : (Lit.int .i64 id).wf = true := WalkArith.wf_i64 ⟨h1, h2⟩
theorem MapIs.look_ {w : World} {mb : Nat} {m : List (Int × Int)} (h : MapIs w mb m) {id : Int} (h1 : -9223372036854775808 ≤ id) (h2 : id ≤ 9223372036854775807) :
    (Instr.lookup 187 (.map (some mb)) (.int .i64 id) false).run Tryz.prog w = .ok (.int .i64 (lkz m id)) w := by
  obtain ⟨n, D, _, ho, _, hD⟩ := h.is
  obtain ⟨c, hrun, hat, _⟩ := ho.lookup_int intKeyed Tryz.underlying187 Tryz.underlying3 (zeroInt w) (keyOf_int_mk Tryz.underlying3 (wfInt h1 h2))
  have := (hD id h1 h2).1
  unfold key at this
  rw [hat] at this
  cases this
  exact hrun
theorem MapIs.look_ok {w : World} {mb : Nat} {m : List (Int × Int)} (h : MapIs w mb m) {id : Int} (h1 : -9223372036854775808 ≤ id) (h2 : id ≤ 9223372036854775807) :
    (Instr.lookup 187 (.map (some mb)) (.int .i64 id) true).run Tryz.prog w = .ok (.tuple #[.int .i64 (lkz m id), .bool (knows m id)]) w := by
  obtain ⟨n, D, _, ho, _, hD⟩ := h.is
  obtain ⟨v, ps, hrun, hv⟩ := ho.look_ok intKeyed Tryz.underlying187 (zeroInt w) (plainElem_int Tryz.underlying3 (by decide)) (keyOf_int_mk Tryz.underlying3 (wfInt h1 h2))
  obtain ⟨c, rfl, hc, _⟩ := plainElem_int_inv Tryz.underlying3 hv
  have h3 := hD id h1 h2
  simp only [key] at h3
  simp only [Prod.mk.injEq] at hc
  rw [hc.1] at h3
  obtain ⟨h3, h4⟩ := h3
  cases h3
  rw [h4] at hrun
  exact hrun
theorem MapIs.lt {w : World} {mb : Nat} {m : List (Int × Int)} (h : MapIs w mb m) : mb < w.heap.size := by
  obtain ⟨n, D, _, ho, _⟩ := h.is
  exact ho.lt
theorem MapIs.of_block {w w' : World} {mb : Nat} {m : List (Int × Int)} (h : MapIs w mb m) (hb : w'.heap[mb]? = w.heap[mb]?) : MapIs w' mb m := by
  obtain ⟨n, D, hn, ⟨es, clock, h1, h2⟩, h3⟩ := h.is
  exact ⟨n, D, hn, ⟨es, clock, hb.trans h1, h2⟩, h3⟩
theorem MapIs.made (w : World) : MapIs (w.alloc (.map #[] 0)) w.heap.size [] :=
  ⟨0, .map [], Nat.le_refl _, World.ownsMap_made w _ _ _, isMap_empty, fun _ _ _ => ⟨rfl, rfl⟩⟩
theorem key_ne {a b : Int} (h : a ≠ b) : key a ≠ key b := fun e => h (by unfold key at e; injection e)
theorem keyLit (id : Int) : WideAt.IsKeyLit (key id) := by unfold WideAt.IsKeyLit key; simp
theorem MapIs.put_ {w : World} {mb : Nat} {m : List (Int × Int)} (h : MapIs w mb m) (hm : m.length < 1000) {id v : Int} (h1 : -9223372036854775808 ≤ id) (h2 : id ≤ 9223372036854775807) (v1 : -9223372036854775808 ≤ v) (v2 : v ≤ 9223372036854775807) :
    ∃ w', (Instr.mapUpdate 187 (.map (some mb)) (.int .i64 id) (.int .i64 v)).run Tryz.prog w = .ok () w' ∧ MapIs w' mb ((id, v) :: m) ∧ w.grownBy w' (some mb) := by
  obtain ⟨n, D, hn, ho, hI, hD⟩ := h.is
  obtain ⟨w', hrun, ho', hg⟩ := ho.update intKeyed Tryz.underlying187 (by unfold maxLen; omega) (keyOf_int_mk Tryz.underlying3 (wfInt h1 h2)) (plainElem_int Tryz.underlying3 (wfInt v1 v2))
  refine ⟨w', hrun, ⟨n + 1, _, by simp; omega, ho', hI.put _ _, fun q q1 q2 => ?_⟩, hg⟩
  have hq := hD q q1 q2
  by_cases e : q = id
  · subst e
    rw [lkz_cons, if_pos rfl]
    have hk : knows ((q, v) :: m) q = true := by unfold knows; rw [lk_cons, if_pos rfl]; rfl
    rw [hk]
    exact ⟨atKey_put_same hI (keyLit q) _ _, has_put_same hI (keyLit q) _⟩
  · rw [lkz_cons, if_neg (fun h => e h.symm)]
    have hk : knows ((id, v) :: m) q = knows m q := by unfold knows; rw [lk_cons, if_neg (fun h => e h.symm)]
    rw [hk]
    exact ⟨(atKey_put_other (key_ne e) _ _).trans hq.1, (has_put_other (key_ne e) _).trans hq.2⟩

/-! lists of fields -/
def fldC (f : Fld) : List Value := [.int .i64 f.kind, .int .i64 f.n, .int .i64 f.frm, .string f.text]
def flat (fs : List Fld) : List Value := fs.flatMap fldC
theorem flat_len (fs : List Fld) : (flat fs).length = fs.length * 4 := by
  unfold flat
  induction fs with
  | nil => rfl
  | cons f t ih => simp [List.flatMap_cons, ih, fldC]; omega
theorem flat_get {fs : List Fld} {i : Nat} (hi : i < fs.length) (k : Nat) (hk : k < 4) : (flat fs)[i * 4 + k]? = (fldC (fs.getD i zf))[k]? := by
  unfold flat
  induction fs generalizing i with
  | nil => simp at hi
  | cons f t ih =>
    rw [List.flatMap_cons]
    cases i with
    | zero => rw [List.getElem?_append_left (by simp [fldC]; omega)]; simp
    | succ i =>
      rw [List.getElem?_append_right (by simp [fldC]; omega)]
      have := ih (i := i) (by simpa using hi)
      simp only [fldC, List.length_cons, List.length_nil] at this ⊢
      rw [show (i + 1) * 4 + k - (0 + 1 + 1 + 1 + 1) = i * 4 + k by omega, this]
      simp
/-- Fields lie at b from place off on. -/
structure FldAt (w : World) (b off : Nat) (f : Fld) : Prop where
  c0 : w.cell? ⟨b, off, none⟩ = some (.int .i64 f.kind)
  c1 : w.cell? ⟨b, off + 1, none⟩ = some (.int .i64 f.n)
  c2 : w.cell? ⟨b, off + 2, none⟩ = some (.int .i64 f.frm)
  c3 : w.cell? ⟨b, off + 3, none⟩ = some (.string f.text)
/-- A slice that reads as these fields. -/
def FldsAt (w : World) (v : Value) (fs : List Fld) : Prop :=
  (∃ a c, v = .slice a 0 c ∧ fs = []) ∨ ∃ b off cap, v = .slice (some ⟨b, off, none⟩) fs.length cap ∧ 1 ≤ fs.length ∧ fs.length ≤ cap ∧ cap ≤ maxLen ∧ b < w.heap.size ∧ ∀ i, i < fs.length → FldAt w b (off + i * 4) (fs.getD i zf)
theorem FldAt.of_block {w w' : World} {b off : Nat} {f : Fld} (h : FldAt w b off f) (hb : w'.heap[b]? = w.heap[b]?) : FldAt w' b off f := by
  have e : ∀ o, w'.cell? ⟨b, o, none⟩ = w.cell? ⟨b, o, none⟩ := fun o => World.cell?_of_block (w := w) (a := ⟨b, o, none⟩) hb
  exact ⟨(e _).trans h.c0, (e _).trans h.c1, (e _).trans h.c2, (e _).trans h.c3⟩
theorem FldsAt.keep {w w' : World} {v : Value} {fs : List Fld} (h : FldsAt w v fs) (hs : w.heap.size ≤ w'.heap.size) (hb : ∀ b, v.ownBlock = some b → w'.heap[b]? = w.heap[b]?) : FldsAt w' v fs := by
  rcases h with h | ⟨b, off, cap, rfl, h1, h2, h3, h4, h5⟩
  · exact .inl h
  · exact .inr ⟨b, off, cap, rfl, h1, h2, h3, by omega, fun i hi => (h5 i hi).of_block (hb b rfl)⟩
theorem FldsAt.below {w w' : World} {v : Value} {fs : List Fld} (h : FldsAt w v fs) (hb : Below w.heap.size w w') : FldsAt w' v fs := by
  rcases h with h | ⟨b, off, cap, rfl, h1, h2, h3, h4, h5⟩
  · exact .inl h
  · exact .inr ⟨b, off, cap, rfl, h1, h2, h3, Nat.lt_of_lt_of_le h4 hb.size, fun i hi => (h5 i hi).of_block (hb.block b h4)⟩
/-- Fields of the call's own. -/
theorem FldsAt.of_own {w : World} {B : Nat} {v : Value} {fs : List Fld} (h : w.ownsRow B 56 4 v fs.length (flat fs)) : FldsAt w v fs := by
  rcases h.2 with ⟨rfl, h0⟩ | ⟨g, cap, cur, rfl, hg, hh, hl, hm, hsz, ht⟩
  · exact .inl ⟨none, 0, rfl, List.eq_nil_of_length_eq_zero h0⟩
  · rcases Nat.eq_zero_or_pos fs.length with h0 | h0
    · exact .inl ⟨_, _, by rw [h0], List.eq_nil_of_length_eq_zero h0⟩
    · have hcell : ∀ i k, i < fs.length → k < 4 → w.cell? ⟨g, 0 + i * 4 + k, none⟩ = (fldC (fs.getD i zf))[k]? := fun i k hi hk => by
        rw [cell_of_row w g _ cur _ (0, 0) hh, ← flat_get hi k hk, ← ht, List.getElem?_take, if_pos (by omega)]
        simp
      refine .inr ⟨g, 0, cap, rfl, h0, hl, hm, (Array.getElem?_eq_some_iff.1 hh).1, fun i hi => ⟨?_, ?_, ?_, ?_⟩⟩
      · exact hcell i 0 hi (by omega)
      · exact hcell i 1 hi (by omega)
      · exact hcell i 2 hi (by omega)
      · exact hcell i 3 hi (by omega)
end FmtB
section RecA
open Go.RowKit Go.Extern.Stop Go.Stop Go.Extern

/-- The package's own variable of the type 'error'. -/
def ErrTy (w : World) : Prop := w.cell? ⟨0, 0, none⟩ = some (.iface 155 (.agg #[.pointer (some ⟨7, 101, none⟩)]))

theorem as_valueOfP (t : Addr) (w : World) : (ReflectliteValue.unpack (.iface 106 (.pointer (some t)))).run Tryz.prog w
    = .ok (.agg #[.pointer (some ⟨7, 106, none⟩), .pointer (some ⟨w.heap.size, 0, none⟩), .int .u64 150]) (w.alloc (.cells #[.pointer (some t)] 106)) := by kernel_rfl
theorem as_typeP (a : Addr) (w : World) : (ReflectliteValue.methodAny (ReflectliteValue.valueError "reflectlite.Value.Type" 0) (fun t _ _ _ => ReflectliteType.toType t) #[.agg #[.pointer (some ⟨7, 106, none⟩), .pointer (some a), .int .u64 150]]).run Tryz.prog w
    = .ok (.iface 155 (.agg #[.pointer (some ⟨7, 106, none⟩)])) w := by kernel_rfl
theorem as_methodKind (k : Nat) (h : Value) (w : World) : (Go.method (k + 1) 155 (.agg #[h]) "Kind").run Tryz.prog w = .ok (193, h) w := by kernel_rfl
theorem as_kindP (w : World) : ((ReflectliteType.abiMethod fun t => (fun a : Nat => Value.int IntKind.u8 (a : Int)) <$> Rtype.kind t) #[.pointer (some ⟨7, 106, none⟩)]).run Tryz.prog w = .ok (.int .u8 22) w := by kernel_rfl
theorem as_kindR (w : World) : ((ReflectliteType.abiMethod fun t => (fun a : Nat => Value.int IntKind.u8 (a : Int)) <$> Rtype.kind t) #[.pointer (some ⟨7, 104, none⟩)]).run Tryz.prog w = .ok (.int .u8 25) w := by kernel_rfl
theorem as_rlm (z : Sem Value) (f : TypeId → Addr → Nat → Nat → Sem Value) (v : Value) :
    ReflectliteValue.method z f #[v] = (do match ← ReflectliteValue.parts v with | none => z | some (t, a, fl) => f t a fl (fl % 32)) := rfl
theorem as_partsP (a : Addr) (w : World) : (ReflectliteValue.parts (.agg #[.pointer (some ⟨7, 106, none⟩), .pointer (some a), .int .u64 150])).run Tryz.prog w = .ok (some (106, a, 150)) w := by kernel_rfl
theorem as_isNil (a p : Addr) (W : World) (ha : W.cell? a = some (.pointer (some p))) :
    (ReflectliteValue.method (ReflectliteValue.valueError "reflectlite.Value.IsNil" 0) ReflectliteValue.isNil #[.agg #[.pointer (some ⟨7, 106, none⟩), .pointer (some a), .int .u64 150]]).run Tryz.prog W = .ok (.bool false) W := by
  rw [as_rlm]
  simp only [Sem.run_bind, as_partsP, Result.andThen]
  simp [ReflectliteValue.isNil, loadVar, isAgg, underlying, Tryz.underlying106, ha, Result.andThen]
theorem as_methodElem (k : Nat) (h : Value) (w : World) : (Go.method (k + 1) 155 (.agg #[h]) "Elem").run Tryz.prog w = .ok (203, .agg #[h]) w := by kernel_rfl
theorem as_methodImplements (k : Nat) (h : Value) (w : World) : (Go.method (k + 1) 155 (.agg #[h]) "Implements").run Tryz.prog w = .ok (204, .agg #[h]) w := by kernel_rfl
theorem as_methodAssignableTo (k : Nat) (h : Value) (w : World) : (Go.method (k + 1) 155 (.agg #[h]) "AssignableTo").run Tryz.prog w = .ok (201, .agg #[h]) w := by kernel_rfl
theorem as_elemP (w : World) : (ReflectliteType.method ReflectliteType.elem #[(.agg #[.pointer (some ⟨7, 106, none⟩)])]).run Tryz.prog w = .ok (.iface 155 (.agg #[.pointer (some ⟨7, 104, none⟩)])) w := by kernel_rfl
theorem as_implements (w : World) : (ReflectliteType.relation "Implements" ReflectliteType.implements_ #[(.agg #[.pointer (some ⟨7, 104, none⟩)]), .iface 155 (.agg #[.pointer (some ⟨7, 101, none⟩)])]).run Tryz.prog w = .ok (.bool true) w := by kernel_rfl
theorem as_typeOf (v : Value) (w : World) : (ReflectliteType.typeOf #[.iface 104 v]).run Tryz.prog w = .ok (.iface 155 (.agg #[.pointer (some ⟨7, 104, none⟩)])) w := by kernel_rfl
theorem as_assignable (w : World) : (ReflectliteType.relation "AssignableTo" ReflectliteType.assignableTo #[(.agg #[.pointer (some ⟨7, 104, none⟩)]), .iface 155 (.agg #[.pointer (some ⟨7, 104, none⟩)])]).run Tryz.prog w = .ok (.bool true) w := by kernel_rfl
theorem as_valueOfR (a b c d : Int) (w : World) : (ReflectliteValue.unpack (.iface 104 (.agg #[.int .i64 a, .int .i64 b, .int .i64 c, .int .i64 d]))).run Tryz.prog w
    = .ok (.agg #[.pointer (some ⟨7, 104, none⟩), .pointer (some ⟨w.heap.size, 0, none⟩), .int .u64 153]) (w.alloc (.cells #[.int .i64 a, .int .i64 b, .int .i64 c, .int .i64 d] 104)) := by kernel_rfl
theorem as_elemOf (w : World) : (Rtype.elem? 106).run Tryz.prog w = .ok (some 104) w := by kernel_rfl
theorem as_mk (p : Addr) (w : World) : (ReflectliteValue.mk 104 p ReflectliteValue.flagAddr).run Tryz.prog w = .ok (.agg #[.pointer (some ⟨7, 104, none⟩), .pointer (some p), .int .u64 409]) w := by kernel_rfl
theorem as_elemV (a p : Addr) (W : World) (ha : W.cell? a = some (.pointer (some p))) :
    (ReflectliteValue.method (ReflectliteValue.valueError "reflectlite.Value.Elem" 0) ReflectliteValue.elem #[.agg #[.pointer (some ⟨7, 106, none⟩), .pointer (some a), .int .u64 150]]).run Tryz.prog W
      = .ok (.agg #[.pointer (some ⟨7, 104, none⟩), .pointer (some p), .int .u64 409]) W := by
  rw [as_rlm]
  simp only [Sem.run_bind, as_partsP, Result.andThen]
  simp [ReflectliteValue.elem, loadVar, isAgg, underlying, Tryz.underlying106, ha, Result.andThen, as_elemOf, as_mk]
theorem as_rls (v x : Value) : ReflectliteValue.set #[v, x] = (do
    let (some (dst, a, fl), some (src, b, _)) := (← ReflectliteValue.parts v, ← ReflectliteValue.parts x)
      | unsupported (.noEntry "extern/(internal/reflectlite.Value).Set.zeroValue")
    if fl / ReflectliteValue.flagAddr % 2 == 0 then unsupported (.noEntry "extern/(internal/reflectlite.Value).Set.unaddressable")
    let val ← loadVar src b
    if ← Rtype.directlyAssignable dst src then storeVar dst a val
    else if ← Rtype.implements dst src then
      if (← Rtype.kind src) == 20 then
        match val with
        | .nilIface => unsupported (.noEntry "extern/reflectlite: a nil value of one interface type handed on as a value of another")
        | _ => storeVar dst a val
      else storeVar dst a (.iface src val)
    else panicString ("reflectlite.Set: value of type " ++ (← Rtype.spelt src) ++ " is not assignable to type " ++ (← Rtype.spelt dst))
    pure (.tuple #[])) := rfl
theorem as_partsA (a : Addr) (w : World) : (ReflectliteValue.parts (.agg #[.pointer (some ⟨7, 104, none⟩), .pointer (some a), .int .u64 409])).run Tryz.prog w = .ok (some (104, a, 409)) w := by kernel_rfl
theorem as_partsR (a : Addr) (w : World) : (ReflectliteValue.parts (.agg #[.pointer (some ⟨7, 104, none⟩), .pointer (some a), .int .u64 153])).run Tryz.prog w = .ok (some (104, a, 153)) w := by kernel_rfl
theorem as_direct (w : World) : (Rtype.directlyAssignable 104 104).run Tryz.prog w = .ok true w := by kernel_rfl
theorem as_size (w : World) : (sizeOf 104).run Tryz.prog w = .ok 4 w := by kernel_rfl
end RecA
section RecB
open Go.RowKit Go.Extern.Stop Go.Stop Go.Extern

theorem info_refusal : (Tryz.prog.info? 104).map (·.size) = some 4 := by kernel_rfl
/-- (Value).Set: the variable gets what the Value's own variable holds. -/
theorem as_set (g h : Nat) (a b c d x0 x1 x2 x3 : Value) (W : World) (hg : Blk W g 104 #[x0, x1, x2, x3]) (hh : Blk W h 104 #[a, b, c, d])
    (o : ∀ v ∈ [a, b, c, d], v.oneCell' = true) :
    (ReflectliteValue.set #[.agg #[.pointer (some ⟨7, 104, none⟩), .pointer (some ⟨g, 0, none⟩), .int .u64 409], .agg #[.pointer (some ⟨7, 104, none⟩), .pointer (some ⟨h, 0, none⟩), .int .u64 153]]).run Tryz.prog W
      = .ok (.tuple #[]) (W.setRow g #[a, b, c, d]) := by
  have h1 := run_loadVar_row (P := Tryz.prog) W h 104 104 #[a, b, c, d] (0, 0) _ hh Tryz.underlying104 rfl info_refusal
  have h2 := run_storeCells_at Tryz.prog g 0 104 [a, b, c, d] 0 _ W hg (by simp) o
  rw [as_rls]
  simp only [Sem.run_bind, as_partsA, as_partsR, Result.andThen]
  simp [ReflectliteValue.flagAddr, h1, as_direct, storeVar, Value.cells, h2, Result.andThen]

theorem Blk.lt_of {w : World} {g : Nat} {t : TypeId} {cs : Array Value} (h : Blk w g t cs) : g < w.heap.size := h.lt
theorem Blk.alloc_ {w : World} {g : Nat} {t : TypeId} {cs : Array Value} (h : Blk w g t cs) (o : Obj) : Blk (w.alloc o) g t cs := by
  unfold Blk at h ⊢
  rw [(MapKept.heap_alloc w o).2 g (by
    rcases Nat.lt_or_ge g w.heap.size with h1 | h1
    · exact h1
    · rw [Array.getElem?_eq_none h1] at h; cases h)]
  exact h

set_option maxHeartbeats 4000000 in
set_option maxRecDepth 20000 in
/-- errors.As(a refusal, the address of a refusal). -/
theorem as_hit (g : Nat) (a b c d : Int) (x0 x1 x2 x3 : Value) (w : World) (hT : ErrTy w) (hg : Blk w g 104 #[x0, x1, x2, x3]) :
    Calls Tryz.prog 62 #[.iface 104 (.agg #[.int .i64 a, .int .i64 b, .int .i64 c, .int .i64 d]), .iface 106 (.pointer (some ⟨g, 0, none⟩))] w fun ev w' => ev = .returned (.bool true) ∧
      Blk w' g 104 #[.int .i64 a, .int .i64 b, .int .i64 c, .int .i64 d] ∧ Kept (fun k => k < w.heap.size ∧ k ≠ g) w w' := by
  have hlt := hg.lt
  have hkeep : ∀ (o1 o2 o3 o4 : Obj), Blk (((((w.alloc o1).alloc o2).alloc o3).alloc o4).setRow g #[.int .i64 a, .int .i64 b, .int .i64 c, .int .i64 d]) g 104 #[.int .i64 a, .int .i64 b, .int .i64 c, .int .i64 d] ∧
      Kept (fun k => k < w.heap.size ∧ k ≠ g) w (((((w.alloc o1).alloc o2).alloc o3).alloc o4).setRow g #[.int .i64 a, .int .i64 b, .int .i64 c, .int .i64 d]) := fun o1 o2 o3 o4 => by
    refine ⟨setRow_heap _ _ _ _ _ _ ((((hg.alloc_ o1).alloc_ o2).alloc_ o3).alloc_ o4), ?_⟩
    have hk : Kept (fun k => k < w.heap.size ∧ k ≠ g) w ((((w.alloc o1).alloc o2).alloc o3).alloc o4) :=
      ((((Kept.refl _ w).alloc (fun k h => h.1) o1).alloc (fun k h => by simp; omega) o2).alloc (fun k h => by simp; omega) o3).alloc (fun k h => by simp; omega) o4
    exact ⟨hk.os, hk.tape, hk.output, by simp; omega, fun k h => (setRow_other _ _ _ _ h.2).trans (hk.block k h)⟩
  have h6 := @run_callFunc_extern Tryz.prog 88 _ (fun args => ReflectliteValue.unpack (args.getD 0 (.tuple #[]))) Tryz.func88 (by kernel_rfl) (by kernel_rfl) (by kernel_rfl) (by kernel_rfl)
  have h7 := @run_callFunc_extern Tryz.prog 89 _ (ReflectliteValue.methodAny (ReflectliteValue.valueError "reflectlite.Value.Type" 0) (fun t _ _ _ => ReflectliteType.toType t)) Tryz.func89 (by kernel_rfl) (by kernel_rfl) (by kernel_rfl) (by kernel_rfl)
  have h8 := @run_callFunc_extern Tryz.prog 90 _ (ReflectliteValue.method (ReflectliteValue.valueError "reflectlite.Value.IsNil" 0) ReflectliteValue.isNil) Tryz.func90 (by kernel_rfl) (by kernel_rfl) (by kernel_rfl) (by kernel_rfl)
  have h27 := @run_callFunc_extern Tryz.prog 193 _ (ReflectliteType.abiMethod fun t => do pure (.int .u8 (← Rtype.kind t))) Tryz.func193 (by kernel_rfl) (by kernel_rfl) (by kernel_rfl) (by kernel_rfl)
  have h37 := @run_callFunc_extern Tryz.prog 203 _ (ReflectliteType.method ReflectliteType.elem) Tryz.func203 (by kernel_rfl) (by kernel_rfl) (by kernel_rfl) (by kernel_rfl)
  have h38 := @run_callFunc_extern Tryz.prog 204 _ (ReflectliteType.relation "Implements" ReflectliteType.implements_) Tryz.func204 (by kernel_rfl) (by kernel_rfl) (by kernel_rfl) (by kernel_rfl)
  have h10 := @run_callFunc_extern Tryz.prog 104 _ ReflectliteType.typeOf Tryz.func104 (by kernel_rfl) (by kernel_rfl) (by kernel_rfl) (by kernel_rfl)
  have h35 := @run_callFunc_extern Tryz.prog 201 _ (ReflectliteType.relation "AssignableTo" ReflectliteType.assignableTo) Tryz.func201 (by kernel_rfl) (by kernel_rfl) (by kernel_rfl) (by kernel_rfl)
  have h11 := @run_callFunc_extern Tryz.prog 105 _ (ReflectliteValue.method (ReflectliteValue.valueError "reflectlite.Value.Elem" 0) ReflectliteValue.elem) Tryz.func105 (by kernel_rfl) (by kernel_rfl) (by kernel_rfl) (by kernel_rfl)
  have h12 := @run_callFunc_extern Tryz.prog 106 _ ReflectliteValue.set Tryz.func106 (by kernel_rfl) (by kernel_rfl) (by kernel_rfl) (by kernel_rfl)
  have tO := as_typeOf
  have mA := as_methodAssignableTo
  have a25 := as_assignable
  have v25 := as_valueOfR
  have f6 := as_valueOfP
  have f7 := as_typeP
  have mK := as_methodKind
  have mE := as_methodElem
  have mI := as_methodImplements
  have k27 := as_kindP
  have k25 := as_kindR
  have e27 := as_elemP
  have i25 := as_implements
  obtain ⟨o1, ho1⟩ : ∃ o1, o1 = Obj.cells #[.pointer (some ⟨g, 0, none⟩)] 106 := ⟨_, rfl⟩
  obtain ⟨o2, ho2⟩ : ∃ o2, o2 = Obj.cells #[.pointer (some ⟨7, 106, none⟩), .pointer (some ⟨w.heap.size, 0, none⟩), .int .u64 150] 132 := ⟨_, rfl⟩
  obtain ⟨o4, ho4⟩ : ∃ o4, o4 = Obj.cells #[.int .i64 a, .int .i64 b, .int .i64 c, .int .i64 d] 104 := ⟨_, rfl⟩
  have hlt0 : 0 < w.heap.size := World.block_lt_of_cell? (h := hT)
  have hg2 : ((w.alloc (.cells #[.pointer (some ⟨g, 0, none⟩)] 106)).alloc (.cells #[.pointer (some ⟨7, 106, none⟩), .pointer (some ⟨w.heap.size, 0, none⟩), .int .u64 150] 132)).cell? ⟨0, 0, none⟩ = some (.iface 155 (.agg #[.pointer (some ⟨7, 101, none⟩)])) := by
    rw [World.cell?_alloc_lt _ _ ⟨0, 0, none⟩ (by simp), World.cell?_alloc_lt _ _ ⟨0, 0, none⟩ hlt0]; exact hT
  have n8 := as_isNil ⟨w.heap.size, 0, none⟩ ⟨g, 0, none⟩ ((w.alloc (.cells #[.pointer (some ⟨g, 0, none⟩)] 106)).alloc (.cells #[.pointer (some ⟨7, 106, none⟩), .pointer (some ⟨w.heap.size, 0, none⟩), .int .u64 150] 132)) (by simp)
  have el := as_elemV ⟨w.heap.size, 0, none⟩ ⟨g, 0, none⟩ (((w.alloc (.cells #[.pointer (some ⟨g, 0, none⟩)] 106)).alloc (.cells #[.pointer (some ⟨7, 106, none⟩), .pointer (some ⟨w.heap.size, 0, none⟩), .int .u64 150] 132)).alloc (.cells #[.pointer (some ⟨7, 106, none⟩), .pointer (some ⟨w.heap.size, 0, none⟩), .int .u64 150] 132)) (by rw [World.cell?_alloc_lt _ _ ⟨w.heap.size, 0, none⟩ (by simp; omega)]; simp)
  have st := as_set g (w.heap.size + 1 + 1 + 1) (.int .i64 a) (.int .i64 b) (.int .i64 c) (.int .i64 d) x0 x1 x2 x3 ((((w.alloc (.cells #[.pointer (some ⟨g, 0, none⟩)] 106)).alloc (.cells #[.pointer (some ⟨7, 106, none⟩), .pointer (some ⟨w.heap.size, 0, none⟩), .int .u64 150] 132)).alloc (.cells #[.pointer (some ⟨7, 106, none⟩), .pointer (some ⟨w.heap.size, 0, none⟩), .int .u64 150] 132)).alloc (.cells #[.int .i64 a, .int .i64 b, .int .i64 c, .int .i64 d] 104))
    ((((hg.alloc_ _).alloc_ _).alloc_ _).alloc_ _)
    (by have := Blk.new (((w.alloc (.cells #[.pointer (some ⟨g, 0, none⟩)] 106)).alloc (.cells #[.pointer (some ⟨7, 106, none⟩), .pointer (some ⟨w.heap.size, 0, none⟩), .int .u64 150] 132)).alloc (.cells #[.pointer (some ⟨7, 106, none⟩), .pointer (some ⟨w.heap.size, 0, none⟩), .int .u64 150] 132)) 104 #[.int .i64 a, .int .i64 b, .int .i64 c, .int .i64 d]
        simpa using this) (by simp [Value.oneCell'])
  have HK := Lib.hid hkeep
  clear hkeep hg hT
  go_enter Tryz.func62, Tryz.ntmps62
  go_wp2
  refine wp_loop_rounds 1 ?_
  rw [rounds_succ]
  go_wp2
  go_ret
  exact ⟨rfl, HK.out _ _ _ _⟩
end RecB
end Go.Proofs.YtdndmhlmbpgdeaaGreatDoor
