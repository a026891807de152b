/- Plain facts on the texts of tables: printed, read again line by line. No condition of its own. -/
import Derived.Test.YtcnokccgdiodlaaGreatDoorFmtPlain
import Derived.Lib.AtoiAll
import Derived.Lib.ItoaNum
import Derived.Lib.IndexMore
namespace Go.Proofs.YtcnokccgdiodlaaGreatDoor
namespace Fx
open Go.Lib (itoa decDigits atoiAll parseUint10 parseMag NumEnd)

/-! digits -/
theorem dig_nat (k : Nat) (h : k < 10) : (UInt8.ofNat (48 + k)).toNat = 48 + k := by rw [UInt8.toNat_ofNat']; omega
theorem dec_small {u : Nat} (h : u < 10) : decDigits u = [UInt8.ofNat (48 + u)] := by rw [decDigits, dif_pos h]
theorem dec_big {u : Nat} (h : ¬ u < 10) : decDigits u = decDigits (u / 10) ++ [UInt8.ofNat (48 + u % 10)] := by rw [decDigits, dif_neg h]
theorem dec_mem (u : Nat) : ∀ c ∈ decDigits u, 48 ≤ c.toNat ∧ c.toNat ≤ 57 := by
  induction u using Nat.strongRecOn with
  | ind u ih =>
    intro c hc
    by_cases h : u < 10
    · rw [dec_small h] at hc
      simp only [List.mem_singleton] at hc
      subst hc; rw [dig_nat u h]; omega
    · rw [dec_big h] at hc
      rcases List.mem_append.1 hc with hc | hc
      · exact ih (u / 10) (by omega) c hc
      · simp only [List.mem_singleton] at hc
        subst hc; rw [dig_nat _ (by omega)]; omega
theorem dec_ne_nil (u : Nat) : decDigits u ≠ [] := by
  by_cases h : u < 10
  · rw [dec_small h]; simp
  · rw [dec_big h]; simp
theorem itoa_mem (n : Int) : ∀ c ∈ itoa n, 45 ≤ c.toNat ∧ c.toNat ≤ 57 := by
  intro c hc
  unfold itoa at hc
  split at hc
  · rcases List.mem_cons.1 hc with h | h
    · subst h; decide
    · have := dec_mem _ _ h; omega
  · have := dec_mem _ _ hc; omega
theorem itoa_pos {n : Int} (h : 0 ≤ n) : itoa n = decDigits n.toNat := by unfold itoa; rw [if_neg (by omega)]
theorem itoa_ne_nil (n : Int) : itoa n ≠ [] := by
  unfold itoa
  split
  · simp
  · exact dec_ne_nil _
/-! what is printed is read again -/
theorem pu_snoc : ∀ (l : List UInt8) (acc a : Nat) (c : UInt8), parseUint10 acc l = .ok a → a < 1844674407370955161 → 48 ≤ c.toNat → c.toNat ≤ 57 → parseUint10 acc (l ++ [c]) = .ok (a * 10 + (c.toNat - 48))
  | [], acc, a, c, h, ha, h1, h2 => by
    simp only [parseUint10] at h
    injection h with h
    subst h
    simp only [List.nil_append, parseUint10]
    rw [if_pos ⟨h1, h2⟩, if_neg (by omega), if_neg (by omega)]
  | x :: r, acc, a, c, h, ha, h1, h2 => by
    simp only [parseUint10] at h
    simp only [List.cons_append, parseUint10]
    split at h
    · rename_i hx
      rw [if_pos hx]
      split at h
      · cases h
      · rename_i hy
        rw [if_neg hy]
        split at h
        · cases h
        · rename_i hz
          rw [if_neg hz]
          exact pu_snoc r _ a c h ha h1 h2
    · cases h
theorem pu_dec (u : Nat) (hu : u < 1844674407370955161) : parseUint10 0 (decDigits u) = .ok u := by
  induction u using Nat.strongRecOn with
  | ind u ih =>
    by_cases h : u < 10
    · rw [dec_small h]
      have := pu_snoc [] 0 0 (UInt8.ofNat (48 + u)) rfl (by omega) (by rw [dig_nat u h]; omega) (by rw [dig_nat u h]; omega)
      rw [List.nil_append, dig_nat u h] at this
      rw [this]
      congr 1; omega
    · rw [dec_big h]
      have := pu_snoc _ 0 (u / 10) (UInt8.ofNat (48 + u % 10)) (ih (u / 10) (by omega) (by omega)) (by omega) (by rw [dig_nat _ (by omega)]; omega) (by rw [dig_nat _ (by omega)]; omega)
      rw [dig_nat _ (by omega)] at this
      rw [this]
      congr 1; omega
theorem pm_dec (u : Nat) (hu : u < 1844674407370955161) : parseMag (decDigits u) = .ok u := by
  unfold parseMag
  rw [if_neg (dec_ne_nil u), pu_dec u hu]
theorem atoi_itoa (n : Int) (h : n.natAbs ≤ 1000000000) : atoiAll (itoa n) = .ok n := by
  unfold itoa
  by_cases hn : n < 0
  · rw [if_pos hn]
    simp only [atoiAll]
    rw [if_pos (by right; rfl), pm_dec _ (by omega)]
    simp only [show (45 : UInt8).toNat = 45 from rfl, not_true, false_and, if_false, true_and, if_true]
    rw [if_neg (by omega)]
    congr 1; omega
  · rw [if_neg hn]
    have hm := dec_mem n.toNat
    have hp := pm_dec n.toNat (by omega)
    generalize decDigits n.toNat = l at hm hp
    cases l with
    | nil => cases hp
    | cons c r =>
      have := hm c (List.mem_cons_self ..)
      simp only [atoiAll]
      rw [if_neg (by omega), hp]
      have h45 : ¬ c.toNat = 45 := by omega
      simp only [h45, not_false_eq_true, true_and, false_and, if_false]
      rw [if_neg (by omega)]
      congr 1; omega
def numO (l : List UInt8) : Option Int :=
  match atoiAll l with
  | .ok n => some n
  | _ => none
theorem numO_itoa (n : Int) (h : n.natAbs ≤ 1000000000) : numO (itoa n) = some n := by
  unfold numO; rw [atoi_itoa n h]

/-! words -/
/-- The parts of a list between the places where a byte stands. -/
def sp (c : UInt8) : List UInt8 → List (List UInt8)
  | [] => [[]]
  | x :: t => if x = c then [] :: sp c t else
    match sp c t with
    | [] => [[x]]
    | p :: ps => (x :: p) :: ps
theorem sp_ne (c : UInt8) : ∀ l, sp c l ≠ []
  | [] => by simp [sp]
  | x :: t => by
    unfold sp
    split
    · simp
    · split <;> simp
theorem sp_nowhere {c : UInt8} : ∀ {a : List UInt8}, (∀ x ∈ a, x ≠ c) → sp c a = [a]
  | [], _ => rfl
  | x :: t, h => by
    unfold sp
    rw [if_neg (h x (by simp)), sp_nowhere fun y hy => h y (List.mem_cons_of_mem _ hy)]
theorem sp_here {c : UInt8} {b : List UInt8} : ∀ {a : List UInt8}, (∀ x ∈ a, x ≠ c) → sp c (a ++ c :: b) = a :: sp c b
  | [], _ => by rw [List.nil_append, sp, if_pos rfl]
  | x :: t, h => by
    rw [List.cons_append, sp, if_neg (h x (by simp)), sp_here fun y hy => h y (List.mem_cons_of_mem _ hy)]
/-- The parts again, put together. -/
def jn (c : UInt8) : List (List UInt8) → List UInt8
  | [] => []
  | [p] => p
  | p :: q :: ps => p ++ c :: jn c (q :: ps)
theorem jn_cons {c : UInt8} {p : List UInt8} {ps : List (List UInt8)} (h : ps ≠ []) : jn c (p :: ps) = p ++ c :: jn c ps := by
  cases ps with
  | nil => exact absurd rfl h
  | cons q ps => rfl
theorem jn_sp (c : UInt8) : ∀ l, jn c (sp c l) = l
  | [] => rfl
  | x :: t => by
    have ih := jn_sp c t
    unfold sp
    split
    · rename_i h
      rw [jn_cons (sp_ne c t), ih, h]; rfl
    · have hne := sp_ne c t
      generalize sp c t = q at ih hne
      match q, hne with
      | p :: ps, _ =>
        cases ps with
        | nil => simp only [jn] at ih ⊢; rw [ih]
        | cons q ps => rw [jn_cons (by simp)] at ih ⊢; rw [← ih]; rfl
theorem sp_mem (c : UInt8) : ∀ l, ∀ p ∈ sp c l, ∀ x ∈ p, x ≠ c
  | [], p, hp, x, hx => by simp [sp] at hp; subst hp; simp at hx
  | y :: t, p, hp, x, hx => by
    have ih := sp_mem c t
    unfold sp at hp
    split at hp
    · rcases List.mem_cons.1 hp with rfl | hp
      · simp at hx
      · exact ih p hp x hx
    · rename_i hy
      have hne := sp_ne c t
      generalize sp c t = q at ih hne hp
      match q, hne with
      | r :: rs, _ =>
        rcases List.mem_cons.1 hp with rfl | hp
        · rcases List.mem_cons.1 hx with rfl | hx
          · exact hy
          · exact ih r (by simp) x hx
        · exact ih p (List.mem_cons_of_mem _ hp) x hx
theorem index_here (c : UInt8) (b : List UInt8) : ∀ (a : List UInt8), (∀ x ∈ a, x ≠ c) → Lib.index (a ++ c :: b) [c] = a.length
  | [], _ => by simp [Lib.index, List.isPrefixOf]
  | x :: t, h => by
    have hx : x ≠ c := h x (List.mem_cons_self ..)
    have ih := index_here c b t fun y hy => h y (List.mem_cons_of_mem _ hy)
    have hp : List.isPrefixOf [c] (x :: (t ++ c :: b)) = false := by
      simp only [List.isPrefixOf, Bool.and_true]
      exact beq_false_of_ne (Ne.symm hx)
    rw [List.cons_append, Lib.index, hp, ih]
    have : (((t.length : Nat) : Int) == -1) = false := by rw [beq_eq_false_iff_ne]; omega
    simp [this]
theorem index_nowhere (c : UInt8) : ∀ (a : List UInt8), (∀ x ∈ a, x ≠ c) → Lib.index a [c] = -1
  | [], _ => by simp [Lib.index]
  | x :: t, h => by
    have hx : x ≠ c := h x (List.mem_cons_self ..)
    have ih := index_nowhere c t fun y hy => h y (List.mem_cons_of_mem _ hy)
    have hp : List.isPrefixOf [c] (x :: t) = false := by
      simp only [List.isPrefixOf, Bool.and_true]
      exact beq_false_of_ne (Ne.symm hx)
    rw [Lib.index, hp, ih]; simp
theorem cut_here {c : UInt8} {a b : List UInt8} (h : ∀ x ∈ a, x ≠ c) : Lib.cut (a ++ c :: b) [c] = (a, b, true) := by
  unfold Lib.cut
  rw [index_here c b a h, if_pos (by omega)]
  simp [List.drop_append]
theorem cut_nowhere {c : UInt8} {a : List UInt8} (h : ∀ x ∈ a, x ≠ c) : Lib.cut a [c] = (a, [], false) := by
  unfold Lib.cut
  rw [index_nowhere c a h, if_neg (by omega)]
/-- What a cut gives, in terms of the parts. -/
theorem cut_sp (c : UInt8) (l : List UInt8) : ∃ p ps, sp c l = p :: ps ∧ ((ps = [] ∧ p = l ∧ Lib.cut l [c] = (p, [], false)) ∨ (ps ≠ [] ∧ sp c (jn c ps) = ps ∧ l = p ++ c :: jn c ps ∧ Lib.cut l [c] = (p, jn c ps, true))) := by
  have hj := jn_sp c l
  have hm := sp_mem c l
  have hne := sp_ne c l
  generalize hq : sp c l = q at hj hm hne
  match q, hne with
  | p :: ps, _ =>
    refine ⟨p, ps, rfl, ?_⟩
    have hp : ∀ x ∈ p, x ≠ c := hm p (by simp)
    cases ps with
    | nil =>
      left
      have : p = l := hj
      subst this
      exact ⟨rfl, rfl, cut_nowhere hp⟩
    | cons q ps =>
      right
      rw [jn_cons (by simp)] at hj
      refine ⟨by simp, ?_, hj.symm, by rw [← hj]; exact cut_here hp⟩
      rw [← hj, sp_here hp] at hq
      injection hq

/-! lines -/
def wFormat : List UInt8 := [102, 111, 114, 109, 97, 116]
def wFrom : List UInt8 := [102, 114, 111, 109]
def wordK (k : Int) : List UInt8 :=
  if k = 1 then [108, 105, 116, 101, 114, 97, 108] else if k = 2 then [110, 117, 109, 98, 101, 114] else if k = 3 then [98, 121, 116, 101, 115]
  else if k = 4 then [108, 105, 115, 116] else if k = 5 then [105, 110, 115, 105, 100, 101] else if k = 6 then [99, 104, 101, 99, 107] else []
/-- The kind with a word; 0 if there is none. -/
def kindOf (w : List UInt8) : Int :=
  if w = [108, 105, 116, 101, 114, 97, 108] then 1 else if w = [110, 117, 109, 98, 101, 114] then 2 else if w = [98, 121, 116, 101, 115] then 3
  else if w = [108, 105, 115, 116] then 4 else if w = [105, 110, 115, 105, 100, 101] then 5 else if w = [99, 104, 101, 99, 107] then 6 else 0
def hexD (n : Nat) : UInt8 := if n < 10 then UInt8.ofNat (48 + n) else UInt8.ofNat (87 + n)
def hex (l : List UInt8) : List UInt8 := l.flatMap fun c => [hexD (c.toNat / 16), hexD (c.toNat % 16)]
def heading (id : Int) : List UInt8 := wFormat ++ 32 :: itoa id
def writeF (f : Fld) : List UInt8 :=
  if f.kind = 1 then hex f.text.data.toList
  else if f.kind = 3 then (if f.frm = -1 then itoa f.n else wFrom ++ 32 :: itoa f.frm)
  else if f.kind = 4 ∨ f.kind = 5 then itoa f.n ++ 32 :: (wFrom ++ 32 :: itoa f.frm)
  else itoa f.n
def lineF (f : Fld) : List UInt8 := wordK f.kind ++ 32 :: writeF f
def textF (fs : List Fld) : List UInt8 := fs.flatMap fun f => lineF f ++ [10]
def textM (m : Fm) : List UInt8 := heading m.id ++ 10 :: textF m.fs
def text (l : List Fm) : List UInt8 := l.flatMap textM

/-- The value of a hexadecimal digit, whatever its case. -/
def hexV (c : UInt8) : Option Nat :=
  if 48 ≤ c.toNat ∧ c.toNat ≤ 57 then some (c.toNat - 48) else if 97 ≤ c.toNat ∧ c.toNat ≤ 102 then some (c.toNat - 87) else if 65 ≤ c.toNat ∧ c.toNat ≤ 70 then some (c.toNat - 55) else none
def unhexO : List UInt8 → Option (List UInt8)
  | [] => some []
  | [_] => none
  | a :: b :: t =>
    match hexV a, hexV b with
    | some x, some y => (unhexO t).map fun l => UInt8.ofNat (16 * x + y) :: l
    | _, _ => none
def eb : ByteArray := ByteArray.empty
def numW (r : List (List UInt8)) : Option Int :=
  match r with
  | [] => none
  | p :: _ => numO p
/-- What is read of the words behind the first one. -/
def readK (k : Int) (r : List (List UInt8)) : Option Fld :=
  if k = 1 then (match r with | [] => none | p :: _ => (unhexO p).map fun l => ⟨0, 0, -1, ⟨l.toArray⟩⟩)
  else if k = 3 then (match r with | [] => none | p :: r' => if p = wFrom then (numW r').map fun n => ⟨0, 0, n, eb⟩ else (numO p).map fun n => ⟨0, n, -1, eb⟩)
  else if k = 4 ∨ k = 5 then (match r with
    | [] => none
    | p :: r' => match numO p with
      | none => none
      | some n => match r' with
        | [] => none
        | q :: r'' => if q = wFrom then (numW r'').map fun m => ⟨0, n, m, eb⟩ else none)
  else (numW r).map fun n => ⟨0, n, -1, eb⟩
def setK (k : Int) (f : Fld) : Fld := ⟨k, f.n, f.frm, f.text⟩
/-- What a line says: a format's number, or a field. -/
inductive Item where
  | head (id : Int)
  | fld (f : Fld)
def itemD (line : List UInt8) : Option Item :=
  match sp 32 line with
  | [] => none
  | w :: r =>
    if w = wFormat then
      match numW r with
      | none => none
      | some id => if line = heading id then some (.head id) else none
    else if kindOf w = 0 then none
    else
      match readK (kindOf w) r with
      | none => none
      | some f => if line = lineF (setK (kindOf w) f) then some (.fld (setK (kindOf w) f)) else none
def applyO (s : St) : Item → Option St
  | .head id => beginO s id
  | .fld f => addO s f
def readO (s : St) (line : List UInt8) : Option St :=
  match itemD line with
  | none => none
  | some x => applyO s x
/-- What parsing ends in: the table's end, or the number of a line. -/
inductive PR where
  | ok (s : St)
  | bad (k : Nat)
def parseL : St → List (List UInt8) → Nat → PR
  | _, [], k => .bad k
  | s, [p], k => if p = [] then (match endO s with | some s1 => .ok s1 | none => .bad k) else .bad k
  | s, p :: q :: ps, k => match readO s p with
    | some s1 => parseL s1 (q :: ps) (k + 1)
    | none => .bad k
def parseO (l : List UInt8) : PR := parseL st0 (sp 10 l) 1
theorem parseL_more {s : St} {p : List UInt8} {ps : List (List UInt8)} {k : Nat} (h : ps ≠ []) : parseL s (p :: ps) k = match readO s p with
    | some s1 => parseL s1 ps (k + 1)
    | none => .bad k := by
  cases ps with
  | nil => exact absurd rfl h
  | cons q ps => rfl

/-! a field as its line gives it -/
/-- A field has nothing that its line does not say. -/
def Canon (f : Fld) : Prop :=
  (f.kind = 1 ∧ f.n = 0 ∧ f.frm = -1) ∨ ((f.kind = 2 ∨ f.kind = 6) ∧ f.frm = -1 ∧ f.text = eb) ∨ (f.kind = 3 ∧ f.text = eb ∧ (f.frm = -1 ∨ f.n = 0)) ∨ ((f.kind = 4 ∨ f.kind = 5) ∧ f.text = eb)
theorem kindOf_wordK {k : Int} (h1 : 1 ≤ k) (h2 : k ≤ 6) : kindOf (wordK k) = k := by
  obtain rfl | rfl | rfl | rfl | rfl | rfl : k = 1 ∨ k = 2 ∨ k = 3 ∨ k = 4 ∨ k = 5 ∨ k = 6 := by omega
  all_goals rfl
theorem wordK_mem {k : Int} : ∀ c ∈ wordK k, 97 ≤ c.toNat := by
  unfold wordK
  repeat' split
  all_goals (intro c hc; simp at hc; try (rcases hc with rfl | rfl | rfl | rfl | rfl | rfl | rfl <;> decide))
  all_goals (try (rcases hc with rfl | rfl | rfl | rfl | rfl | rfl <;> decide))
  all_goals (try (rcases hc with rfl | rfl | rfl | rfl | rfl <;> decide))
  all_goals (try (rcases hc with rfl | rfl | rfl | rfl <;> decide))
theorem wordK_ne {k : Int} (h1 : 1 ≤ k) (h2 : k ≤ 6) : wordK k ≠ wFormat := by
  obtain rfl | rfl | rfl | rfl | rfl | rfl : k = 1 ∨ k = 2 ∨ k = 3 ∨ k = 4 ∨ k = 5 ∨ k = 6 := by omega
  all_goals decide
theorem kindOf_le (w : List UInt8) : 0 ≤ kindOf w ∧ kindOf w ≤ 6 := by
  unfold kindOf
  repeat' split
  all_goals omega
theorem wFormat_mem : ∀ c ∈ wFormat, 97 ≤ c.toNat := by decide
theorem wFrom_mem : ∀ c ∈ wFrom, 97 ≤ c.toNat := by decide
theorem ne_of_ge {l : List UInt8} {b : Nat} (h : ∀ c ∈ l, b ≤ c.toNat) {d : UInt8} (hd : d.toNat < b) : ∀ c ∈ l, c ≠ d := fun c hc he => by
  have := h c hc
  subst he; omega
theorem hexD_toNat {n : Nat} (h : n < 16) : (hexD n).toNat = if n < 10 then 48 + n else 87 + n := by
  unfold hexD
  split <;> rw [UInt8.toNat_ofNat'] <;> omega
theorem hexV_hexD {n : Nat} (h : n < 16) : hexV (hexD n) = some n := by
  unfold hexV
  rw [hexD_toNat h]
  by_cases h1 : n < 10
  · rw [if_pos h1, if_pos (by omega)]; congr 1; omega
  · rw [if_neg h1, if_neg (by omega), if_pos (by omega)]; congr 1; omega
theorem hex_mem (l : List UInt8) : ∀ c ∈ hex l, 48 ≤ c.toNat := by
  intro c hc
  unfold hex at hc
  obtain ⟨x, _, hx⟩ := List.mem_flatMap.1 hc
  have := x.toNat_lt
  simp only [List.mem_cons, List.not_mem_nil, or_false] at hx
  rcases hx with rfl | rfl
  · rw [hexD_toNat (by omega)]; split <;> omega
  · rw [hexD_toNat (by omega)]; split <;> omega
theorem unhex_hex : ∀ l : List UInt8, unhexO (hex l) = some l
  | [] => rfl
  | c :: t => by
    have ih := unhex_hex t
    have := c.toNat_lt
    show unhexO (hexD (c.toNat / 16) :: hexD (c.toNat % 16) :: hex t) = _
    rw [unhexO, hexV_hexD (by omega), hexV_hexD (by omega), ih]
    simp only [Option.map_some]
    congr 2
    apply UInt8.toNat_inj.1
    rw [UInt8.toNat_ofNat']; omega
theorem itemD_head {line : List UInt8} {id : Int} (h : itemD line = some (.head id)) : line = heading id := by
  unfold itemD at h
  split at h
  · cases h
  · split at h
    · split at h
      · cases h
      · split at h
        · rename_i he; cases h; exact he
        · cases h
    · split at h
      · cases h
      · split at h
        · cases h
        · split at h <;> cases h
theorem readK_canon {k : Int} {r : List (List UInt8)} {f : Fld} (h1 : 1 ≤ k) (h2 : k ≤ 6) (h : readK k r = some f) : Canon (setK k f) := by
  have key : ∀ {o : Option Int} {n m : Int → Int}, (o.map fun x => (⟨0, n x, m x, eb⟩ : Fld)) = some f → ∃ x, f = ⟨0, n x, m x, eb⟩ := by
    intro o n m h
    cases o with
    | none => cases h
    | some x => cases h; exact ⟨x, rfl⟩
  unfold readK at h
  unfold Canon setK
  by_cases k1 : k = 1
  · rw [if_pos k1] at h
    cases r with
    | nil => cases h
    | cons p r =>
      simp only at h
      cases hu : unhexO p with
      | none => rw [hu] at h; cases h
      | some l => rw [hu] at h; cases h; exact .inl ⟨k1, rfl, rfl⟩
  · rw [if_neg k1] at h
    by_cases k3 : k = 3
    · rw [if_pos k3] at h
      cases r with
      | nil => cases h
      | cons p r =>
        simp only at h
        split at h
        · obtain ⟨x, rfl⟩ := key (n := fun _ => 0) (m := fun x => x) h
          exact .inr (.inr (.inl ⟨k3, rfl, .inr rfl⟩))
        · obtain ⟨x, rfl⟩ := key (n := fun x => x) (m := fun _ => -1) h
          exact .inr (.inr (.inl ⟨k3, rfl, .inl rfl⟩))
    · rw [if_neg k3] at h
      by_cases k4 : k = 4 ∨ k = 5
      · rw [if_pos k4] at h
        cases r with
        | nil => cases h
        | cons p r =>
          simp only at h
          cases hn : numO p with
          | none => rw [hn] at h; cases h
          | some n =>
            rw [hn] at h
            cases r with
            | nil => cases h
            | cons q r =>
              simp only at h
              split at h
              · obtain ⟨x, rfl⟩ := key (n := fun _ => n) (m := fun x => x) h
                exact .inr (.inr (.inr ⟨k4, rfl⟩))
              · cases h
      · rw [if_neg k4] at h
        obtain ⟨x, rfl⟩ := key (n := fun x => x) (m := fun _ => -1) h
        exact .inr (.inl ⟨by simp only; omega, rfl, rfl⟩)
theorem itemD_fld {line : List UInt8} {f : Fld} (h : itemD line = some (.fld f)) : line = lineF f ∧ Canon f ∧ 1 ≤ f.kind ∧ f.kind ≤ 6 := by
  unfold itemD at h
  split at h
  · cases h
  · rename_i w r _
    split at h
    · split at h
      · cases h
      · split at h <;> cases h
    · split at h
      · cases h
      · rename_i hk
        have := kindOf_le w
        split at h
        · cases h
        · rename_i g hg
          split at h
          · rename_i he
            cases h
            exact ⟨he, readK_canon (by omega) (by omega) hg, by show 1 ≤ kindOf w; omega, by show kindOf w ≤ 6; omega⟩
          · cases h
theorem itemD_heading {id : Int} (h : id.natAbs ≤ 1000000000) : itemD (heading id) = some (.head id) := by
  have e : sp 32 (heading id) = [wFormat, itoa id] := by
    unfold heading
    rw [sp_here (ne_of_ge wFormat_mem (by decide)), sp_nowhere (ne_of_ge (fun c hc => (itoa_mem id c hc).1) (by decide))]
  unfold itemD
  rw [e]
  simp only [if_true, numW, numO_itoa id h]
theorem sp_two {a b c d e : List UInt8} (ha : ∀ x ∈ a, x ≠ (32 : UInt8)) (hb : ∀ x ∈ b, x ≠ (32 : UInt8)) : sp 32 (a ++ 32 :: b) = [a, b] ∧ ((∀ x ∈ c, x ≠ (32 : UInt8)) → sp 32 (a ++ 32 :: (b ++ 32 :: c)) = [a, b, c]) ∧
    ((∀ x ∈ d, x ≠ (32 : UInt8)) → (∀ x ∈ e, x ≠ (32 : UInt8)) → sp 32 (a ++ 32 :: (b ++ 32 :: (d ++ 32 :: e))) = [a, b, d, e]) := by
  refine ⟨by rw [sp_here ha, sp_nowhere hb], fun hc => by rw [sp_here ha, sp_here hb, sp_nowhere hc], fun hd he => by rw [sp_here ha, sp_here hb, sp_here hd, sp_nowhere he]⟩
theorem itoa_no32 (n : Int) : ∀ x ∈ itoa n, x ≠ (32 : UInt8) := ne_of_ge (fun c hc => (itoa_mem n c hc).1) (by decide)
theorem wFrom_ne_itoa (n : Int) : itoa n ≠ wFrom := fun h => by
  have := (itoa_mem n 102 (by rw [h]; decide)).2
  exact absurd this (by decide)
theorem itemD_lineF {f : Fld} (hc : Canon f) (h1 : 1 ≤ f.kind) (h2 : f.kind ≤ 6) (hn : f.n.natAbs ≤ 1000000000) (hf : f.frm.natAbs ≤ 1000000000) (hF : f.kind = 3 → f.frm ≠ -1 → True) : itemD (lineF f) = some (.fld f) := by
  have hw : ∀ x ∈ wordK f.kind, x ≠ (32 : UInt8) := ne_of_ge wordK_mem (by decide)
  have key : ∀ r g, sp 32 (lineF f) = wordK f.kind :: r → readK f.kind r = some g → setK f.kind g = f → itemD (lineF f) = some (.fld f) := by
    intro r g e hr hg
    unfold itemD
    rw [e]
    simp only
    rw [if_neg (wordK_ne h1 h2), kindOf_wordK h1 h2, if_neg (by omega), hr]
    simp only [hg, if_true]
  rcases hc with ⟨k, n0, f0⟩ | ⟨k, f0, t0⟩ | ⟨k, t0, hh⟩ | ⟨k, t0⟩
  · refine key [hex f.text.data.toList] ⟨0, 0, -1, f.text⟩ ?_ ?_ ?_
    · unfold lineF writeF
      rw [if_pos k]
      exact (sp_two (c := []) (d := []) (e := []) hw (ne_of_ge (hex_mem _) (by decide))).1
    · unfold readK
      rw [if_pos k]
      simp only [unhex_hex, Option.map_some]
    · obtain ⟨kind, n, frm, text⟩ := f
      simp only at k n0 f0
      subst n0; subst f0; rfl
  · refine key [itoa f.n] ⟨0, f.n, -1, eb⟩ ?_ ?_ ?_
    · unfold lineF writeF
      rw [if_neg (by omega), if_neg (by omega), if_neg (by omega)]
      exact (sp_two (c := []) (d := []) (e := []) hw (itoa_no32 _)).1
    · unfold readK
      rw [if_neg (by omega), if_neg (by omega), if_neg (by omega)]
      simp only [numW, numO_itoa _ hn, Option.map_some]
    · obtain ⟨kind, n, frm, text⟩ := f
      simp only at k t0 f0
      subst t0; subst f0; rfl
  · by_cases hm : f.frm = -1
    · refine key [itoa f.n] ⟨0, f.n, -1, eb⟩ ?_ ?_ ?_
      · unfold lineF writeF
        rw [if_neg (by omega), if_pos k, if_pos hm]
        exact (sp_two (c := []) (d := []) (e := []) hw (itoa_no32 _)).1
      · unfold readK
        rw [if_neg (by omega), if_pos k]
        simp only [if_neg (wFrom_ne_itoa f.n), numO_itoa _ hn, Option.map_some]
      · obtain ⟨kind, n, frm, text⟩ := f
        simp only at k t0 hm
        subst t0; subst hm; rfl
    · refine key [wFrom, itoa f.frm] ⟨0, 0, f.frm, eb⟩ ?_ ?_ ?_
      · unfold lineF writeF
        rw [if_neg (by omega), if_pos k, if_neg hm]
        exact (sp_two (c := itoa f.frm) (d := []) (e := []) hw (ne_of_ge wFrom_mem (by decide))).2.1 (itoa_no32 _)
      · unfold readK
        rw [if_neg (by omega), if_pos k]
        simp only [if_true, numW, numO_itoa _ hf, Option.map_some]
      · obtain ⟨kind, n, frm, text⟩ := f
        simp only at k t0 hm hh
        obtain rfl : n = 0 := by rcases hh with h | h; exact absurd h hm; exact h
        subst t0; rfl
  · refine key [itoa f.n, wFrom, itoa f.frm] ⟨0, f.n, f.frm, eb⟩ ?_ ?_ ?_
    · unfold lineF writeF
      rw [if_neg (by omega), if_neg (by omega), if_pos k]
      exact (sp_two (c := []) (d := wFrom) (e := itoa f.frm) hw (itoa_no32 _)).2.2 (ne_of_ge wFrom_mem (by decide)) (itoa_no32 _)
    · unfold readK
      rw [if_neg (by omega), if_neg (by omega), if_pos k]
      simp only [if_true, numW, numO_itoa _ hn, numO_itoa _ hf, Option.map_some]
    · obtain ⟨kind, n, frm, text⟩ := f
      simp only at t0
      subst t0; rfl
/-- What a field that may stand there is like. -/
theorem size_eb {t : ByteArray} (h : t.size = 0) : t = eb := by
  obtain ⟨⟨l⟩⟩ := t
  have : l.length = 0 := h
  cases l with
  | nil => rfl
  | cons a l => simp at this
/-- All numbers of a list of pairs are small. -/
def Small (m : List (Int × Int)) : Prop := ∀ id v, lk m id = some v → 0 ≤ id ∧ id ≤ 1000000
theorem right_canon {m : List (Int × Int)} {fs : List Fld} {f : Fld} (hs : Small m) (hl : fs.length ≤ 16) (h : right m fs f = true) : Canon f ∧ 1 ≤ f.kind ∧ f.kind ≤ 6 ∧ 0 ≤ f.n ∧ f.n ≤ 1000000 ∧ -1 ≤ f.frm ∧ f.frm ≤ 16 ∧ f.text.size ≤ 16 := by
  have hk := right_kind h
  have ha : ∀ {q}, knows m q = true → 0 ≤ q ∧ q ≤ 1000000 := by
    intro q hq
    obtain ⟨v, hv⟩ := Option.isSome_iff_exists.1 hq
    exact hs q v hv
  unfold right at h
  unfold Canon
  split at h
  · rename_i k
    have := literal_of h
    exact ⟨.inl ⟨k, this.1, this.2.1⟩, by omega⟩
  · split at h
    · rename_i k
      have := sized_of h
      exact ⟨.inr (.inl ⟨.inl k, this.1, size_eb this.2.1⟩), by omega⟩
    · split at h
      · rename_i k
        rcases Bool.or_eq_true_iff.1 h with h | h
        · have := sized_of h
          exact ⟨.inr (.inr (.inl ⟨k, size_eb this.2.1, .inl this.1⟩)), by omega⟩
        · have := counted_of h
          have h2 := counts_of this.2.2
          exact ⟨.inr (.inr (.inl ⟨k, size_eb this.2.1, .inr this.1⟩)), by omega⟩
      · split at h
        · rename_i k
          have := nests_of h
          have h2 := counts_of this.2.2
          have h3 := ha this.2.1
          exact ⟨.inr (.inr (.inr ⟨.inl k, size_eb this.1⟩)), by omega⟩
        · split at h
          · rename_i k
            rw [Bool.and_eq_true] at h
            have := nests_of h.1
            have h2 := counts_of this.2.2
            have h3 := ha this.2.1
            exact ⟨.inr (.inr (.inr ⟨.inr k, size_eb this.1⟩)), by omega⟩
          · split at h
            · rename_i k
              have := sized_of h
              exact ⟨.inr (.inl ⟨.inr k, this.1, size_eb this.2.1⟩), by omega⟩
            · cases h
theorem Ok.small : ∀ {l : List Fm}, Ok l → Small (lm l) := by
  intro l
  generalize hn : l.length = n
  induction n generalizing l with
  | zero => intro _; rw [List.eq_nil_of_length_eq_zero hn]; intro id v h; rw [lm_nil, lk_nil] at h; cases h
  | succ n ih =>
    intro h
    obtain ⟨d, f, rfl⟩ : ∃ t f, l = t ++ [f] := ⟨l.dropLast, l.getLast (by intro e; rw [e] at hn; simp at hn), by rw [List.dropLast_concat_getLast]⟩
    obtain ⟨h1, h2⟩ := h.snoc_inv
    have h3 := ih (by simpa using hn) h1
    rw [lm_snoc]
    intro id v hv
    rw [lk_cons] at hv
    split at hv
    · rename_i he
      simp only at he
      have := h2.lo; have := h2.hi
      omega
    · exact h3 id v hv
end Fx
end Go.Proofs.YtcnokccgdiodlaaGreatDoor
