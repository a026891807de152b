/- Plain facts on the reference's reading of a line: the field that its words give, and what that has to do with the line's reading. No condition of its own. The reference's bytes of hexadecimal digits. Conditions: the text has at most a million bytes. The reference's judgement of the last format of a table, as far as it has been read. Conditions: the table can be read; the formats before the last one are valid, and so are its fields but for the last one. The reference's field of words. Conditions: a list of words of the call's own, that are not too long. A table of the call's own that grows: a format is appended, a field is appended to the last format. No condition of its own. The reference's Parse: it answers as the text's reading asks. Conditions: the text has at most ten million bytes. -/
import Derived.Test.YtcnokccgdiodlaaGreatDoorLawText
import Derived.Test.YtcnokccgdiodlaaGreatDoorRefP
import Derived.Test.YtcnokccgdiodlaaGreatDoorFmtTake
import Derived.Test.YtcnokccgdiodlaaGreatDoorRefD
import Derived.Test.YtcnokccgdiodlaaGreatDoorLawArg
namespace Go.Proofs.YtcnokccgdiodlaaGreatDoor
section RefU
section RefU
namespace Fx
open Go.Lib (itoa decDigits)

/-! numbers -/
theorem rnumA_snoc : ∀ (l : List UInt8) (n : Int) (c : UInt8), (∀ x ∈ l, 48 ≤ x.toNat ∧ x.toNat ≤ 57) → 48 ≤ c.toNat → c.toNat ≤ 57 → rnumA (l ++ [c]) n = 10 * rnumA l n + ((c.toNat : Int) - 48)
  | [], n, c, _, h1, h2 => by
    show (if c.toNat < 48 ∨ 57 < c.toNat then 0 else _) = _
    rw [if_neg (by omega)]; rfl
  | x :: l, n, c, h, h1, h2 => by
    have hx := h x (by simp)
    rw [List.cons_append, rnumA, if_neg (by omega), rnumA, if_neg (by omega)]
    exact rnumA_snoc l _ c (fun y hy => h y (List.mem_cons_of_mem _ hy)) h1 h2
theorem rnumA_dec (u : Nat) : rnumA (decDigits u) 0 = u := by
  induction u using Nat.strongRecOn with
  | ind u ih =>
    by_cases h : u < 10
    · rw [dec_small h, rnumA, if_neg (by rw [dig_nat u h]; omega), dig_nat u h, rnumA]; omega
    · rw [dec_big h, rnumA_snoc _ _ _ (dec_mem _) (by rw [dig_nat _ (by omega)]; omega) (by rw [dig_nat _ (by omega)]; omega), ih (u / 10) (by omega), dig_nat _ (by omega)]
      omega
theorem rnum_dec {u : Nat} (h : u < 100000000) : rnum (decDigits u) = u := by
  unfold rnum
  have := dec_len 8 u (by decide) (by simpa using h)
  rw [if_neg (by omega), rnumA_dec]
theorem rnum_itoa {n : Int} (h0 : 0 ≤ n) (h1 : n < 100000000) : rnum (itoa n) = n := by
  rw [itoa_pos h0, rnum_dec (by omega)]; omega
theorem rnumA_lo : ∀ (l : List UInt8) (n : Int), 0 ≤ n → 0 ≤ rnumA l n
  | [], n, h => h
  | c :: l, n, h => by
    rw [rnumA]
    split
    · omega
    · exact rnumA_lo l _ (by omega)
theorem rnumA_hi : ∀ (l : List UInt8) (n : Int) (k : Nat), 0 ≤ n → n < ((10 ^ k : Nat) : Int) → rnumA l n < ((10 ^ (k + l.length) : Nat) : Int)
  | [], n, k, _, h => h
  | c :: l, n, k, h0, h => by
    rw [rnumA]
    have hp : 0 < 10 ^ (k + (c :: l).length) := Nat.pow_pos (by decide)
    split
    · omega
    · have e : k + (c :: l).length = (k + 1) + l.length := by rw [List.length_cons]; omega
      rw [e]
      have h10 : (10 : Nat) ^ (k + 1) = 10 ^ k * 10 := Nat.pow_succ ..
      exact rnumA_hi l _ (k + 1) (by omega) (by omega)
theorem rnum_in (l : List UInt8) : 0 ≤ rnum l ∧ rnum l < 100000000 := by
  unfold rnum
  split
  · omega
  · refine ⟨rnumA_lo _ _ (Int.le_refl _), ?_⟩
    have h := rnumA_hi l 0 0 (Int.le_refl _) (by decide)
    have h2 : 10 ^ (0 + l.length) ≤ 10 ^ 8 := Nat.pow_le_pow_right (by decide) (by omega)
    have e : (10 : Nat) ^ 8 = 100000000 := by decide
    omega

/-! bytes -/
/-- The bytes of a word, two digits each. -/
def unhexR : List UInt8 → List UInt8
  | a :: b :: t => UInt8.ofNat (16 * digV a.toNat + digV b.toNat) :: unhexR t
  | _ => []
theorem digV_lt (c : Nat) : digV c < 16 := by
  unfold digV
  repeat' split
  all_goals omega
theorem digV_hexD {n : Nat} (h : n < 16) : digV (hexD n).toNat = n := by
  rw [hexD_toNat h]
  unfold digV
  by_cases h1 : n < 10
  · rw [if_pos h1, if_neg (by omega), if_pos (by omega)]; omega
  · rw [if_neg h1, if_pos (by omega)]; omega
theorem unhexR_hex : ∀ l : List UInt8, unhexR (hex l) = l
  | [] => rfl
  | c :: t => by
    have ih := unhexR_hex t
    have := c.toNat_lt
    show unhexR (hexD (c.toNat / 16) :: hexD (c.toNat % 16) :: hex t) = _
    rw [unhexR, digV_hexD (by omega), digV_hexD (by omega), ih]
    congr 1
    apply UInt8.toNat_inj.1
    rw [UInt8.toNat_ofNat']; omega
theorem unhexR_len : ∀ l : List UInt8, 2 * (unhexR l).length ≤ l.length
  | [] => by simp [unhexR]
  | [a] => by simp [unhexR]
  | a :: b :: t => by
    have := unhexR_len t
    simp only [unhexR, List.length_cons]; omega
theorem hex_len (l : List UInt8) : (hex l).length = 2 * l.length := by
  induction l with
  | nil => rfl
  | cons c t ih =>
    have e : hex (c :: t) = hexD (c.toNat / 16) :: hexD (c.toNat % 16) :: hex t := rfl
    rw [e]; simp only [List.length_cons]; omega

/-! a field of words -/
def fieldR (ps : List (List UInt8)) : Fld :=
  if ps.getD 0 [] = wordK 1 then ⟨1, 0, -1, bs (unhexR ((ps.getD 1 []).take 34))⟩
  else if ps.getD 0 [] = wordK 2 then ⟨2, rnum (ps.getD 1 []), -1, eb⟩
  else if ps.getD 0 [] = wordK 3 then (if ps.getD 1 [] = wFrom then ⟨3, 0, rnum (ps.getD 2 []), eb⟩ else ⟨3, rnum (ps.getD 1 []), -1, eb⟩)
  else if ps.getD 0 [] = wordK 4 then ⟨4, rnum (ps.getD 1 []), rnum (ps.getD 3 []), eb⟩
  else if ps.getD 0 [] = wordK 5 then ⟨5, rnum (ps.getD 1 []), rnum (ps.getD 3 []), eb⟩
  else ⟨6, rnum (ps.getD 1 []), -1, eb⟩
/-- What every such field is like. -/
structure FR (f : Fld) : Prop where
  canon : Canon f
  k1 : 1 ≤ f.kind
  k6 : f.kind ≤ 6
  n0 : 0 ≤ f.n
  n1 : f.n < 100000000
  f0 : -1 ≤ f.frm
  f1 : f.frm < 100000000
  t : f.text.size ≤ 17
  f45 : f.kind = 4 ∨ f.kind = 5 → 0 ≤ f.frm
theorem fieldR_fr (ps : List (List UInt8)) : FR (fieldR ps) := by
  have r1 := rnum_in (ps.getD 1 [])
  have r2 := rnum_in (ps.getD 2 [])
  have r3 := rnum_in (ps.getD 3 [])
  have hb : (bs (unhexR ((ps.getD 1 []).take 34))).size ≤ 17 := by
    have h := unhexR_len ((ps.getD 1 []).take 34)
    have h2 : ((ps.getD 1 []).take 34).length ≤ 34 := by rw [List.length_take]; omega
    show (unhexR ((ps.getD 1 []).take 34)).length ≤ 17
    omega
  have he : eb.size ≤ 17 := by decide
  unfold fieldR
  split
  · exact ⟨.inl ⟨rfl, rfl, rfl⟩, by dsimp only; omega, by dsimp only; omega, by dsimp only; omega, by dsimp only; omega, by dsimp only; omega, by dsimp only; omega, hb, fun h => by simp at h⟩
  · split
    · exact ⟨.inr (.inl ⟨.inl rfl, rfl, rfl⟩), by dsimp only; omega, by dsimp only; omega, r1.1, r1.2, by dsimp only; omega, by dsimp only; omega, he, fun h => by simp at h⟩
    · split
      · split
        · exact ⟨.inr (.inr (.inl ⟨rfl, rfl, .inr rfl⟩)), by dsimp only; omega, by dsimp only; omega, by dsimp only; omega, by dsimp only; omega, by show -1 ≤ rnum _; omega, r2.2, he, fun h => by simp at h⟩
        · exact ⟨.inr (.inr (.inl ⟨rfl, rfl, .inl rfl⟩)), by dsimp only; omega, by dsimp only; omega, r1.1, r1.2, by dsimp only; omega, by dsimp only; omega, he, fun h => by simp at h⟩
      · split
        · exact ⟨.inr (.inr (.inr ⟨.inl rfl, rfl⟩)), by dsimp only; omega, by dsimp only; omega, r1.1, r1.2, by show -1 ≤ rnum _; omega, r3.2, he, fun _ => r3.1⟩
        · split
          · exact ⟨.inr (.inr (.inr ⟨.inr rfl, rfl⟩)), by dsimp only; omega, by dsimp only; omega, r1.1, r1.2, by show -1 ≤ rnum _; omega, r3.2, he, fun _ => r3.1⟩
          · exact ⟨.inr (.inl ⟨.inr rfl, rfl, rfl⟩), by dsimp only; omega, by dsimp only; omega, r1.1, r1.2, by dsimp only; omega, by dsimp only; omega, he, fun h => by simp at h⟩
theorem FR.cg {f : Fld} (h : FR f) : CG f := by
  have := h.n0; have := h.n1; have := h.f0; have := h.f1
  exact ⟨h.canon, h.k1, h.k6, by omega, by omega⟩
theorem FR.ints {f : Fld} (h : FR f) : Ints f := by
  have := h.n0; have := h.n1; have := h.f0; have := h.f1; have := h.k1; have := h.k6; have := h.t
  exact ⟨by omega, by omega, by omega, by omega, by omega, by omega, by omega⟩
theorem sp_words {a b : List UInt8} (ha : ∀ x ∈ a, x ≠ (32 : UInt8)) (hb : ∀ x ∈ b, x ≠ (32 : UInt8)) : sp 32 (a ++ 32 :: b) = [a, b] := (sp_two (c := []) (d := []) (e := []) ha hb).1
/-- The words of the line of a field that may stand there give the field. -/
theorem fieldR_lineF {f : Fld} (hc : Canon f) (h1 : 1 ≤ f.kind) (h6 : f.kind ≤ 6) (n0 : 0 ≤ f.n) (n1 : f.n ≤ 1000000) (f0 : -1 ≤ f.frm) (f1 : f.frm ≤ 16) (ht : f.text.size ≤ 16) (h45 : f.kind = 4 ∨ f.kind = 5 → 0 ≤ f.frm) : fieldR (sp 32 (lineF f)) = f := by
  have hw : ∀ k, ∀ x ∈ wordK k, x ≠ (32 : UInt8) := fun k => ne_of_ge wordK_mem (by decide)
  obtain ⟨kind, n, frm, text⟩ := f
  simp only at h1 h6 n0 n1 f0 f1 ht h45
  rcases hc with ⟨k, e0, e1⟩ | ⟨k, e0, e1⟩ | ⟨k, e0, e1⟩ | ⟨k, e0⟩
  · simp only at k e0 e1
    subst k; subst e0; subst e1
    have e : sp 32 (lineF ⟨1, 0, -1, text⟩) = [wordK 1, hex text.data.toList] := sp_words (hw 1) (ne_of_ge (hex_mem _) (by decide))
    rw [e]
    unfold fieldR
    simp only [List.getD_cons_zero, List.getD_cons_succ, if_true]
    have hl : (hex text.data.toList).length ≤ 34 := by
      rw [hex_len]
      have : text.data.toList.length = text.size := by simp
      omega
    rw [List.take_of_length_le hl, unhexR_hex]
  · simp only at k e0 e1
    subst e0; subst e1
    rcases k with rfl | rfl
    · have e : sp 32 (lineF ⟨2, n, -1, eb⟩) = [wordK 2, itoa n] := sp_words (hw 2) (itoa_no32 n)
      rw [e]
      unfold fieldR
      simp only [List.getD_cons_zero, List.getD_cons_succ]
      rw [if_neg (by decide), if_pos trivial, rnum_itoa n0 (by omega)]
    · have e : sp 32 (lineF ⟨6, n, -1, eb⟩) = [wordK 6, itoa n] := sp_words (hw 6) (itoa_no32 n)
      rw [e]
      unfold fieldR
      simp only [List.getD_cons_zero, List.getD_cons_succ]
      rw [if_neg (by decide), if_neg (by decide), if_neg (by decide), if_neg (by decide), if_neg (by decide), rnum_itoa n0 (by omega)]
  · simp only at k e0 e1
    subst k; subst e0
    by_cases hm : frm = -1
    · subst hm
      have e : sp 32 (lineF ⟨3, n, -1, eb⟩) = [wordK 3, itoa n] := sp_words (hw 3) (itoa_no32 n)
      rw [e]
      unfold fieldR
      simp only [List.getD_cons_zero, List.getD_cons_succ]
      rw [if_neg (by decide), if_neg (by decide), if_pos trivial, if_neg (wFrom_ne_itoa n), rnum_itoa n0 (by omega)]
    · obtain rfl : n = 0 := by rcases e1 with h | h; exact absurd h hm; exact h
      have e : sp 32 (lineF ⟨3, 0, frm, eb⟩) = [wordK 3, wFrom, itoa frm] := by
        have := (sp_two (c := itoa frm) (d := []) (e := []) (hw 3) (ne_of_ge wFrom_mem (by decide))).2.1 (itoa_no32 _)
        unfold lineF writeF
        rw [if_neg (by show ¬ (3 : Int) = 1; decide), if_pos rfl, if_neg hm]
        exact this
      rw [e]
      unfold fieldR
      simp only [List.getD_cons_zero, List.getD_cons_succ]
      rw [if_neg (by decide), if_neg (by decide), if_pos trivial, if_pos trivial, rnum_itoa (by omega) (by omega)]
  · simp only at k e0
    subst e0
    have hf := h45 k
    rcases k with rfl | rfl
    · have e : sp 32 (lineF ⟨4, n, frm, eb⟩) = [wordK 4, itoa n, wFrom, itoa frm] := by
        have := (sp_two (c := []) (d := wFrom) (e := itoa frm) (hw 4) (itoa_no32 n)).2.2 (ne_of_ge wFrom_mem (by decide)) (itoa_no32 _)
        exact this
      rw [e]
      unfold fieldR
      simp only [List.getD_cons_zero, List.getD_cons_succ]
      rw [if_neg (by decide), if_neg (by decide), if_neg (by decide), if_pos trivial, rnum_itoa n0 (by omega), rnum_itoa hf (by omega)]
    · have e : sp 32 (lineF ⟨5, n, frm, eb⟩) = [wordK 5, itoa n, wFrom, itoa frm] := by
        have := (sp_two (c := []) (d := wFrom) (e := itoa frm) (hw 5) (itoa_no32 n)).2.2 (ne_of_ge wFrom_mem (by decide)) (itoa_no32 _)
        exact this
      rw [e]
      unfold fieldR
      simp only [List.getD_cons_zero, List.getD_cons_succ]
      rw [if_neg (by decide), if_neg (by decide), if_neg (by decide), if_neg (by decide), if_pos trivial, rnum_itoa n0 (by omega), rnum_itoa hf (by omega)]

/-! a line -/
theorem tab_ne {s : St} (g : Good s) (h : tab s ≠ []) : s.o.id ≠ 0 := fun h0 => h (by
  unfold tab
  rw [if_pos h0]
  exact (g.none_ h0).2)
theorem tab_some {s : St} (h : s.o.id ≠ 0) : tab s = s.d ++ [s.o] := by unfold tab; rw [if_neg h]
/-- A line of two words, the first one format, that is the heading of the number. -/
def isHead (ps : List (List UInt8)) : Prop := ps.getD 0 [] = wFormat ∧ ps.length = 2
theorem sp_heading (id : Int) : sp 32 (heading id) = [wFormat, itoa id] := sp_words (ne_of_ge wFormat_mem (by decide)) (itoa_no32 id)
theorem sp_lineF0 (f : Fld) : ∃ r, sp 32 (lineF f) = wordK f.kind :: r := ⟨_, sp_here (ne_of_ge wordK_mem (by decide))⟩
theorem read_head_bad {s : St} {l : List UInt8} (g : Good s) (h : isHead (sp 32 l)) (hl : wFormat ++ 32 :: decDigits (rnum ((sp 32 l).getD 1 [])).toNat ≠ l) : readO s l = none := by
  cases hr : readO s l with
  | none => rfl
  | some s1 =>
    exfalso
    unfold readO at hr
    cases hi : itemD l with
    | none => rw [hi] at hr; cases hr
    | some x =>
      rw [hi] at hr
      cases x with
      | head id =>
        have e := itemD_head hi
        have hb : beginO s id = some s1 := hr
        have hid : 0 ≤ id ∧ id ≤ 1000000 := by
          unfold beginO at hb
          split at hb
          · cases hb
          · split at hb
            · rename_i hc; have := g.lo; omega
            · cases hb
        apply hl
        rw [e, sp_heading]
        simp only [List.getD_cons_zero, List.getD_cons_succ]
        rw [rnum_itoa hid.1 (by omega), ← itoa_pos hid.1]; rfl
      | fld f =>
        obtain ⟨e, _, k1, k6⟩ := itemD_fld hi
        obtain ⟨r, er⟩ := sp_lineF0 f
        rw [e, er] at h
        exact wordK_ne k1 k6 h.1
/-- Whether a format with a number may begin behind formats. -/
def headB (m : List Fm) (id : Int) : Bool :=
  decide (m.length < 60) && (decide (1 ≤ id) && (decide (id ≤ 1000000) && (decide (m.length = 0) || (decide ((m.getD (m.length - 1) zm).id < id) && decide (0 < (m.getD (m.length - 1) zm).fs.length)))))
theorem read_head_ok {s : St} {l : List UInt8} (g : Good s) (hl : wFormat ++ 32 :: decDigits (rnum ((sp 32 l).getD 1 [])).toNat = l) :
    readO s l = if headB (tab s) (rnum ((sp 32 l).getD 1 [])) then some ⟨tab s, ⟨rnum ((sp 32 l).getD 1 []), []⟩⟩ else none := by
  obtain ⟨id, hid⟩ : ∃ id, id = rnum ((sp 32 l).getD 1 []) := ⟨_, rfl⟩
  have hr := rnum_in ((sp 32 l).getD 1 [])
  rw [← hid] at hl hr ⊢
  have e : l = heading id := by rw [← hl]; unfold heading; rw [itoa_pos hr.1]
  rw [e, readO_head (by omega)]
  have hlo := g.lo
  unfold beginO endO headB
  by_cases h0 : s.o.id = 0
  · obtain ⟨e1, e2⟩ := g.none_ h0
    have et : tab s = s.d := by unfold tab; rw [if_pos h0]
    rw [if_pos h0, et]
    simp only [e2, h0, List.length_nil]
    by_cases hc : 1 ≤ id ∧ id ≤ 1000000
    · rw [if_pos (by omega), if_pos (by simp [hc.1, hc.2])]
    · rw [if_neg (by omega), if_neg (by simp; omega)]
  · have et := tab_some h0
    have hlen : (s.d ++ [s.o]).length = s.d.length + 1 := by simp
    have hlast : (s.d ++ [s.o]).getD (s.d.length + 1 - 1) zm = s.o := getD_snoc_eq
    rw [if_neg h0, et, hlen, hlast]
    by_cases hf : s.o.fs.length = 0
    · rw [if_pos hf]
      simp only
      rw [if_neg (by simp [hf])]
    · rw [if_neg hf]
      simp only [hlen]
      by_cases hc : s.d.length + 1 < 60 ∧ s.o.id < id ∧ id ≤ 1000000
      · rw [if_pos hc, if_pos (by simp; omega)]
      · rw [if_neg hc, if_neg (by simp; omega)]
theorem read_field_bad {s : St} {l : List UInt8} (g : Good s) (h : ¬ isHead (sp 32 l)) (hl : tab s = [] ∨ lineF (fieldR (sp 32 l)) ≠ l) : readO s l = none := by
  cases hr : readO s l with
  | none => rfl
  | some s1 =>
    exfalso
    unfold readO at hr
    cases hi : itemD l with
    | none => rw [hi] at hr; cases hr
    | some x =>
      rw [hi] at hr
      cases x with
      | head id =>
        apply h
        rw [itemD_head hi, sp_heading]
        exact ⟨rfl, rfl⟩
      | fld f =>
        obtain ⟨e, hc, k1, k6⟩ := itemD_fld hi
        have ha : addO s f = some s1 := hr
        unfold addO at ha
        split at ha
        · rename_i hb
          obtain ⟨a, b, c, d⟩ := addB_of hb
          obtain ⟨r1, r2, r3, r4, r5, r6, r7, r8⟩ := right_canon g.pre.small g.few c
          have h45 : f.kind = 4 ∨ f.kind = 5 → 0 ≤ f.frm := fun hk => by
            rcases hk with hk | hk
            · rw [right_4 hk] at c; exact (counts_of (nests_of c).2.2).1
            · rw [right_5 hk, Bool.and_eq_true] at c; exact (counts_of (nests_of c.1).2.2).1
          have e2 := fieldR_lineF r1 r2 r3 r4 r5 r6 r7 r8 h45
          rcases hl with hl | hl
          · rw [tab_some (by omega)] at hl; simp at hl
          · exact hl (by rw [e, e2])
        · cases ha
/-- Whether a field may stand behind fields, as the reference asks it. -/
def fieldB (s : St) (f : Fld) : Bool := Fx.right (lm s.d) s.o.fs f && (decide (s.o.fs.length < 16) && decide (ls (lm s.d) (s.o.fs ++ [f]) ≤ 65536))
theorem read_field_ok {s : St} {l : List UInt8} (g : Good s) (h0 : tab s ≠ []) (hl : lineF (fieldR (sp 32 l)) = l) :
    readO s l = if fieldB s (fieldR (sp 32 l)) then some ⟨s.d, ⟨s.o.id, s.o.fs ++ [fieldR (sp 32 l)]⟩⟩ else none := by
  have hF := (fieldR_fr (sp 32 l)).cg
  obtain ⟨f, hf⟩ : ∃ f, f = fieldR (sp 32 l) := ⟨_, rfl⟩
  rw [← hf] at hl hF ⊢
  rw [← hl, readO_line hF]
  have hid := tab_ne g h0
  have hlo := g.lo
  have e : addB s f = fieldB s f := by
    unfold addB fieldB
    rw [decide_eq_true (show 0 < s.o.id by omega), Bool.true_and]
    cases Fx.right (lm s.d) s.o.fs f <;> cases decide (s.o.fs.length < 16) <;> rfl
  unfold addO
  rw [e]
/-- At the end: what was read is valid, if the format that is open can end. -/
theorem end_valid {s : St} (g : Good s) : vd (tab s) = (endO s).isSome := by
  rw [Bool.eq_iff_iff, vd_iff]
  unfold endO
  by_cases h0 : s.o.id = 0
  · unfold tab
    rw [if_pos h0, if_pos h0]
    exact ⟨fun _ => rfl, fun _ => g.pre⟩
  · rw [tab_some h0, if_neg h0]
    by_cases hf : s.o.fs.length = 0
    · rw [if_pos hf]
      refine ⟨fun h => ?_, fun h => by cases h⟩
      have := h.snoc_inv.2.some_
      omega
    · rw [if_neg hf]
      exact ⟨fun _ => rfl, fun _ => g.pre.snoc (g.fmOk h0 hf) (g.room h0) g.asc⟩
end Fx
end RefU
end RefU
section RefV
open Go.RowKit Go.Shelf Fx Go.Sort

theorem unhexR_two : ∀ (k : Nat) (l : List UInt8), 2 * k + 1 < l.length → unhexR (l.take (2 * (k + 1))) = unhexR (l.take (2 * k)) ++ [UInt8.ofNat (16 * digV (l.getD (2 * k) 0).toNat + digV (l.getD (2 * k + 1) 0).toNat)]
  | 0, a :: b :: t, _ => by simp [unhexR]
  | k + 1, a :: b :: t, h => by
    have ih := unhexR_two k t (by simp only [List.length_cons] at h; omega)
    have e1 : 2 * (k + 1 + 1) = 2 * (k + 1) + 2 := by omega
    have e2 : 2 * (k + 1) = 2 * k + 2 := by omega
    rw [e1, List.take_succ_cons, List.take_succ_cons, unhexR, ih, e2, List.take_succ_cons, List.take_succ_cons, unhexR]
    have e3 : (a :: b :: t).getD (2 * k + 2) 0 = t.getD (2 * k) 0 := rfl
    have e4 : (a :: b :: t).getD (2 * k + 2 + 1) 0 = t.getD (2 * k + 1) 0 := rfl
    rw [e3, e4]; rfl
theorem unhexR_end : ∀ (k : Nat) (l : List UInt8), l.length ≤ 2 * k + 1 → unhexR (l.take (2 * k)) = unhexR l
  | 0, [], _ => rfl
  | 0, [a], _ => rfl
  | 0, a :: b :: t, h => by simp at h
  | k + 1, [], _ => by simp
  | k + 1, [a], _ => by
    have e2 : 2 * (k + 1) = (2 * k + 1) + 1 := by omega
    rw [e2, List.take_succ_cons, List.take_nil]
  | k + 1, a :: b :: t, h => by
    have ih := unhexR_end k t (by simp only [List.length_cons] at h; omega)
    have e2 : 2 * (k + 1) = 2 * k + 2 := by omega
    rw [e2, List.take_succ_cons, List.take_succ_cons, unhexR, unhexR, ih]
theorem unhexR_len1 : ∀ l : List UInt8, (unhexR l).length = l.length / 2
  | [] => rfl
  | [a] => by simp [unhexR]
  | a :: b :: t => by
    have := unhexR_len1 t
    simp only [unhexR, List.length_cons]; omega
set_option maxRecDepth 100000 in
set_option maxHeartbeats 2000000 in
theorem rUnhex_any (s : ByteArray) (w : World) (hs : s.size ≤ 1000000) :
    Calls Tryz.prog 75 #[.string s] w fun e w' => e = .returned (.string (bs (unhexR s.data.toList))) ∧ Below w.heap.size w w' := by
  have hsl : s.data.toList.length = s.size := by simp
  go_enter Tryz.func75, Tryz.ntmps75
  go_wp2_with fail
  go_loopw [3, 4] (fun o i wr => ∃ (m : Nat), m ≤ s.size ∧ i = .int .i64 m ∧ Hid (Below w.heap.size w wr ∧ ∃ k, m = 2 * k ∧ wr.ownsRow w.heap.size 5 1 o k (Lib.byteCells (unhexR (s.data.toList.take (2 * k)))))) (fun _ i _ => s.size - (intOf i).toNat)
  case atStart => exact ⟨0, Nat.zero_le _, rfl, Lib.hid ⟨Below.refl _ _, 0, rfl, World.ownsRow_nil _ _ _ _⟩⟩
  case round =>
    obtain ⟨m, hm, rfl, HI⟩ := hrel
    obtain ⟨wq, rfl⟩ : ∃ wq, wq = wr := ⟨_, rfl⟩
    by_cases hlt : m + 1 < s.size
    · obtain ⟨hB, k, hk, hO⟩ := HI.out
      have hm1 : m < s.size := by omega
      obtain ⟨p, hp⟩ : ∃ p : Nat, p = digV (s[m]).toNat := ⟨_, rfl⟩
      obtain ⟨q, hq⟩ : ∃ q : Nat, q = digV (s[m + 1]).toNat := ⟨_, rfl⟩
      have hp16 : p < 16 := by rw [hp]; exact digV_lt _
      have hq16 : q < 16 := by rw [hq]; exact digV_lt _
      have c1 : (s[m]).toNat < 256 := (s[m]).toNat_lt
      have c2 : (s[m + 1]).toNat < 256 := (s[m + 1]).toNat_lt
      have K1 : Hid (∀ wS : World, Calls Tryz.prog 98 #[.int .u8 (s[m]).toNat] wS fun e w' => e = .returned (.int .u8 p) ∧ w' = wS) := Lib.hid fun wS => by rw [hp]; exact rdigit_any _ wS c1
      have K2 : Hid (∀ wS : World, Calls Tryz.prog 98 #[.int .u8 (s[m + 1]).toNat] wS fun e w' => e = .returned (.int .u8 q) ∧ w' = wS) := Lib.hid fun wS => by rw [hq]; exact rdigit_any _ wS c2
      have hw1 : IntKind.u8.wrap (16 * (p : Int)) = 16 * (p : Int) := IntWalk.u8_in _ ⟨by omega, by omega⟩
      have hw2 : IntKind.u8.wrap (16 * (p : Int) + (q : Int)) = 16 * (p : Int) + (q : Int) := IntWalk.u8_in _ ⟨by omega, by omega⟩
      have hw3 : IntKind.i64.wrap ((m : Int) + 1) = (m : Int) + 1 := IntWalk.i64_in _ ⟨by omega, by omega⟩
      have hw4 : ((m : Int) + 1).toNat = m + 1 := by omega
      have hw5 : 0 ≤ (m : Int) + 1 ∧ (m : Int) + 1 < s.size := by omega
      have HT : Hid (unhexR (s.data.toList.take (2 * (k + 1))) = unhexR (s.data.toList.take (2 * k)) ++ [UInt8.ofNat (16 * p + q)]) := Lib.hid (by
        rw [unhexR_two k _ (by omega), hp, hq]
        have e1 : s.data.toList.getD (2 * k) 0 = s[m] := by
          simp only [List.getD, ← hk, List.getElem?_eq_getElem (show m < s.data.toList.length by omega), Option.getD_some]; rfl
        have e2 : s.data.toList.getD (2 * k + 1) 0 = s[m + 1] := by
          simp only [List.getD, ← hk, List.getElem?_eq_getElem (show m + 1 < s.data.toList.length by omega), Option.getD_some]; rfl
        rw [e1, e2])
      have hcell : (.int .u8 (16 * (p : Int) + (q : Int)) : Value) = .int .u8 (UInt8.ofNat (16 * p + q)).toNat := by
        rw [UInt8.toNat_ofNat', Nat.mod_eq_of_lt (by omega)]; simp
      have HK : Hid (∀ (W : World) (v1 : Value) (w1 : World), Below wq.heap.size wq W → Grew W w1 w.heap.size 5 1 u3 v1 (k + 1) (Lib.byteCells (unhexR (s.data.toList.take (2 * k))) ++ [.int .u8 (16 * (p : Int) + (q : Int))]) → Below w.heap.size w w1 ∧ ∃ j, m + 2 = 2 * j ∧ w1.ownsRow w.heap.size 5 1 v1 j (Lib.byteCells (unhexR (s.data.toList.take (2 * j))))) := Lib.hid fun W v1 w1 hb hG => by
        refine ⟨(hB.trans (hb.mono hB.size)).grown hG.grown (Nat.le_trans hB.size hb.size) fun g hg => own_ge hO hg, k + 1, by omega, ?_⟩
        have e : Lib.byteCells (unhexR (s.data.toList.take (2 * (k + 1)))) = Lib.byteCells (unhexR (s.data.toList.take (2 * k))) ++ [.int .u8 (16 * (p : Int) + (q : Int))] := by rw [HT.out, hcell]; simp [Lib.byteCells]
        rw [e]
        exact hG.own
      have hsz := hB.size
      have hk8 : k ≤ 100000000 := by omega
      have HO := Lib.hid hO
      have hkm := Lib.hid hk
      clear hp hq hcell hO hB HT hk
      go_wp2_with fail
      have hEN : ∀ (args : Array Value) (w : World), (callFunc 98 args).run Tryz.prog w = .ok (.enter 98 args) w := enters_of Tryz.func98 (by kernel_rfl) (by kernel_rfl)
      refine wp_region_held_drew (S := fun _ : World => True) (by kernel_rfl) trivial (fun hHeld => ?_)
      refine wpAnyH_take (i := 0) (oi := ?o1) (v := ?v1) ?h1 ?a1 ?b1 ?c1 ?q1 (Or.inl ⟨?g1, ?y1⟩) ?s1 ?r1
      case h1 => (simp only [List.getElem?_toArray, List.getElem?_cons_zero]; rfl)
      case a1 => kernel_rfl
      case b1 => kernel_rfl
      case c1 => kernel_rfl
      case q1 => exact fun _ _ _ h => h
      case g1 => rfl
      case y1 => (intro wS hSw; (try dsimp only at hSw); go_simp; (try with_reducible rfl))
      case s1 => assumption
      (try simp only [Act.put, List.setIfInBounds_toArray, List.set_cons_zero, List.set_cons_succ])
      refine wpAnyH_take (i := 1) (oi := ?o2) (v := ?v2) ?h2 ?a2 ?b2 ?c2 ?q2 (Or.inl ⟨?g2, ?y2⟩) ?s2 ?r2
      case h2 => (simp only [List.getElem?_toArray, List.getElem?_cons_zero, List.getElem?_cons_succ]; rfl)
      case a2 => kernel_rfl
      case b2 => kernel_rfl
      case c2 => kernel_rfl
      case q2 => exact fun _ _ _ h => h
      case g2 => rfl
      case y2 => (intro wS hSw; (try dsimp only at hSw); go_simp; (try with_reducible rfl))
      case s2 => assumption
      (try simp only [Act.put, List.setIfInBounds_toArray, List.set_cons_zero, List.set_cons_succ])
      refine wpAnyH_take (i := 2) (oi := ?o3) (v := ?v3) ?h3 ?a3 ?b3 ?c3 ?q3 (Or.inl ⟨?g3, ?y3⟩) ?s3 ?r3
      case h3 => (simp only [List.getElem?_toArray, List.getElem?_cons_zero, List.getElem?_cons_succ]; rfl)
      case a3 => kernel_rfl
      case b3 => kernel_rfl
      case c3 => kernel_rfl
      case q3 => exact fun _ _ _ h => h
      case g3 => rfl
      case y3 => (intro wS hSw; (try dsimp only at hSw); go_simp; (try with_reducible rfl))
      case s3 => assumption
      (try simp only [Act.put, List.setIfInBounds_toArray, List.set_cons_zero, List.set_cons_succ])
      refine wpAnyH_take (i := 3) (oi := ?o4) (v := ?v4) ?h4 ?a4 ?b4 ?c4 ?q4 (Or.inl ⟨?g4, ?y4⟩) ?s4 ?r4
      case h4 => (simp only [List.getElem?_toArray, List.getElem?_cons_zero, List.getElem?_cons_succ]; rfl)
      case a4 => kernel_rfl
      case b4 => kernel_rfl
      case c4 => kernel_rfl
      case q4 => exact fun _ _ _ h => h
      case g4 => rfl
      case y4 => (intro wS hSw; (try dsimp only at hSw); go_simp; (try with_reducible rfl))
      case s4 => assumption
      (try simp only [Act.put, List.setIfInBounds_toArray, List.set_cons_zero, List.set_cons_succ])
      refine wpAnyH_call (i := 4) (oi := ?o5) (v := (.int .u8 p)) ?h5 ?a5 ?b5 ?c5 ?q5 ?g5 98 #[.int .u8 (s[m]).toNat] ?e5 ?y5 ?s5 ?r5
      case h5 => (simp only [List.getElem?_toArray, List.getElem?_cons_zero, List.getElem?_cons_succ]; rfl)
      case a5 => kernel_rfl
      case b5 => kernel_rfl
      case c5 => kernel_rfl
      case q5 => exact fun _ _ _ h => h
      case g5 => rfl
      case e5 => (intro wS hSw; go_simp; (try with_reducible rfl))
      case y5 => (intro wS _; exact K1.out wS)
      case s5 => assumption
      (try simp only [Act.put, List.setIfInBounds_toArray, List.set_cons_zero, List.set_cons_succ])
      refine wpAnyH_take (i := 5) (oi := ?o6) (v := ?v6) ?h6 ?a6 ?b6 ?c6 ?q6 (Or.inl ⟨?g6, ?y6⟩) ?s6 ?r6
      case h6 => (simp only [List.getElem?_toArray, List.getElem?_cons_zero, List.getElem?_cons_succ]; rfl)
      case a6 => kernel_rfl
      case b6 => kernel_rfl
      case c6 => kernel_rfl
      case q6 => exact fun _ _ _ h => h
      case g6 => rfl
      case y6 => (intro wS hSw; (try dsimp only at hSw); go_simp; (try with_reducible rfl))
      case s6 => assumption
      (try simp only [Act.put, List.setIfInBounds_toArray, List.set_cons_zero, List.set_cons_succ])
      refine wpAnyH_take (i := 6) (oi := ?o7) (v := ?v7) ?h7 ?a7 ?b7 ?c7 ?q7 (Or.inl ⟨?g7, ?y7⟩) ?s7 ?r7
      case h7 => (simp only [List.getElem?_toArray, List.getElem?_cons_zero, List.getElem?_cons_succ]; rfl)
      case a7 => kernel_rfl
      case b7 => kernel_rfl
      case c7 => kernel_rfl
      case q7 => exact fun _ _ _ h => h
      case g7 => rfl
      case y7 => (intro wS hSw; (try dsimp only at hSw); go_simp; (try with_reducible rfl))
      case s7 => assumption
      (try simp only [Act.put, List.setIfInBounds_toArray, List.set_cons_zero, List.set_cons_succ])
      refine wpAnyH_take (i := 7) (oi := ?o8) (v := ?v8) ?h8 ?a8 ?b8 ?c8 ?q8 (Or.inl ⟨?g8, ?y8⟩) ?s8 ?r8
      case h8 => (simp only [List.getElem?_toArray, List.getElem?_cons_zero, List.getElem?_cons_succ]; rfl)
      case a8 => kernel_rfl
      case b8 => kernel_rfl
      case c8 => kernel_rfl
      case q8 => exact fun _ _ _ h => h
      case g8 => rfl
      case y8 => (intro wS hSw; (try dsimp only at hSw); go_simp; (try with_reducible rfl))
      case s8 => assumption
      (try simp only [Act.put, List.setIfInBounds_toArray, List.set_cons_zero, List.set_cons_succ])
      refine wpAnyH_take (i := 8) (oi := ?o9) (v := ?v9) ?h9 ?a9 ?b9 ?c9 ?q9 (Or.inl ⟨?g9, ?y9⟩) ?s9 ?r9
      case h9 => (simp only [List.getElem?_toArray, List.getElem?_cons_zero, List.getElem?_cons_succ]; rfl)
      case a9 => kernel_rfl
      case b9 => kernel_rfl
      case c9 => kernel_rfl
      case q9 => exact fun _ _ _ h => h
      case g9 => rfl
      case y9 => (intro wS hSw; (try dsimp only at hSw); go_simp; (try with_reducible rfl))
      case s9 => assumption
      (try simp only [Act.put, List.setIfInBounds_toArray, List.set_cons_zero, List.set_cons_succ])
      refine wpAnyH_take (i := 9) (oi := ?o10) (v := ?v10) ?h10 ?a10 ?b10 ?c10 ?q10 (Or.inl ⟨?g10, ?y10⟩) ?s10 ?r10
      case h10 => (simp only [List.getElem?_toArray, List.getElem?_cons_zero, List.getElem?_cons_succ]; rfl)
      case a10 => kernel_rfl
      case b10 => kernel_rfl
      case c10 => kernel_rfl
      case q10 => exact fun _ _ _ h => h
      case g10 => rfl
      case y10 => (intro wS hSw; (try dsimp only at hSw); go_simp; (try with_reducible rfl))
      case s10 => assumption
      (try simp only [Act.put, List.setIfInBounds_toArray, List.set_cons_zero, List.set_cons_succ])
      refine wpAnyH_call (i := 10) (oi := ?o11) (v := (.int .u8 q)) ?h11 ?a11 ?b11 ?c11 ?q11 ?g11 98 #[.int .u8 (s[m + 1]).toNat] ?e11 ?y11 ?s11 ?r11
      case h11 => (simp only [List.getElem?_toArray, List.getElem?_cons_zero, List.getElem?_cons_succ]; rfl)
      case a11 => kernel_rfl
      case b11 => kernel_rfl
      case c11 => kernel_rfl
      case q11 => exact fun _ _ _ h => h
      case g11 => rfl
      case e11 => (intro wS hSw; go_simp; (try with_reducible rfl))
      case y11 => (intro wS _; exact K2.out wS)
      case s11 => assumption
      (try simp only [Act.put, List.setIfInBounds_toArray, List.set_cons_zero, List.set_cons_succ])
      refine wpAnyH_take (i := 11) (oi := ?o12) (v := ?v12) ?h12 ?a12 ?b12 ?c12 ?q12 (Or.inl ⟨?g12, ?y12⟩) ?s12 ?r12
      case h12 => (simp only [List.getElem?_toArray, List.getElem?_cons_zero, List.getElem?_cons_succ]; rfl)
      case a12 => kernel_rfl
      case b12 => kernel_rfl
      case c12 => kernel_rfl
      case q12 => exact fun _ _ _ h => h
      case g12 => rfl
      case y12 => (intro wS hSw; (try dsimp only at hSw); go_simp; (try with_reducible rfl))
      case s12 => assumption
      (try simp only [Act.put, List.setIfInBounds_toArray, List.set_cons_zero, List.set_cons_succ])
      refine wpAnyH_ready (rs := [12]) (by kernel_rfl) (by simp) ?_
      refine AllReadyH.cons (o := ?oB13) ?hB13 ?kB13 AllReadyH.nil
      case hB13 => (simp only [List.getElem?_toArray, List.getElem?_cons_zero, List.getElem?_cons_succ]; rfl)
      case kB13 =>
        intro K hK
        go_simp
        refine hK.out _ _ trivial (fun hHeld2 => ?_)
        clear hK K
        (try simp only [Act.put, List.setIfInBounds_toArray, List.set_cons_zero, List.set_cons_succ])
        refine wpAnyH_ready (rs := [13]) (by kernel_rfl) (by simp) ?_
        refine AllReadyH.cons (o := ?oB14) ?hB14 ?kB14 AllReadyH.nil
        case hB14 => (simp only [List.getElem?_toArray, List.getElem?_cons_zero, List.getElem?_cons_succ]; rfl)
        case kB14 =>
          intro K hK
          refine step_append_u8 rfl (.tmp 12) (.tmp 24) rfl w.heap.size _ k (Lib.byteCells (unhexR (s.data.toList.take (2 * k)))) rfl ?_ ?_ hk8 _ 1 [.int .u8 (16 * (p : Int) + (q : Int))] rfl ?_ rfl (by decide) ?_ ?_
          · exact ownsRow_below HO.out (bx _).drew
          · simp; omega
          · exact heap_alloc_new _ _
          · simp [Value.oneCell']
          intro v1 w1 hGr
          have HN := Lib.hid (HK.out _ _ _ (bx _).drew hGr)
          refine hK.out _ _ trivial (fun hHeld3 => ?_)
          clear hGr
          clear hK K
          (try simp only [Act.put, List.setIfInBounds_toArray, List.set_cons_zero, List.set_cons_succ])
          refine wpAnyH_take (i := 14) (oi := ?o15) (v := ?v15) ?h15 ?a15 ?b15 ?c15 ?q15 (Or.inl ⟨?g15, ?y15⟩) ?s15 ?r15
          case h15 => (simp only [List.getElem?_toArray, List.getElem?_cons_zero, List.getElem?_cons_succ]; rfl)
          case a15 => kernel_rfl
          case b15 => kernel_rfl
          case c15 => kernel_rfl
          case q15 => exact fun _ _ _ h => h
          case g15 => rfl
          case y15 => (intro wS hSw; (try dsimp only at hSw); go_simp; (try with_reducible rfl))
          case s15 => assumption
          (try simp only [Act.put, List.setIfInBounds_toArray, List.set_cons_zero, List.set_cons_succ])
          refine wpAnyH_done (by kernel_rfl) ?_ _
          go_wp2_with fail
          exact ⟨⟨m + 2, by omega, by go_num, HN⟩, by simp [intOf]; omega⟩
    · obtain ⟨hB, k, hk, hO⟩ := HI.out
      have hcv := conv_own hO (by rw [unhexR_len1, List.length_take]; omega)
      rw [unhexR_end k _ (by omega)] at hcv
      have HB := Lib.hid hB
      clear HI hB hO
      go_wp2_with fail
      go_ret
      exact ⟨rfl, HB.out⟩
end RefV
section RefW
open Go.RowKit Go.Shelf Fx Go.Sort

set_option maxRecDepth 100000 in
set_option maxHeartbeats 2000000 in
theorem rright_head (v : Value) (d : List Fm) (id : Int) (q : Bool) (w : World) (hV : FmsAt (· < w.heap.size) w v (d ++ [⟨id, []⟩])) (hdl : d.length ≤ 100) (hq : headB d id = q) :
    Calls Tryz.prog 53 #[v] w fun e w' => e = .returned (.bool q) ∧ Below w.heap.size w w' := by
  obtain ⟨a, c, rfl, hlc⟩ := hV.slice_
  obtain ⟨b, off, rfl, hn, hbl, -, m1, m2, hfm⟩ := hV.at_ (by simp)
  obtain ⟨n, hn⟩ : ∃ n, n = d.length := ⟨_, rfl⟩
  have hdn : (d ++ [(⟨id, []⟩ : Fm)]).length = n + 1 := by rw [hn]; simp
  rw [hdn] at m1 hfm ⊢
  obtain ⟨u, hu⟩ := hfm n (by omega)
  have hgl : (d ++ [(⟨id, []⟩ : Fm)]).getD n zm = ⟨id, []⟩ := by rw [hn]; exact getD_snoc_eq
  rw [hgl] at hu
  obtain ⟨ua, uc, rfl, -⟩ := hu.fs.slice_
  have c0 := hu.c0
  have c1 := hu.c1
  simp only [List.length_nil] at c0 c1
  have lb := hbl
  have hnl : (n : Int) + 1 - 1 = n := by omega
  unfold maxLen at m2
  rw [← hn] at hdl
  have hXf : q = (decide (n < 60) && (decide (1 ≤ id) && (decide (id ≤ 1000000) && (decide (n = 0) || (decide ((d.getD (n - 1) zm).id < id) && decide (0 < (d.getD (n - 1) zm).fs.length)))))) := by
    rw [← hq, headB, ← hn]
  obtain ⟨Wv, hWv⟩ : ∃ Wv, Wv = withinB id 1 1000000 := ⟨_, rfl⟩
  have HWI : Hid (∀ w', Calls Tryz.prog 58 #[.int .i64 id, .int .i64 1, .int .i64 1000000] w' fun e w2 => e = .returned (.bool Wv) ∧ Below w'.heap.size w' w2) := Lib.hid fun w' => (rwithin_any id 1 1000000 Wv w' hWv.symm).mono fun e w2 ⟨h1, h2⟩ => ⟨h1, h2 ▸ Below.refl _ _⟩
  have hWd : Wv = (decide (1 ≤ id) && decide (id ≤ 1000000)) := hWv
  rw [← Bool.and_assoc (decide (1 ≤ id)), ← hWd] at hXf
  have HP : Hid (∀ j, n = j + 1 → ∃ pa pm pc, w.cell? ⟨b, off + j * 2, none⟩ = some (.int .i64 (d.getD j zm).id) ∧ w.cell? ⟨b, off + j * 2 + 1, none⟩ = some (.slice pa pm pc) ∧ pm = (d.getD j zm).fs.length) := Lib.hid fun j hj => by
    obtain ⟨u1, hu1⟩ := hfm j (by omega)
    rw [getD_snoc_lt (by omega)] at hu1
    obtain ⟨pa, pc, rfl, -⟩ := hu1.fs.slice_
    exact ⟨pa, _, pc, hu1.c0, hu1.c1, rfl⟩
  have HNF : Hid (FmsAt (· < w.heap.size) w (.slice (some ⟨b, off, none⟩) (n + 1) c) (d ++ [⟨id, []⟩])) := Lib.hid (by rw [← hdn]; exact hV)
  clear hV hq hWv hWd hfm hu hgl hdn hn hlc
  have g0 := fun d os => cell_regrown c0 d os
  have g1 := fun d os => cell_regrown c1 d os
  go_enter Tryz.func53, Tryz.ntmps53
  go_wp2_with fail
  by_cases h60 : n < 60
  · have d60 : (n : Int) + 1 ≤ 60 := by omega
    rw [decide_eq_true h60, Bool.true_and] at hXf
    clear h60
    cases Wv with
    | false =>
      have HXV : Hid (q = false) := Lib.hid (by rw [hXf]; rfl)
      clear hXf
      refine wp_region_quiet_below (by kernel_rfl) (by kernel_rfl) ?_
      repeat (first | go_big_quiet_step (first | (go_at_call 58; exact Calls.regrown_of (HWI.out _))) | quiet_step (first | (go_at_call 58; exact Calls.regrown_of (HWI.out _))))
      refine wpQuiet_nil ?_
      intro _ hw'
      obtain ⟨⟨dq, osq⟩, hw''⟩ := hw'
      subst hw''
      go_wp2
      go_ret
      exact ⟨by rw [HXV.out]; rfl, below_regrown _ _ _⟩
    | true =>
      rw [Bool.true_and] at hXf
      rcases Nat.eq_zero_or_pos n with hz | hpos
      · have HXV : Hid (q = true) := Lib.hid (by rw [hXf, decide_eq_true hz]; rfl)
        have hz0 : ((n : Int) == 0) = true := by rw [beq_iff_eq]; omega
        clear hXf hz
        refine wp_region_quiet_below (by kernel_rfl) (by kernel_rfl) ?_
        repeat (first | go_big_quiet_step (first | (go_at_call 58; exact Calls.regrown_of (HWI.out _))) | quiet_step (first | (go_at_call 58; exact Calls.regrown_of (HWI.out _))))
        refine wpQuiet_nil ?_
        intro _ hw'
        obtain ⟨⟨dq, osq⟩, hw''⟩ := hw'
        subst hw''
        go_wp2
        go_ret
        exact ⟨by rw [HXV.out]; rfl, below_regrown _ _ _⟩
      · obtain ⟨j, hj⟩ : ∃ j, n = j + 1 := ⟨n - 1, by omega⟩
        obtain ⟨pa, pm, pc, p0, p1, hpm⟩ := HP.out j hj
        rw [show n - 1 = j by omega, decide_eq_false (show ¬ n = 0 by omega), Bool.false_or, ← hpm] at hXf
        obtain ⟨g, hg⟩ : ∃ g, g = (d.getD j zm).id := ⟨_, rfl⟩
        rw [← hg] at p0 hXf
        have g2 := fun d os => cell_regrown p0 d os
        have g3 := fun d os => cell_regrown p1 d os
        have hj0 : ((n : Int) == 0) = false := by rw [beq_eq_false_iff_ne]; omega
        have hj1 : (n : Int) - 1 = j := by omega
        have hj2 : j < n := by omega
        have hj3 : (j : Int) < (n : Int) + 1 := by omega
        clear hg hpm HP p0 p1 hj hpos
        by_cases hlt : g < id
        · rw [decide_eq_true hlt, Bool.true_and] at hXf
          by_cases hp : 0 < pm
          · have HXV : Hid (q = true) := Lib.hid (by rw [hXf, decide_eq_true hp])
            have hpi : (pm : Int) > 0 := by omega
            clear hXf
            refine wp_region_quiet_below (by kernel_rfl) (by kernel_rfl) ?_
            repeat (first | go_big_quiet_step (first | (go_at_call 58; exact Calls.regrown_of (HWI.out _))) | quiet_step (first | (go_at_call 58; exact Calls.regrown_of (HWI.out _))))
            refine wpQuiet_nil ?_
            intro _ hw'
            obtain ⟨⟨dq, osq⟩, hw''⟩ := hw'
            subst hw''
            go_wp2
            go_ret
            exact ⟨by rw [HXV.out]; rfl, below_regrown _ _ _⟩
          · have HXV : Hid (q = false) := Lib.hid (by rw [hXf, decide_eq_false hp])
            have hpi : ¬ (pm : Int) > 0 := by omega
            clear hXf
            refine wp_region_quiet_below (by kernel_rfl) (by kernel_rfl) ?_
            repeat (first | go_big_quiet_step (first | (go_at_call 58; exact Calls.regrown_of (HWI.out _))) | quiet_step (first | (go_at_call 58; exact Calls.regrown_of (HWI.out _))))
            refine wpQuiet_nil ?_
            intro _ hw'
            obtain ⟨⟨dq, osq⟩, hw''⟩ := hw'
            subst hw''
            go_wp2
            go_ret
            exact ⟨by rw [HXV.out]; rfl, below_regrown _ _ _⟩
        · have HXV : Hid (q = false) := Lib.hid (by rw [hXf, decide_eq_false hlt]; rfl)
          clear hXf
          refine wp_region_quiet_below (by kernel_rfl) (by kernel_rfl) ?_
          repeat (first | go_big_quiet_step (first | (go_at_call 58; exact Calls.regrown_of (HWI.out _))) | quiet_step (first | (go_at_call 58; exact Calls.regrown_of (HWI.out _))))
          refine wpQuiet_nil ?_
          intro _ hw'
          obtain ⟨⟨dq, osq⟩, hw''⟩ := hw'
          subst hw''
          go_wp2
          go_ret
          exact ⟨by rw [HXV.out]; rfl, below_regrown _ _ _⟩
  · have d60 : ¬ (n : Int) + 1 ≤ 60 := by omega
    have HXV : Hid (q = false) := Lib.hid (by rw [hXf, decide_eq_false h60]; rfl)
    clear hXf
    refine wp_region_quiet_below (by kernel_rfl) (by kernel_rfl) ?_
    repeat (first | go_big_quiet_step (first | (go_at_call 58; exact Calls.regrown_of (HWI.out _))) | quiet_step (first | (go_at_call 58; exact Calls.regrown_of (HWI.out _))))
    refine wpQuiet_nil ?_
    intro _ hw'
    obtain ⟨⟨dq, osq⟩, hw''⟩ := hw'
    subst hw''
    go_wp2
    go_ret
    exact ⟨by rw [HXV.out]; rfl, below_regrown _ _ _⟩
set_option maxRecDepth 100000 in
set_option maxHeartbeats 2000000 in
theorem rright_field (v : Value) (d : List Fm) (id : Int) (fs : List Fld) (f : Fld) (q : Bool) (w : World) (hV : FmsAt (· < w.heap.size) w v (d ++ [⟨id, fs ++ [f]⟩])) (hd : Ok d) (hI : IntsM ⟨id, fs ++ [f]⟩) (hdl : d.length ≤ 100) (hfl : fs.length ≤ 16)
    (hr : ∀ j, j < fs.length → Fx.right (lm d) (fs.take j) (fs.getD j zf) = true) (hq : (Fx.right (lm d) fs f && (decide (fs.length < 16) && decide (ls (lm d) (fs ++ [f]) ≤ 65536))) = q) :
    Calls Tryz.prog 53 #[v] w fun e w' => e = .returned (.bool q) ∧ Below w.heap.size w w' := by
  obtain ⟨a, c, rfl, hlc⟩ := hV.slice_
  obtain ⟨b, off, rfl, hn, hbl, -, m1, m2, hfm⟩ := hV.at_ (by simp)
  obtain ⟨n, hn⟩ : ∃ n, n = d.length := ⟨_, rfl⟩
  obtain ⟨k, hk⟩ : ∃ k, k = fs.length := ⟨_, rfl⟩
  have hdn : (d ++ [(⟨id, fs ++ [f]⟩ : Fm)]).length = n + 1 := by rw [hn]; simp
  have hkn : (fs ++ [f]).length = k + 1 := by rw [hk]; simp
  have htk : ((⟨id, fs ++ [f]⟩ : Fm).fs).take k = fs := by rw [hk]; show (fs ++ [f]).take fs.length = fs; rw [take_snoc_le (Nat.le_refl _), List.take_length]
  have hgk : ((⟨id, fs ++ [f]⟩ : Fm).fs).getD k zf = f := by rw [hk]; exact getD_snoc_eq
  obtain ⟨R, hR⟩ : ∃ R, R = Fx.right (lm d) fs f := ⟨_, rfl⟩
  have HFI : Hid (Calls Tryz.prog 59 #[.slice (some ⟨b, off, none⟩) (n + 1) c, .int .i64 k] w fun e w' => e = .returned (.bool R) ∧ Below w.heap.size w w') := Lib.hid (by
    have := rfits_any _ d ⟨id, fs ++ [f]⟩ k R w hV hd hI (by show k < (fs ++ [f]).length; omega) hdl (fun j hj => by
      have h := hr j (by omega)
      show Fx.right (lm d) ((fs ++ [f]).take j) ((fs ++ [f]).getD j zf) = true
      rw [take_snoc_le (by omega), getD_snoc_lt (by omega)]
      exact h) (by rw [htk, hgk, hR])
    rwa [hdn] at this)
  have HV : Hid (FmsAt (· < w.heap.size) w (.slice (some ⟨b, off, none⟩) (n + 1) c) (d ++ [⟨id, fs ++ [f]⟩])) := Lib.hid (by rw [← hdn]; exact hV)
  rw [hdn] at m1 hfm ⊢
  obtain ⟨u, hu⟩ := hfm n (by omega)
  have hgl : (d ++ [(⟨id, fs ++ [f]⟩ : Fm)]).getD n zm = ⟨id, fs ++ [f]⟩ := by rw [hn]; exact getD_snoc_eq
  rw [hgl] at hu
  obtain ⟨ua, uc, rfl, hul⟩ := hu.fs.slice_
  have c1 := hu.c1
  simp only [hkn] at c1 hul
  have lb := hbl
  have hnl : (n : Int) + 1 - 1 = n := by omega
  have hkl : (k : Int) + 1 - 1 = k := by omega
  have hk0 : ¬ (k : Int) < 0 := by omega
  unfold maxLen at m2
  rw [← hn] at hdl
  rw [← hk] at hfl
  obtain ⟨S, hS⟩ : ∃ S, S = ls (lm d) (fs ++ [f]) := ⟨_, rfl⟩
  rw [← hR, ← hk, ← hS] at hq
  have HLS : Hid (R = true → ((rls (d ++ [(⟨id, fs ++ [f]⟩ : Fm)]) []).map (·.2)).getD n 0 = S ∧ -9223372036854775808 ≤ S ∧ S ≤ 9223372036854775807) := Lib.hid fun hRt => by
    have hall : ∀ j, j < (fs ++ [f]).length → Fx.right (lm d) ((fs ++ [f]).take j) ((fs ++ [f]).getD j zf) = true := fun j hj => by
      by_cases hjk : j < fs.length
      · rw [take_snoc_le (by omega), getD_snoc_lt hjk]; exact hr j hjk
      · obtain rfl : j = fs.length := by omega
        rw [take_snoc_le (Nat.le_refl _), getD_snoc_eq, List.take_length, ← hR]; exact hRt
    have e1 := rls_last (d := d) (f := ⟨id, fs ++ [f]⟩) hd (by show (fs ++ [f]).length ≤ 1000; omega) hall
    have hlen : (rls (d ++ [(⟨id, fs ++ [f]⟩ : Fm)]) []).length = n + 1 := by rw [rls_len, hdn]; simp
    have e2 := rsum_ok hd (fs ++ [f]) (by omega) hall
    refine ⟨?_, by omega, by omega⟩
    rw [hS]
    rw [← hn] at e1
    simp only [List.getD, List.getElem?_map, List.getElem?_eq_getElem (show n < (rls (d ++ [(⟨id, fs ++ [f]⟩ : Fm)]) []).length by omega), Option.map_some, Option.getD_some] at e1 ⊢
    exact e1
  have HLL : Hid (((rls (d ++ [(⟨id, fs ++ [f]⟩ : Fm)]) []).map (·.2)).length = n + 1) := Lib.hid (by rw [List.length_map, rls_len, hdn]; simp)
  have HDN := Lib.hid hdn
  clear hV hd hI hr hR hfm hu hgl hdn hn hlc hkn htk hgk hS hk
  go_enter Tryz.func53, Tryz.ntmps53
  go_wp2_with fail
  refine HFI.out.mono ?_
  rintro e w1 ⟨rfl, hb1⟩
  have HB1 := Lib.hid hb1
  clear hb1
  cases R with
  | false =>
    obtain rfl : q = false := by rw [← hq]; rfl
    go_wp2_with fail
    go_ret
    exact ⟨rfl, HB1.out⟩
  | true =>
    by_cases h16 : k < 16
    · have d16 : (k : Int) < 16 := by omega
      rw [decide_eq_true h16, Bool.true_and, Bool.true_and] at hq
      go_wp2_with fail
      refine (leasts_any _ (d ++ [⟨id, fs ++ [f]⟩]) w1 (HV.out.below HB1.out) (by rw [HDN.out]; omega)).mono ?_
      rintro e w2 ⟨⟨z, rfl, hO⟩, hb2⟩
      obtain ⟨za, zc, rfl, hz⟩ := hO.at_
      rw [HLL.out] at hz
      obtain ⟨zb, rfl, -, zl, z1, z2, hzc⟩ : ∃ zb, za = some ⟨zb, 0, none⟩ ∧ w1.heap.size ≤ zb ∧ zb < w2.heap.size ∧ n + 1 ≤ zc ∧ zc ≤ maxLen ∧ ∀ j, j < n + 1 → w2.cell? ⟨zb, j, none⟩ = some (.int .i64 (((rls (d ++ [(⟨id, fs ++ [f]⟩ : Fm)]) []).map (·.2)).getD j 0)) := by
        rcases hz with h | ⟨zb, rfl, h⟩
        · omega
        · exact ⟨zb, rfl, h⟩
      have cz := hzc n (by omega)
      rw [(HLS.out (by trivial)).1] at cz
      have hs1 := (HLS.out (by trivial)).2
      rw [HLL.out]
      have HB2 := Lib.hid (HB1.out.trans (hb2.mono HB1.out.size))
      clear hO hz hzc hb2
      unfold maxLen at z2
      obtain rfl : q = decide (S ≤ 65536) := hq.symm
      go_wp2_with fail
      go_ret
      exact ⟨rfl, HB2.out⟩
    · have d16 : ¬ (k : Int) < 16 := by omega
      obtain rfl : q = false := by rw [← hq, decide_eq_false h16]; rfl
      go_wp2_with fail
      go_ret
      exact ⟨rfl, HB1.out⟩
end RefW
section RefX
open Go.RowKit Go.Shelf Fx Go.Sort

/-- What stands while a field is made of words. -/
structure FW (B : Nat) (w wr : World) (v : Value) (ss ss' : List ByteArray) (f : Fld) : Prop where
  b : Below B w wr
  r : wr.heap[w.heap.size]? = some (.cells #[.int .i64 0, .int .i64 0, .int .i64 0, .string ⟨#[]⟩] 56 (0, 0))
  f : wr.heap[w.heap.size + 1]? = some (.cells (fldCs f) 56 (0, 0))
  row : OwnS wr B v ss'
  same : ∀ j, ss'.getD j ⟨#[]⟩ = ss.getD j ⟨#[]⟩
  hB : B ≤ w.heap.size
theorem getD_pad {ss : List ByteArray} (j : Nat) : (ss ++ [(⟨#[]⟩ : ByteArray)]).getD j ⟨#[]⟩ = ss.getD j ⟨#[]⟩ := by
  rcases Nat.lt_trichotomy j ss.length with h | h | h
  · exact getD_snoc_lt h
  · rw [h, getD_snoc_eq]; simp [List.getD]
  · simp [List.getD, List.getElem?_eq_none (show ss.length ≤ j by omega), List.getElem?_eq_none (show (ss ++ [(⟨#[]⟩ : ByteArray)]).length ≤ j by simp; omega)]
theorem FW.grew {B : Nat} {w wr W w1 : World} {v v1 : Value} {ss ss' : List ByteArray} {f : Fld} (h : FW B w wr v ss ss' f) (hb : Below wr.heap.size wr W) (hG : Grew W w1 B 9 1 v v1 (ss'.length + 1) (ss'.map (fun s => Value.string s) ++ [.string ⟨#[]⟩])) :
    FW B w w1 v1 ss (ss' ++ [⟨#[]⟩]) f := by
  have hrow := ownsRow_below h.row hb
  have hne : ∀ g cs, W.heap[g]? = some (Obj.cells cs 56 (0, 0)) → w1.heap[g]? = some (Obj.cells cs 56 (0, 0)) := fun g cs hg => by
    refine (hG.grown.block g (lt_of_heap hg) fun e => ?_).trans hg
    obtain ⟨cur, h2⟩ := own_heap hrow e.symm
    rw [hg] at h2
    cases h2
  refine ⟨?_, hne _ _ ((hb.block _ (lt_of_heap h.r)).trans h.r), hne _ _ ((hb.block _ (lt_of_heap h.f)).trans h.f), ?_, fun j => by rw [getD_pad, h.same], h.hB⟩
  · have hs := h.b.size
    have hs2 := hb.size
    have := h.hB
    exact (h.b.trans (hb.mono (by omega))).grown hG.grown (by omega) fun g hg => own_ge hrow hg
  · show w1.ownsRow B 9 1 v1 (ss' ++ [(⟨#[]⟩ : ByteArray)]).length ((ss' ++ [(⟨#[]⟩ : ByteArray)]).map fun s => Value.string s)
    rw [List.length_append, List.map_append]
    exact hG.own
theorem FW.lt {B : Nat} {w wr : World} {v : Value} {ss ss' : List ByteArray} {f : Fld} (h : FW B w wr v ss ss' f) {g : Nat} (hg : v.ownBlock = some g) : B ≤ g ∧ g < wr.heap.size ∧ g ≠ w.heap.size ∧ g ≠ w.heap.size + 1 := by
  refine ⟨own_ge h.row hg, own_lt h.row hg, fun e => ?_, fun e => ?_⟩
  · obtain ⟨cur, h2⟩ := own_heap h.row hg
    rw [e, h.r] at h2
    cases h2
  · obtain ⟨cur, h2⟩ := own_heap h.row hg
    rw [e, h.f] at h2
    cases h2
theorem FW.set_ {B : Nat} {w wr : World} {v : Value} {ss ss' : List ByteArray} {f f' : Fld} (h : FW B w wr v ss ss' f) (i : Nat) (u : Value) (hf : (fldCs f).setIfInBounds i u = fldCs f') : FW B w (wr.setCell ⟨w.heap.size + 1, i, none⟩ u) v ss ss' f' := by
  have ne : ∀ k, k ≠ w.heap.size + 1 → (wr.setCell ⟨w.heap.size + 1, i, none⟩ u).heap[k]? = wr.heap[k]? := fun k hk => Below.heap_setCell _ _ _ _ hk
  refine ⟨h.b.setCell (p := ⟨w.heap.size + 1, i, none⟩) (by have := h.hB; show B ≤ w.heap.size + 1; omega) _, (ne _ (by omega)).trans h.r, ?_, own_keep h.row fun k cur hk _ => ne k (h.lt hk).2.2.2, h.same, h.hB⟩
  have h1 : Blk wr (w.heap.size + 1) 56 (fldCs f) := h.f
  have h2 := h1.set_ i u
  rw [hf] at h2
  exact h2
theorem FW.below {B : Nat} {w wr w1 : World} {v : Value} {ss ss' : List ByteArray} {f : Fld} (h : FW B w wr v ss ss' f) (hb : Below wr.heap.size wr w1) : FW B w w1 v ss ss' f :=
  ⟨h.b.trans (hb.mono (Nat.le_trans h.hB h.b.size)), (hb.block _ (lt_of_heap h.r)).trans h.r, (hb.block _ (lt_of_heap h.f)).trans h.f, ownsRow_below h.row hb, h.same, h.hB⟩
theorem FW.done {B : Nat} {w wr : World} {v : Value} {ss ss' : List ByteArray} {f : Fld} (h : FW B w wr v ss ss' f) (cs : Array Value) : Below B w (wr.setRow w.heap.size cs) :=
  h.b.trans ⟨rfl, rfl, rfl, by simp, fun k hk => by
    simp only [World.setRow, Array.getElem?_modify]
    rw [if_neg (by have := h.hB; omega)]⟩
theorem extract_34 (P : ByteArray) : (P.extract 0 (min (P.size : Int) 34).toNat).data.toList = P.data.toList.take 34 := by
  have hl : P.data.toList.length = P.size := by simp
  have e : (P.extract 0 (min (P.size : Int) 34).toNat).data.toList = P.data.toList.take (min (P.size : Int) 34).toNat := by simp [ByteArray.data_extract]
  rw [e]
  by_cases h : P.size ≤ 34
  · rw [List.take_of_length_le (by omega), List.take_of_length_le (by omega)]
  · congr 1; omega
/-- What can be read of the words and of the field. -/
structure FW4 (wr : World) (pb fb : Nat) (P0 P1 P2 P3 : ByteArray) (f : Fld) : Prop where
  q0 : wr.cell? ⟨pb, 0, none⟩ = some (.string P0)
  q1 : wr.cell? ⟨pb, 1, none⟩ = some (.string P1)
  q2 : wr.cell? ⟨pb, 2, none⟩ = some (.string P2)
  q3 : wr.cell? ⟨pb, 3, none⟩ = some (.string P3)
  x0 : wr.cell? ⟨fb, 0, none⟩ = some (.int .i64 f.kind)
  x1 : wr.cell? ⟨fb, 1, none⟩ = some (.int .i64 f.n)
  x2 : wr.cell? ⟨fb, 2, none⟩ = some (.int .i64 f.frm)
  x3 : wr.cell? ⟨fb, 3, none⟩ = some (.string f.text)
  z0 : wr.frozen? ⟨fb, 0, none⟩ = false
  z1 : wr.frozen? ⟨fb, 1, none⟩ = false
  z2 : wr.frozen? ⟨fb, 2, none⟩ = false
  z3 : wr.frozen? ⟨fb, 3, none⟩ = false
theorem FW.reads {B pb m d : Nat} {w wr : World} {ss ss' : List ByteArray} {f : Fld} (h : FW B w wr (.slice (some ⟨pb, 0, none⟩) m d) ss ss' f) (h4 : 4 ≤ m) : FW4 wr pb (w.heap.size + 1) (ss.getD 0 ⟨#[]⟩) (ss.getD 1 ⟨#[]⟩) (ss.getD 2 ⟨#[]⟩) (ss.getD 3 ⟨#[]⟩) f := by
  obtain ⟨a, c, e, hrow⟩ := h.row.at_
  cases e
  have hpc : ∀ j, j < ss'.length → wr.cell? ⟨pb, j, none⟩ = some (.string (ss.getD j ⟨#[]⟩)) := by
    rcases hrow with h0 | ⟨b, e, _, _, _, _, hc⟩
    · omega
    · cases e
      intro j hj
      rw [hc j hj, h.same]
  have hB : Blk wr (w.heap.size + 1) 56 (fldCs f) := h.f
  exact ⟨hpc 0 (by omega), hpc 1 (by omega), hpc 2 (by omega), hpc 3 (by omega), hB.cell 0, hB.cell 1, hB.cell 2, hB.cell 3, hB.frozen 0, hB.frozen 1, hB.frozen 2, hB.frozen 3⟩
set_option maxRecDepth 100000 in
set_option maxHeartbeats 8000000 in
theorem rfield_any (B : Nat) (v : Value) (ss : List ByteArray) (w : World) (hB : B ≤ w.heap.size) (hV : OwnS w B v ss) (hl : ss.length ≤ 10000001) (hs : ∀ j, (ss.getD j ⟨#[]⟩).size ≤ 10000000) :
    Calls Tryz.prog 52 #[v] w fun e w' => e = .returned (fldV (fieldR (ss.map (·.data.toList)))) ∧ Below B w w' := by
  obtain ⟨a, c, rfl, -⟩ := hV.at_
  have HV := Lib.hid (And.intro hV (And.intro hB hs))
  obtain ⟨n, hn⟩ : ∃ n, n = ss.length := ⟨_, rfl⟩
  rw [← hn] at hl ⊢
  have HN := Lib.hid hn
  obtain ⟨R, hR⟩ : ∃ R, R = fieldR (ss.map (·.data.toList)) := ⟨_, rfl⟩
  rw [← hR]
  have HRD := Lib.hid hR
  clear hV hB hs hn hR
  go_enter Tryz.func52, Tryz.ntmps52
  go_wp2_with fail
  obtain ⟨W, hW⟩ : ∃ W, W = ((w.alloc (.cells #[.int .i64 0, .int .i64 0, .int .i64 0, .string ⟨#[]⟩] 56)).alloc (.cells #[.int .i64 0, .int .i64 0, .int .i64 (-1), .string ⟨#[]⟩] 56)) := ⟨_, rfl⟩
  try rw [← hW]
  have H0 : Hid (FW B w W (.slice a ss.length c) ss ss ⟨0, 0, -1, ⟨#[]⟩⟩) := Lib.hid (by
    have hb : Below w.heap.size w W := by rw [hW]; exact ((bx _).alloc (by simp) _)
    refine ⟨hb.mono HV.out.2.1, by rw [hW]; exact heap_alloc2_old _ _ _, by rw [hW]; exact heap_alloc2_new _ _ _, ?_, fun _ => rfl, HV.out.2.1⟩
    have h := ownsRow_below HV.out.1 hb
    exact h)
  clear hW
  go_loopw [0] (fun v wr => ∃ (m : Nat) (b : Option Addr) (d : Nat), m ≤ 10000001 ∧ v = .slice b m d ∧ Hid (∃ ss', ss'.length = m ∧ FW B w wr (.slice b m d) ss ss' ⟨0, 0, -1, ⟨#[]⟩⟩)) (fun v _ => match v with | .slice _ m _ => 4 - m | _ => 0)
  case atStart => exact ⟨n, a, c, hl, rfl, Lib.hid ⟨ss, HN.out.symm, by rw [HN.out]; exact H0.out⟩⟩
  case round =>
    obtain ⟨m, b, d, hm, rfl, HI⟩ := hrel
    obtain ⟨wq, rfl⟩ : ∃ wq, wq = wr := ⟨_, rfl⟩
    obtain ⟨ss', hsl, hF⟩ := HI.out
    have HF := Lib.hid hF
    by_cases h4 : m < 4
    · have h4i : (m : Int) < 4 := by omega
      have hBq : B ≤ wq.heap.size := Nat.le_trans hF.hB hF.b.size
      have hrow : wq.ownsRow B 9 1 (.slice b m d) m (ss'.map fun s => Value.string s) := by have := hF.row; rw [← hsl]; rw [← hsl] at this; exact this
      have HR := Lib.hid hrow
      clear hF hrow HI
      go_wp2_with (first | (refine wpList_append_str rfl (.tmp 8) (.tmp 9) rfl B _ m (ss'.map fun s => Value.string s) rfl (ownsRow_below HR.out (bx _)) (by simp; omega) (by omega) _ ⟨#[]⟩ rfl (heap_alloc_new _ _) ?_; intro v1 w1 hG))
      obtain ⟨a1, c1, e1, _, _⟩ := own_slice hG.own
      have hN := Lib.hid (HF.out.grew (bx _) (by rw [hsl]; exact hG))
      subst e1
      clear hG
      go_wp2_with fail
      exact ⟨⟨m + 1, a1, c1, by omega, rfl, Lib.hid ⟨_, by simp [hsl], hN.out⟩⟩, by simp; omega⟩
    · have h4i : ¬ (m : Int) < 4 := by omega
      obtain ⟨pa, pd, e1, hrow⟩ := hF.row.at_
      rw [hsl] at e1 hrow
      cases e1
      obtain ⟨pb, rfl, hpB, pl, p1, p2⟩ : ∃ pb, b = some ⟨pb, 0, none⟩ ∧ B ≤ pb ∧ pb < wq.heap.size ∧ m ≤ d ∧ d ≤ maxLen := by
        rcases hrow with h | ⟨pb, rfl, h⟩
        · omega
        · exact ⟨pb, rfl, h.1, h.2.1, h.2.2.1, h.2.2.2.1⟩
      obtain ⟨P0, hP0⟩ : ∃ P, P = ss.getD 0 ⟨#[]⟩ := ⟨_, rfl⟩
      obtain ⟨P1, hP1⟩ : ∃ P, P = ss.getD 1 ⟨#[]⟩ := ⟨_, rfl⟩
      obtain ⟨P2, hP2⟩ : ∃ P, P = ss.getD 2 ⟨#[]⟩ := ⟨_, rfl⟩
      obtain ⟨P3, hP3⟩ : ∃ P, P = ss.getD 3 ⟨#[]⟩ := ⟨_, rfl⟩
      have HRD4 : Hid (∀ wr f, FW B w wr (.slice (some ⟨pb, 0, none⟩) m d) ss ss' f → FW4 wr pb (w.heap.size + 1) P0 P1 P2 P3 f) := Lib.hid fun wr f h => by
        have := h.reads (by omega)
        rw [← hP0, ← hP1, ← hP2, ← hP3] at this
        exact this
      have s0 : P0.size ≤ 10000000 := by rw [hP0]; exact HV.out.2.2 _
      have s1 : P1.size ≤ 10000000 := by rw [hP1]; exact HV.out.2.2 _
      have s2 : P2.size ≤ 10000000 := by rw [hP2]; exact HV.out.2.2 _
      have s3 : P3.size ≤ 10000000 := by rw [hP3]; exact HV.out.2.2 _
      have HRF : Hid (R = fieldR [P0.data.toList, P1.data.toList, P2.data.toList, P3.data.toList]) := Lib.hid (by
        rw [HRD.out]
        have hg : ∀ j, (ss.map (·.data.toList)).getD j [] = (ss.getD j ⟨#[]⟩).data.toList := fun j => by
          simp only [List.getD, List.getElem?_map]
          cases ss[j]? <;> rfl
        unfold fieldR
        simp only [hg, ← hP0, ← hP1, ← hP2, ← hP3, List.getD_cons_zero, List.getD_cons_succ])
      have tl : ∀ P : ByteArray, P.toList = P.data.toList := fun P => ByteArray.toList_eq P
      unfold fieldR at HRF
      simp only [List.getD_cons_zero, List.getD_cons_succ] at HRF
      have hr0 := HRD4.out _ _ HF.out
      obtain ⟨q0, q1, q2, q3, x0, x1, x2, x3, z0, z1, z2, z3⟩ := hr0
      obtain ⟨N1, hN1⟩ : ∃ N, N = rnum P1.data.toList := ⟨_, rfl⟩
      obtain ⟨N2, hN2⟩ : ∃ N, N = rnum P2.data.toList := ⟨_, rfl⟩
      obtain ⟨N3, hN3⟩ : ∃ N, N = rnum P3.data.toList := ⟨_, rfl⟩
      rw [← hN1, ← hN2, ← hN3] at HRF
      have K1 : Hid (∀ wS : World, Calls Tryz.prog 51 #[.string P1] wS fun e w' => e = .returned (.int .i64 N1) ∧ w' = wS) := Lib.hid fun wS => rNumber_any P1 N1 wS (by omega) hN1.symm
      have K2 : Hid (∀ wS : World, Calls Tryz.prog 51 #[.string P2] wS fun e w' => e = .returned (.int .i64 N2) ∧ w' = wS) := Lib.hid fun wS => rNumber_any P2 N2 wS (by omega) hN2.symm
      have K3 : Hid (∀ wS : World, Calls Tryz.prog 51 #[.string P3] wS fun e w' => e = .returned (.int .i64 N3) ∧ w' = wS) := Lib.hid fun wS => rNumber_any P3 N3 wS (by omega) hN3.symm
      clear hP0 hP1 hP2 hP3 hrow hN1 hN2 hN3 hF HI hsl
      unfold maxLen at p2
      by_cases k1 : P0.data.toList = wordK 1
      · have wd1 : (P0.toList == [108, 105, 116, 101, 114, 97, 108]) = true := by rw [tl, k1]; rfl
        rw [if_pos k1] at HRF
        have HS0 : Hid (FW B w (wq.setCell ⟨w.heap.size + 1, 0, none⟩ (.int .i64 1)) (.slice (some ⟨pb, 0, none⟩) m d) ss ss' ⟨1, 0, -1, ⟨#[]⟩⟩) := Lib.hid (HF.out.set_ 0 _ rfl)
        obtain ⟨q00, q10, q20, q30, x00, x10, x20, x30, z00, z10, z20, z30⟩ := HRD4.out _ _ HS0.out
        clear k1 tl
        go_wp2_with fail
        obtain ⟨W9, hW9⟩ : ∃ W', W' = (wq.setCell ⟨w.heap.size + 1, 0, none⟩ (.int .i64 1)) := ⟨_, rfl⟩
        rw [← hW9]
        have HS9 : Hid (FW B w W9 (.slice (some ⟨pb, 0, none⟩) m d) ss ss' ⟨1, 0, -1, ⟨#[]⟩⟩) := Lib.hid (by rw [hW9]; exact HS0.out)
        obtain ⟨q09, q19, q29, q39, x09, x19, x29, x39, z09, z19, z29, z39⟩ := HRD4.out _ _ HS9.out
        clear hW9
        obtain ⟨Y, hY⟩ : ∃ Y, Y = bs (unhexR (P1.data.toList.take 34)) := ⟨_, rfl⟩
        rw [← hY] at HRF
        have HUX : Hid (Calls Tryz.prog 75 #[.string (P1.extract 0 (min (P1.size : Int) 34).toNat)] W9.drew fun e w' => e = .returned (.string Y) ∧ Below W9.heap.size W9 w') := Lib.hid (by
          have hsz : (P1.extract 0 (min (P1.size : Int) 34).toNat).size ≤ 1000000 := by rw [ByteArray.size_extract]; omega
          have hte : (P1.extract 0 (min (P1.size : Int) 34).toNat).data.toList = P1.data.toList.take 34 := extract_34 P1
          have h := rUnhex_any (P1.extract 0 (min (P1.size : Int) 34).toNat) W9.drew hsz
          rw [hte, ← hY] at h
          exact h.mono fun e w' ⟨he, hb⟩ => ⟨he, (Below.refl _ W9).drew.trans hb⟩)
        clear hY
        have hm1 : (1 : Int) < (m : Int) := by omega
        have hmn : 0 ≤ min (P1.size : Int) 34 ∧ min (P1.size : Int) 34 ≤ P1.size := by omega
        refine wp_region_held_drew (S := fun w' => w'.cell? ⟨pb, 1, none⟩ = some (.string P1)) (by kernel_rfl) q19 (fun hHeld => ?_)
        refine wpAnyH_take (i := 0) (oi := ?o1) (v := ?v1) ?h1 ?a1 ?b1 ?c1 ?q1 (Or.inl ⟨?g1, ?y1⟩) ?s1 ?r1
        case h1 => (simp only [List.getElem?_toArray, List.getElem?_cons_zero]; rfl)
        case a1 => kernel_rfl
        case b1 => kernel_rfl
        case c1 => kernel_rfl
        case q1 => exact fun _ _ _ h => h
        case g1 => rfl
        case y1 => (intro wS hSw; (try dsimp only at hSw); go_simp; (try with_reducible rfl))
        case s1 => assumption
        (try simp only [Act.put, List.setIfInBounds_toArray, List.set_cons_zero, List.set_cons_succ])
        refine wpAnyH_take (i := 1) (oi := ?o2) (v := ?v2) ?h2 ?a2 ?b2 ?c2 ?q2 (Or.inl ⟨?g2, ?y2⟩) ?s2 ?r2
        case h2 => (simp only [List.getElem?_toArray, List.getElem?_cons_zero, List.getElem?_cons_succ]; rfl)
        case a2 => kernel_rfl
        case b2 => kernel_rfl
        case c2 => kernel_rfl
        case q2 => exact fun _ _ _ h => h
        case g2 => rfl
        case y2 => (intro wS hSw; (try dsimp only at hSw); go_simp; (try with_reducible rfl))
        case s2 => assumption
        (try simp only [Act.put, List.setIfInBounds_toArray, List.set_cons_zero, List.set_cons_succ])
        refine wpAnyH_take (i := 2) (oi := ?o3) (v := ?v3) ?h3 ?a3 ?b3 ?c3 ?q3 (Or.inl ⟨?g3, ?y3⟩) ?s3 ?r3
        case h3 => (simp only [List.getElem?_toArray, List.getElem?_cons_zero, List.getElem?_cons_succ]; rfl)
        case a3 => kernel_rfl
        case b3 => kernel_rfl
        case c3 => kernel_rfl
        case q3 => exact fun _ _ _ h => h
        case g3 => rfl
        case y3 => (intro wS hSw; (try dsimp only at hSw); go_simp; (try with_reducible rfl))
        case s3 => assumption
        (try simp only [Act.put, List.setIfInBounds_toArray, List.set_cons_zero, List.set_cons_succ])
        refine wpAnyH_take (i := 3) (oi := ?o4) (v := ?v4) ?h4 ?a4 ?b4 ?c4 ?q4 (Or.inl ⟨?g4, ?y4⟩) ?s4 ?r4
        case h4 => (simp only [List.getElem?_toArray, List.getElem?_cons_zero, List.getElem?_cons_succ]; rfl)
        case a4 => kernel_rfl
        case b4 => kernel_rfl
        case c4 => kernel_rfl
        case q4 => exact fun _ _ _ h => h
        case g4 => rfl
        case y4 => (intro wS hSw; (try dsimp only at hSw); go_simp; (try with_reducible rfl))
        case s4 => assumption
        (try simp only [Act.put, List.setIfInBounds_toArray, List.set_cons_zero, List.set_cons_succ])
        refine wpAnyH_take (i := 4) (oi := ?o5) (v := ?v5) ?h5 ?a5 ?b5 ?c5 ?q5 (Or.inl ⟨?g5, ?y5⟩) ?s5 ?r5
        case h5 => (simp only [List.getElem?_toArray, List.getElem?_cons_zero, List.getElem?_cons_succ]; rfl)
        case a5 => kernel_rfl
        case b5 => kernel_rfl
        case c5 => kernel_rfl
        case q5 => exact fun _ _ _ h => h
        case g5 => rfl
        case y5 => (intro wS hSw; (try dsimp only at hSw); go_simp; (try with_reducible rfl))
        case s5 => assumption
        (try simp only [Act.put, List.setIfInBounds_toArray, List.set_cons_zero, List.set_cons_succ])
        refine wpAnyH_take (i := 5) (oi := ?o6) (v := ?v6) ?h6 ?a6 ?b6 ?c6 ?q6 (Or.inl ⟨?g6, ?y6⟩) ?s6 ?r6
        case h6 => (simp only [List.getElem?_toArray, List.getElem?_cons_zero, List.getElem?_cons_succ]; rfl)
        case a6 => kernel_rfl
        case b6 => kernel_rfl
        case c6 => kernel_rfl
        case q6 => exact fun _ _ _ h => h
        case g6 => rfl
        case y6 => (intro wS hSw; (try dsimp only at hSw); go_simp; (try with_reducible rfl))
        case s6 => assumption
        (try simp only [Act.put, List.setIfInBounds_toArray, List.set_cons_zero, List.set_cons_succ])
        refine wpAnyH_take (i := 6) (oi := ?o7) (v := ?v7) ?h7 ?a7 ?b7 ?c7 ?q7 (Or.inl ⟨?g7, ?y7⟩) ?s7 ?r7
        case h7 => (simp only [List.getElem?_toArray, List.getElem?_cons_zero, List.getElem?_cons_succ]; rfl)
        case a7 => kernel_rfl
        case b7 => kernel_rfl
        case c7 => kernel_rfl
        case q7 => exact fun _ _ _ h => h
        case g7 => rfl
        case y7 => (intro wS hSw; (try dsimp only at hSw); go_simp; (try with_reducible rfl))
        case s7 => assumption
        (try simp only [Act.put, List.setIfInBounds_toArray, List.set_cons_zero, List.set_cons_succ])
        refine wpAnyH_take (i := 7) (oi := ?o8) (v := ?v8) ?h8 ?a8 ?b8 ?c8 ?q8 (Or.inl ⟨?g8, ?y8⟩) ?s8 ?r8
        case h8 => (simp only [List.getElem?_toArray, List.getElem?_cons_zero, List.getElem?_cons_succ]; rfl)
        case a8 => kernel_rfl
        case b8 => kernel_rfl
        case c8 => kernel_rfl
        case q8 => exact fun _ _ _ h => h
        case g8 => rfl
        case y8 => (intro wS hSw; (try dsimp only at hSw); go_simp; (try with_reducible rfl))
        case s8 => assumption
        (try simp only [Act.put, List.setIfInBounds_toArray, List.set_cons_zero, List.set_cons_succ])
        refine wpAnyH_take (i := 8) (oi := ?o9) (v := ?v9) ?h9 ?a9 ?b9 ?c9 ?q9 (Or.inl ⟨?g9, ?y9⟩) ?s9 ?r9
        case h9 => (simp only [List.getElem?_toArray, List.getElem?_cons_zero, List.getElem?_cons_succ]; rfl)
        case a9 => kernel_rfl
        case b9 => kernel_rfl
        case c9 => kernel_rfl
        case q9 => exact fun _ _ _ h => h
        case g9 => rfl
        case y9 => (intro wS hSw; (try dsimp only at hSw); go_simp; (try with_reducible rfl))
        case s9 => assumption
        (try simp only [Act.put, List.setIfInBounds_toArray, List.set_cons_zero, List.set_cons_succ])
        refine wpAnyH_ready (rs := [9]) (by kernel_rfl) (by simp) ?_
        refine AllReadyH.cons (o := ?oB10) ?hB10 ?kB10 AllReadyH.nil
        case hB10 => (simp only [List.getElem?_toArray, List.getElem?_cons_zero, List.getElem?_cons_succ]; rfl)
        case kB10 =>
          intro K hK
          go_simp
          refine HUX.out.mono ?_
          rintro e w2 ⟨rfl, hb2⟩
          dsimp only
          refine hK.out _ _ ((hb2.cell (p := ⟨pb, 1, none⟩) (World.block_lt_of_cell? (h := q19))).trans q19) (fun hHeld2 => ?_)
          clear hK K
          (try simp only [Act.put, List.setIfInBounds_toArray, List.set_cons_zero, List.set_cons_succ])
          have HSa : Hid (FW B w w2 (.slice (some ⟨pb, 0, none⟩) m d) ss ss' ⟨1, 0, -1, ⟨#[]⟩⟩) := Lib.hid (HS9.out.below hb2)
          obtain ⟨q0a, q1a, q2a, q3a, x0a, x1a, x2a, x3a, z0a, z1a, z2a, z3a⟩ := HRD4.out _ _ HSa.out
          clear hb2 q09 q19 q29 q39 x09 x19 x29 x39 z09 z19 z29 z39
          refine wpAnyH_take (i := 10) (oi := ?o11) (v := ?v11) ?h11 ?a11 ?b11 ?c11 ?q11 (Or.inl ⟨?g11, ?y11⟩) ?s11 ?r11
          case h11 => (simp only [List.getElem?_toArray, List.getElem?_cons_zero, List.getElem?_cons_succ]; rfl)
          case a11 => kernel_rfl
          case b11 => kernel_rfl
          case c11 => kernel_rfl
          case q11 => exact fun _ _ _ h => h
          case g11 => rfl
          case y11 => (intro wS hSw; (try dsimp only at hSw); go_simp; (try with_reducible rfl))
          case s11 => assumption
          (try simp only [Act.put, List.setIfInBounds_toArray, List.set_cons_zero, List.set_cons_succ])
          have HSb : Hid (FW B w (w2.setCell ⟨w.heap.size + 1, 3, none⟩ (.string Y)) (.slice (some ⟨pb, 0, none⟩) m d) ss ss' ⟨1, 0, -1, Y⟩) := Lib.hid (HSa.out.set_ 3 _ rfl)
          refine wpAnyH_ready (rs := [11]) (by kernel_rfl) (by simp) ?_
          refine AllReadyH.cons (o := ?oB12) ?hB12 ?kB12 AllReadyH.nil
          case hB12 => (simp only [List.getElem?_toArray, List.getElem?_cons_zero, List.getElem?_cons_succ]; rfl)
          case kB12 =>
            intro K hK
            go_simp
            refine hK.out _ _ (HRD4.out _ _ HSb.out).q1 (fun hHeld3 => ?_)
            clear hK K
            (try simp only [Act.put, List.setIfInBounds_toArray, List.set_cons_zero, List.set_cons_succ])
            refine wpAnyH_done (by kernel_rfl) ?_ _
            go_wp2_with (first | (refine wpList_load_row rfl 56 (.tmp 3) rfl (w.heap.size + 1) rfl 56 (fldCs ⟨1, 0, -1, Y⟩) (0, 0) _ HSb.out.f Tryz.underlying56 rfl (infoFld4.trans rfl) ?_) | (refine wpList_store_row rfl 56 _ _ rfl w.heap.size (fldCs ⟨1, 0, -1, Y⟩) rfl rfl 56 _ HSb.out.r (infoFld4.trans rfl) rfl (fld_one ⟨1, 0, -1, Y⟩) ?_))
            exact bodyPost_ret (v := fldV ⟨1, 0, -1, Y⟩) (results_cell_row rfl _ _ w.heap.size _ _ (0, 0) _ rfl (setRow_heap _ _ _ _ _ _ HSb.out.r) Tryz.underlying56 rfl (infoFld4.trans rfl)) rfl ⟨by have h := HRF.out; subst h; rfl, HSb.out.done _⟩
      · have wn1 : (P0.toList == [108, 105, 116, 101, 114, 97, 108]) = false := by rw [tl, beq_eq_false_iff_ne]; exact k1
        rw [if_neg k1] at HRF
        by_cases k2 : P0.data.toList = wordK 2
        · have wd2 : (P0.toList == [110, 117, 109, 98, 101, 114]) = true := by rw [tl, k2]; rfl
          rw [if_pos k2] at HRF
          clear k1 k2 tl
          as_aux_lemma =>
            have HS0 : Hid (FW B w (wq.setCell ⟨w.heap.size + 1, 0, none⟩ (.int .i64 2)) (.slice (some ⟨pb, 0, none⟩) m d) ss ss' ⟨2, 0, -1, ⟨#[]⟩⟩) := Lib.hid (HF.out.set_ 0 _ rfl)
            obtain ⟨q00, q10, q20, q30, x00, x10, x20, x30, z00, z10, z20, z30⟩ := HRD4.out _ _ HS0.out
            go_wp2_with fail
            refine (K1.out _).mono ?_
            rintro e w1 ⟨rfl, rfl⟩
            obtain ⟨W1, hW1⟩ : ∃ W', W' = (wq.setCell ⟨w.heap.size + 1, 0, none⟩ (.int .i64 2)) := ⟨_, rfl⟩
            rw [← hW1]
            have HS1 : Hid (FW B w W1 (.slice (some ⟨pb, 0, none⟩) m d) ss ss' ⟨2, 0, -1, ⟨#[]⟩⟩) := Lib.hid (by rw [hW1]; exact HS0.out)
            obtain ⟨q01, q11, q21, q31, x01, x11, x21, x31, z01, z11, z21, z31⟩ := HRD4.out _ _ HS1.out
            clear hW1
            have HS2 : Hid (FW B w (W1.setCell ⟨w.heap.size + 1, 1, none⟩ (.int .i64 N1)) (.slice (some ⟨pb, 0, none⟩) m d) ss ss' ⟨2, N1, -1, ⟨#[]⟩⟩) := Lib.hid (HS1.out.set_ 1 _ rfl)
            obtain ⟨q02, q12, q22, q32, x02, x12, x22, x32, z02, z12, z22, z32⟩ := HRD4.out _ _ HS2.out
            go_wp2_with (first | (refine wpList_load_row rfl 56 (.tmp 3) rfl (w.heap.size + 1) rfl 56 (fldCs ⟨2, N1, -1, ⟨#[]⟩⟩) (0, 0) _ HS2.out.f Tryz.underlying56 rfl (infoFld4.trans rfl) ?_) | (refine wpList_store_row rfl 56 _ _ rfl w.heap.size (fldCs ⟨2, N1, -1, ⟨#[]⟩⟩) rfl rfl 56 _ HS2.out.r (infoFld4.trans rfl) rfl (fld_one ⟨2, N1, -1, ⟨#[]⟩⟩) ?_))
            exact bodyPost_ret (v := fldV ⟨2, N1, -1, ⟨#[]⟩⟩) (results_cell_row rfl _ _ w.heap.size _ _ (0, 0) _ rfl (setRow_heap _ _ _ _ _ _ HS2.out.r) Tryz.underlying56 rfl (infoFld4.trans rfl)) rfl ⟨by have h := HRF.out; subst h; rfl, HS2.out.done _⟩
        · have wn2 : (P0.toList == [110, 117, 109, 98, 101, 114]) = false := by rw [tl, beq_eq_false_iff_ne]; exact k2
          rw [if_neg k2] at HRF
          by_cases k3 : P0.data.toList = wordK 3
          · have wd3 : (P0.toList == [98, 121, 116, 101, 115]) = true := by rw [tl, k3]; rfl
            rw [if_pos k3] at HRF
            by_cases kf : P1.data.toList = wFrom
            · have wf : (P1.toList == [102, 114, 111, 109]) = true := by rw [tl, kf]; rfl
              rw [if_pos kf] at HRF
              clear k1 k2 k3 kf tl
              as_aux_lemma =>
                have HS0 : Hid (FW B w (wq.setCell ⟨w.heap.size + 1, 0, none⟩ (.int .i64 3)) (.slice (some ⟨pb, 0, none⟩) m d) ss ss' ⟨3, 0, -1, ⟨#[]⟩⟩) := Lib.hid (HF.out.set_ 0 _ rfl)
                obtain ⟨q00, q10, q20, q30, x00, x10, x20, x30, z00, z10, z20, z30⟩ := HRD4.out _ _ HS0.out
                go_wp2_with fail
                refine (K1.out _).mono ?_
                rintro e w1 ⟨rfl, rfl⟩
                obtain ⟨W1, hW1⟩ : ∃ W', W' = (wq.setCell ⟨w.heap.size + 1, 0, none⟩ (.int .i64 3)) := ⟨_, rfl⟩
                rw [← hW1]
                have HS1 : Hid (FW B w W1 (.slice (some ⟨pb, 0, none⟩) m d) ss ss' ⟨3, 0, -1, ⟨#[]⟩⟩) := Lib.hid (by rw [hW1]; exact HS0.out)
                obtain ⟨q01, q11, q21, q31, x01, x11, x21, x31, z01, z11, z21, z31⟩ := HRD4.out _ _ HS1.out
                clear hW1
                have HS2 : Hid (FW B w (W1.setCell ⟨w.heap.size + 1, 1, none⟩ (.int .i64 N1)) (.slice (some ⟨pb, 0, none⟩) m d) ss ss' ⟨3, N1, -1, ⟨#[]⟩⟩) := Lib.hid (HS1.out.set_ 1 _ rfl)
                obtain ⟨q02, q12, q22, q32, x02, x12, x22, x32, z02, z12, z22, z32⟩ := HRD4.out _ _ HS2.out
                have HS3 : Hid (FW B w ((W1.setCell ⟨w.heap.size + 1, 1, none⟩ (.int .i64 N1)).setCell ⟨w.heap.size + 1, 1, none⟩ (.int .i64 0)) (.slice (some ⟨pb, 0, none⟩) m d) ss ss' ⟨3, 0, -1, ⟨#[]⟩⟩) := Lib.hid (HS2.out.set_ 1 _ rfl)
                obtain ⟨q03, q13, q23, q33, x03, x13, x23, x33, z03, z13, z23, z33⟩ := HRD4.out _ _ HS3.out
                go_wp2_with fail
                refine (K2.out _).mono ?_
                rintro e w1 ⟨rfl, rfl⟩
                obtain ⟨W4, hW4⟩ : ∃ W', W' = ((W1.setCell ⟨w.heap.size + 1, 1, none⟩ (.int .i64 N1)).setCell ⟨w.heap.size + 1, 1, none⟩ (.int .i64 0)) := ⟨_, rfl⟩
                rw [← hW4]
                have HS4 : Hid (FW B w W4 (.slice (some ⟨pb, 0, none⟩) m d) ss ss' ⟨3, 0, -1, ⟨#[]⟩⟩) := Lib.hid (by rw [hW4]; exact HS3.out)
                obtain ⟨q04, q14, q24, q34, x04, x14, x24, x34, z04, z14, z24, z34⟩ := HRD4.out _ _ HS4.out
                clear hW4
                have HS5 : Hid (FW B w (W4.setCell ⟨w.heap.size + 1, 2, none⟩ (.int .i64 N2)) (.slice (some ⟨pb, 0, none⟩) m d) ss ss' ⟨3, 0, N2, ⟨#[]⟩⟩) := Lib.hid (HS4.out.set_ 2 _ rfl)
                obtain ⟨q05, q15, q25, q35, x05, x15, x25, x35, z05, z15, z25, z35⟩ := HRD4.out _ _ HS5.out
                go_wp2_with (first | (refine wpList_load_row rfl 56 (.tmp 3) rfl (w.heap.size + 1) rfl 56 (fldCs ⟨3, 0, N2, ⟨#[]⟩⟩) (0, 0) _ HS5.out.f Tryz.underlying56 rfl (infoFld4.trans rfl) ?_) | (refine wpList_store_row rfl 56 _ _ rfl w.heap.size (fldCs ⟨3, 0, N2, ⟨#[]⟩⟩) rfl rfl 56 _ HS5.out.r (infoFld4.trans rfl) rfl (fld_one ⟨3, 0, N2, ⟨#[]⟩⟩) ?_))
                exact bodyPost_ret (v := fldV ⟨3, 0, N2, ⟨#[]⟩⟩) (results_cell_row rfl _ _ w.heap.size _ _ (0, 0) _ rfl (setRow_heap _ _ _ _ _ _ HS5.out.r) Tryz.underlying56 rfl (infoFld4.trans rfl)) rfl ⟨by have h := HRF.out; subst h; rfl, HS5.out.done _⟩
            · have wf : (P1.toList == [102, 114, 111, 109]) = false := by rw [tl, beq_eq_false_iff_ne]; exact kf
              rw [if_neg kf] at HRF
              clear k1 k2 k3 kf tl
              as_aux_lemma =>
                have HS0 : Hid (FW B w (wq.setCell ⟨w.heap.size + 1, 0, none⟩ (.int .i64 3)) (.slice (some ⟨pb, 0, none⟩) m d) ss ss' ⟨3, 0, -1, ⟨#[]⟩⟩) := Lib.hid (HF.out.set_ 0 _ rfl)
                obtain ⟨q00, q10, q20, q30, x00, x10, x20, x30, z00, z10, z20, z30⟩ := HRD4.out _ _ HS0.out
                go_wp2_with fail
                refine (K1.out _).mono ?_
                rintro e w1 ⟨rfl, rfl⟩
                obtain ⟨W1, hW1⟩ : ∃ W', W' = (wq.setCell ⟨w.heap.size + 1, 0, none⟩ (.int .i64 3)) := ⟨_, rfl⟩
                rw [← hW1]
                have HS1 : Hid (FW B w W1 (.slice (some ⟨pb, 0, none⟩) m d) ss ss' ⟨3, 0, -1, ⟨#[]⟩⟩) := Lib.hid (by rw [hW1]; exact HS0.out)
                obtain ⟨q01, q11, q21, q31, x01, x11, x21, x31, z01, z11, z21, z31⟩ := HRD4.out _ _ HS1.out
                clear hW1
                have HS2 : Hid (FW B w (W1.setCell ⟨w.heap.size + 1, 1, none⟩ (.int .i64 N1)) (.slice (some ⟨pb, 0, none⟩) m d) ss ss' ⟨3, N1, -1, ⟨#[]⟩⟩) := Lib.hid (HS1.out.set_ 1 _ rfl)
                obtain ⟨q02, q12, q22, q32, x02, x12, x22, x32, z02, z12, z22, z32⟩ := HRD4.out _ _ HS2.out
                go_wp2_with (first | (refine wpList_load_row rfl 56 (.tmp 3) rfl (w.heap.size + 1) rfl 56 (fldCs ⟨3, N1, -1, ⟨#[]⟩⟩) (0, 0) _ HS2.out.f Tryz.underlying56 rfl (infoFld4.trans rfl) ?_) | (refine wpList_store_row rfl 56 _ _ rfl w.heap.size (fldCs ⟨3, N1, -1, ⟨#[]⟩⟩) rfl rfl 56 _ HS2.out.r (infoFld4.trans rfl) rfl (fld_one ⟨3, N1, -1, ⟨#[]⟩⟩) ?_))
                exact bodyPost_ret (v := fldV ⟨3, N1, -1, ⟨#[]⟩⟩) (results_cell_row rfl _ _ w.heap.size _ _ (0, 0) _ rfl (setRow_heap _ _ _ _ _ _ HS2.out.r) Tryz.underlying56 rfl (infoFld4.trans rfl)) rfl ⟨by have h := HRF.out; subst h; rfl, HS2.out.done _⟩
          · have wn3 : (P0.toList == [98, 121, 116, 101, 115]) = false := by rw [tl, beq_eq_false_iff_ne]; exact k3
            rw [if_neg k3] at HRF
            by_cases k4 : P0.data.toList = wordK 4
            · have wd4 : (P0.toList == [108, 105, 115, 116]) = true := by rw [tl, k4]; rfl
              rw [if_pos k4] at HRF
              have wn5 : (P0.toList == [105, 110, 115, 105, 100, 101]) = false := by rw [tl, beq_eq_false_iff_ne, k4]; decide
              clear k1 k2 k3 k4 tl
              as_aux_lemma =>
                have HS0 : Hid (FW B w (wq.setCell ⟨w.heap.size + 1, 0, none⟩ (.int .i64 4)) (.slice (some ⟨pb, 0, none⟩) m d) ss ss' ⟨4, 0, -1, ⟨#[]⟩⟩) := Lib.hid (HF.out.set_ 0 _ rfl)
                obtain ⟨q00, q10, q20, q30, x00, x10, x20, x30, z00, z10, z20, z30⟩ := HRD4.out _ _ HS0.out
                go_wp2_with fail
                refine (K1.out _).mono ?_
                rintro e w1 ⟨rfl, rfl⟩
                obtain ⟨W1, hW1⟩ : ∃ W', W' = (wq.setCell ⟨w.heap.size + 1, 0, none⟩ (.int .i64 4)) := ⟨_, rfl⟩
                rw [← hW1]
                have HS1 : Hid (FW B w W1 (.slice (some ⟨pb, 0, none⟩) m d) ss ss' ⟨4, 0, -1, ⟨#[]⟩⟩) := Lib.hid (by rw [hW1]; exact HS0.out)
                obtain ⟨q01, q11, q21, q31, x01, x11, x21, x31, z01, z11, z21, z31⟩ := HRD4.out _ _ HS1.out
                clear hW1
                have HS2 : Hid (FW B w (W1.setCell ⟨w.heap.size + 1, 1, none⟩ (.int .i64 N1)) (.slice (some ⟨pb, 0, none⟩) m d) ss ss' ⟨4, N1, -1, ⟨#[]⟩⟩) := Lib.hid (HS1.out.set_ 1 _ rfl)
                obtain ⟨q02, q12, q22, q32, x02, x12, x22, x32, z02, z12, z22, z32⟩ := HRD4.out _ _ HS2.out
                go_wp2_with fail
                refine (K3.out _).mono ?_
                rintro e w1 ⟨rfl, rfl⟩
                obtain ⟨W3, hW3⟩ : ∃ W', W' = (W1.setCell ⟨w.heap.size + 1, 1, none⟩ (.int .i64 N1)) := ⟨_, rfl⟩
                rw [← hW3]
                have HS3 : Hid (FW B w W3 (.slice (some ⟨pb, 0, none⟩) m d) ss ss' ⟨4, N1, -1, ⟨#[]⟩⟩) := Lib.hid (by rw [hW3]; exact HS2.out)
                obtain ⟨q03, q13, q23, q33, x03, x13, x23, x33, z03, z13, z23, z33⟩ := HRD4.out _ _ HS3.out
                clear hW3
                have HS4 : Hid (FW B w (W3.setCell ⟨w.heap.size + 1, 2, none⟩ (.int .i64 N3)) (.slice (some ⟨pb, 0, none⟩) m d) ss ss' ⟨4, N1, N3, ⟨#[]⟩⟩) := Lib.hid (HS3.out.set_ 2 _ rfl)
                obtain ⟨q04, q14, q24, q34, x04, x14, x24, x34, z04, z14, z24, z34⟩ := HRD4.out _ _ HS4.out
                go_wp2_with (first | (refine wpList_load_row rfl 56 (.tmp 3) rfl (w.heap.size + 1) rfl 56 (fldCs ⟨4, N1, N3, ⟨#[]⟩⟩) (0, 0) _ HS4.out.f Tryz.underlying56 rfl (infoFld4.trans rfl) ?_) | (refine wpList_store_row rfl 56 _ _ rfl w.heap.size (fldCs ⟨4, N1, N3, ⟨#[]⟩⟩) rfl rfl 56 _ HS4.out.r (infoFld4.trans rfl) rfl (fld_one ⟨4, N1, N3, ⟨#[]⟩⟩) ?_))
                exact bodyPost_ret (v := fldV ⟨4, N1, N3, ⟨#[]⟩⟩) (results_cell_row rfl _ _ w.heap.size _ _ (0, 0) _ rfl (setRow_heap _ _ _ _ _ _ HS4.out.r) Tryz.underlying56 rfl (infoFld4.trans rfl)) rfl ⟨by have h := HRF.out; subst h; rfl, HS4.out.done _⟩
            · have wn4 : (P0.toList == [108, 105, 115, 116]) = false := by rw [tl, beq_eq_false_iff_ne]; exact k4
              rw [if_neg k4] at HRF
              by_cases k5 : P0.data.toList = wordK 5
              · have wd5 : (P0.toList == [105, 110, 115, 105, 100, 101]) = true := by rw [tl, k5]; rfl
                rw [if_pos k5] at HRF
                clear k1 k2 k3 k4 k5 tl
                as_aux_lemma =>
                  have HS0 : Hid (FW B w (wq.setCell ⟨w.heap.size + 1, 0, none⟩ (.int .i64 4)) (.slice (some ⟨pb, 0, none⟩) m d) ss ss' ⟨4, 0, -1, ⟨#[]⟩⟩) := Lib.hid (HF.out.set_ 0 _ rfl)
                  obtain ⟨q00, q10, q20, q30, x00, x10, x20, x30, z00, z10, z20, z30⟩ := HRD4.out _ _ HS0.out
                  have HS1 : Hid (FW B w ((wq.setCell ⟨w.heap.size + 1, 0, none⟩ (.int .i64 4)).setCell ⟨w.heap.size + 1, 0, none⟩ (.int .i64 5)) (.slice (some ⟨pb, 0, none⟩) m d) ss ss' ⟨5, 0, -1, ⟨#[]⟩⟩) := Lib.hid (HS0.out.set_ 0 _ rfl)
                  obtain ⟨q01, q11, q21, q31, x01, x11, x21, x31, z01, z11, z21, z31⟩ := HRD4.out _ _ HS1.out
                  go_wp2_with fail
                  refine (K1.out _).mono ?_
                  rintro e w1 ⟨rfl, rfl⟩
                  obtain ⟨W2, hW2⟩ : ∃ W', W' = ((wq.setCell ⟨w.heap.size + 1, 0, none⟩ (.int .i64 4)).setCell ⟨w.heap.size + 1, 0, none⟩ (.int .i64 5)) := ⟨_, rfl⟩
                  rw [← hW2]
                  have HS2 : Hid (FW B w W2 (.slice (some ⟨pb, 0, none⟩) m d) ss ss' ⟨5, 0, -1, ⟨#[]⟩⟩) := Lib.hid (by rw [hW2]; exact HS1.out)
                  obtain ⟨q02, q12, q22, q32, x02, x12, x22, x32, z02, z12, z22, z32⟩ := HRD4.out _ _ HS2.out
                  clear hW2
                  have HS3 : Hid (FW B w (W2.setCell ⟨w.heap.size + 1, 1, none⟩ (.int .i64 N1)) (.slice (some ⟨pb, 0, none⟩) m d) ss ss' ⟨5, N1, -1, ⟨#[]⟩⟩) := Lib.hid (HS2.out.set_ 1 _ rfl)
                  obtain ⟨q03, q13, q23, q33, x03, x13, x23, x33, z03, z13, z23, z33⟩ := HRD4.out _ _ HS3.out
                  go_wp2_with fail
                  refine (K3.out _).mono ?_
                  rintro e w1 ⟨rfl, rfl⟩
                  obtain ⟨W4, hW4⟩ : ∃ W', W' = (W2.setCell ⟨w.heap.size + 1, 1, none⟩ (.int .i64 N1)) := ⟨_, rfl⟩
                  rw [← hW4]
                  have HS4 : Hid (FW B w W4 (.slice (some ⟨pb, 0, none⟩) m d) ss ss' ⟨5, N1, -1, ⟨#[]⟩⟩) := Lib.hid (by rw [hW4]; exact HS3.out)
                  obtain ⟨q04, q14, q24, q34, x04, x14, x24, x34, z04, z14, z24, z34⟩ := HRD4.out _ _ HS4.out
                  clear hW4
                  have HS5 : Hid (FW B w (W4.setCell ⟨w.heap.size + 1, 2, none⟩ (.int .i64 N3)) (.slice (some ⟨pb, 0, none⟩) m d) ss ss' ⟨5, N1, N3, ⟨#[]⟩⟩) := Lib.hid (HS4.out.set_ 2 _ rfl)
                  obtain ⟨q05, q15, q25, q35, x05, x15, x25, x35, z05, z15, z25, z35⟩ := HRD4.out _ _ HS5.out
                  go_wp2_with (first | (refine wpList_load_row rfl 56 (.tmp 3) rfl (w.heap.size + 1) rfl 56 (fldCs ⟨5, N1, N3, ⟨#[]⟩⟩) (0, 0) _ HS5.out.f Tryz.underlying56 rfl (infoFld4.trans rfl) ?_) | (refine wpList_store_row rfl 56 _ _ rfl w.heap.size (fldCs ⟨5, N1, N3, ⟨#[]⟩⟩) rfl rfl 56 _ HS5.out.r (infoFld4.trans rfl) rfl (fld_one ⟨5, N1, N3, ⟨#[]⟩⟩) ?_))
                  exact bodyPost_ret (v := fldV ⟨5, N1, N3, ⟨#[]⟩⟩) (results_cell_row rfl _ _ w.heap.size _ _ (0, 0) _ rfl (setRow_heap _ _ _ _ _ _ HS5.out.r) Tryz.underlying56 rfl (infoFld4.trans rfl)) rfl ⟨by have h := HRF.out; subst h; rfl, HS5.out.done _⟩
              · have wn5 : (P0.toList == [105, 110, 115, 105, 100, 101]) = false := by rw [tl, beq_eq_false_iff_ne]; exact k5
                rw [if_neg k5] at HRF
                clear k1 k2 k3 k4 k5 tl
                as_aux_lemma =>
                  have HS0 : Hid (FW B w (wq.setCell ⟨w.heap.size + 1, 0, none⟩ (.int .i64 6)) (.slice (some ⟨pb, 0, none⟩) m d) ss ss' ⟨6, 0, -1, ⟨#[]⟩⟩) := Lib.hid (HF.out.set_ 0 _ rfl)
                  obtain ⟨q00, q10, q20, q30, x00, x10, x20, x30, z00, z10, z20, z30⟩ := HRD4.out _ _ HS0.out
                  go_wp2_with fail
                  refine (K1.out _).mono ?_
                  rintro e w1 ⟨rfl, rfl⟩
                  obtain ⟨W1, hW1⟩ : ∃ W', W' = (wq.setCell ⟨w.heap.size + 1, 0, none⟩ (.int .i64 6)) := ⟨_, rfl⟩
                  rw [← hW1]
                  have HS1 : Hid (FW B w W1 (.slice (some ⟨pb, 0, none⟩) m d) ss ss' ⟨6, 0, -1, ⟨#[]⟩⟩) := Lib.hid (by rw [hW1]; exact HS0.out)
                  obtain ⟨q01, q11, q21, q31, x01, x11, x21, x31, z01, z11, z21, z31⟩ := HRD4.out _ _ HS1.out
                  clear hW1
                  have HS2 : Hid (FW B w (W1.setCell ⟨w.heap.size + 1, 1, none⟩ (.int .i64 N1)) (.slice (some ⟨pb, 0, none⟩) m d) ss ss' ⟨6, N1, -1, ⟨#[]⟩⟩) := Lib.hid (HS1.out.set_ 1 _ rfl)
                  obtain ⟨q02, q12, q22, q32, x02, x12, x22, x32, z02, z12, z22, z32⟩ := HRD4.out _ _ HS2.out
                  go_wp2_with (first | (refine wpList_load_row rfl 56 (.tmp 3) rfl (w.heap.size + 1) rfl 56 (fldCs ⟨6, N1, -1, ⟨#[]⟩⟩) (0, 0) _ HS2.out.f Tryz.underlying56 rfl (infoFld4.trans rfl) ?_) | (refine wpList_store_row rfl 56 _ _ rfl w.heap.size (fldCs ⟨6, N1, -1, ⟨#[]⟩⟩) rfl rfl 56 _ HS2.out.r (infoFld4.trans rfl) rfl (fld_one ⟨6, N1, -1, ⟨#[]⟩⟩) ?_))
                  exact bodyPost_ret (v := fldV ⟨6, N1, -1, ⟨#[]⟩⟩) (results_cell_row rfl _ _ w.heap.size _ _ (0, 0) _ rfl (setRow_heap _ _ _ _ _ _ HS2.out.r) Tryz.underlying56 rfl (infoFld4.trans rfl)) rfl ⟨by have h := HRF.out; subst h; rfl, HS2.out.done _⟩
end RefX
section RefY
open Go.RowKit Go.Shelf Fx Go.Sort

/-- A table of the call's own, the fields of each format in a block of their own. -/
structure OwnT (w : World) (B : Nat) (u : Value) (L : List Fm) (vs : List Value) : Prop where
  m : OwnM w B u L vs
  d : Dist vs
theorem OwnT.nil (w : World) (B : Nat) : OwnT w B (.slice none 0 0) [] [] := ⟨OwnM.nil _ _, dist_nil⟩
theorem OwnT.below {w w' : World} {B : Nat} {u : Value} {L : List Fm} {vs : List Value} (h : OwnT w B u L vs) (hb : Below w.heap.size w w') : OwnT w' B u L vs := ⟨h.m.below hb, h.d⟩
theorem OwnT.slice_ {w : World} {B : Nat} {u : Value} {L : List Fm} {vs : List Value} (h : OwnT w B u L vs) : ∃ a c, u = .slice a L.length c ∧ L.length ≤ c ∧ c ≤ maxLen := own_slice h.m.row
/-- A format without fields is appended. -/
theorem OwnT.snoc_nil {w W wZ : World} {B : Nat} {u v' : Value} {L : List Fm} {vs : List Value} {id : Int} (h : OwnT w B u L vs) (hB : B ≤ w.heap.size) (hb : Below w.heap.size w W) (hG : Grew W wZ 0 34 2 u v' (L.length + 1) (flatM L vs ++ [.int .i64 id, .slice none 0 0])) :
    OwnT wZ B v' (L ++ [⟨id, []⟩]) (vs ++ [.slice none 0 0]) ∧ Below B w wZ := by
  have hm := h.m.below hb
  have hW := hb.size
  refine ⟨⟨⟨?_, by simp [h.m.vsl], fun i hi => ?_⟩, h.d.snoc fun g hg => by simp [Value.ownBlock] at hg⟩, (hb.mono hB).grown hG.grown (by omega) fun g hg => own_ge h.m.row hg⟩
  · rw [flatM_snoc h.m.vsl, List.length_append]
    refine own_raise hG.own fun g hg => ?_
    rcases hG.blk with e | e
    · exact own_ge h.m.row (e ▸ hg)
    · rw [e] at hg; cases hg; omega
  · rcases getD_snoc (z := zm) hi with ⟨h1, e⟩ | ⟨rfl, e⟩
    · rw [e, getD_snoc_lt (by have := h.m.vsl; omega)]
      exact own_keep (hm.each i h1) fun g cur hg hh => hG.grown.block g (lt_of_heap hh) fun e1 => (hm.apart h1 g hg).2 e1.symm
    · rw [e, ← h.m.vsl, getD_snoc_eq]
      exact World.ownsRow_nil _ _ _ _
theorem take_set {α : Type} {l : List α} {k : Nat} (x : α) (h : k < l.length) : (l.set k x).take (k + 1) = l.take k ++ [x] := by
  induction l generalizing k with
  | nil => simp at h
  | cons a l ih =>
    cases k with
    | zero => simp
    | succ k => simp only [List.set_cons_succ, List.take_succ_cons, List.cons_append]; rw [ih (by simpa using h)]
theorem Dist.init {vs : List Value} {x : Value} (h : Dist (vs ++ [x])) : Dist vs := fun i j g hi hj hij h1 => by
  have := h i j g (by simp; omega) (by simp; omega) hij (by rw [getD_snoc_lt hi]; exact h1)
  rwa [getD_snoc_lt hj] at this
theorem Dist.last {vs : List Value} {x : Value} (h : Dist (vs ++ [x])) {g : Nat} (hg : x.ownBlock = some g) {i : Nat} (hi : i < vs.length) : (vs.getD i undef).ownBlock ≠ some g := by
  have := h vs.length i g (by simp) (by simp; omega) (by omega) (by rw [getD_snoc_eq]; exact hg)
  rwa [getD_snoc_lt hi] at this
/-- A field is appended to the last format. -/
theorem OwnT.snoc_fld {w W w1 : World} {B ub cap n : Nat} {v' x : Value} {d : List Fm} {vd : List Value} {id : Int} {fs : List Fld} {f : Fld} (h : OwnT w B (.slice (some ⟨ub, 0, none⟩) (n + 1) cap) (d ++ [⟨id, fs⟩]) (vd ++ [x])) (hn : d.length = n) (hB : B ≤ w.heap.size) (hb : Below w.heap.size w W)
    (hG : Grew W w1 0 56 4 x v' (fs.length + 1) (flat fs ++ fldC f)) :
    (∃ a1 c1, v' = .slice a1 (fs.length + 1) c1) ∧ (∃ z, w1.cell? ⟨ub, n * 2 + 1, none⟩ = some z) ∧ w1.frozen? ⟨ub, n * 2 + 1, none⟩ = false ∧ OwnT (w1.setCell ⟨ub, n * 2 + 1, none⟩ v') B (.slice (some ⟨ub, 0, none⟩) (n + 1) cap) (d ++ [⟨id, fs ++ [f]⟩]) (vd ++ [v']) ∧ Below B w (w1.setCell ⟨ub, n * 2 + 1, none⟩ v') := by
  subst hn
  have hvl : vd.length = d.length := by have := h.m.vsl; simp at this; omega
  have hlast := h.m.each d.length (by simp)
  rw [getD_snoc_eq, ← hvl, getD_snoc_eq] at hlast
  have hlast : w.ownsRow B 56 4 x fs.length (flat fs) := hlast
  obtain ⟨a1, c1, e1, _, _⟩ := own_slice hG.own
  have hrow := h.m.row
  rw [flatM_snoc hvl] at hrow
  have hBlk : ∃ cur, W.heap[ub]? = some (Obj.cells cur 34 (0, 0)) ∧ d.length + 1 ≤ cap ∧ cap ≤ maxLen ∧ cur.size = cap * 2 ∧ B ≤ ub ∧ cur.toList.take ((d.length + 1) * 2) = flatM d vd ++ [.int .i64 id, x] := by
    rcases hrow.2 with ⟨e, _⟩ | ⟨g, cp, cur, e, hg, hh, hl, hm, hs, ht⟩
    · cases e
    · have e2 : (d ++ [(⟨id, fs⟩ : Fm)]).length = d.length + 1 := by simp
      rw [e2] at hl ht e
      cases e
      exact ⟨cur, (hb.block _ (lt_of_heap hh)).trans hh, hl, hm, hs, hg, ht⟩
  obtain ⟨cur, hub, c2, c3, c4, c5, c6⟩ := hBlk
  have hxn : ∀ g, x.ownBlock = some g → g ≠ ub := fun g hg e => by
    obtain ⟨cur', h2⟩ := own_heap (ownsRow_below hlast hb) hg
    rw [e, hub] at h2; cases h2
  have hub1 : w1.heap[ub]? = some (Obj.cells cur 34 (0, 0)) := (hG.grown.block ub (lt_of_heap hub) fun e => hxn ub e.symm rfl).trans hub
  have hB1 : Blk w1 ub 34 cur := hub1
  have hlen : d.length * 2 + 1 < cur.size := by omega
  have ne : ∀ k, k ≠ ub → (w1.setCell ⟨ub, d.length * 2 + 1, none⟩ v').heap[k]? = w1.heap[k]? := fun k hk => Below.heap_setCell _ _ _ _ hk
  have hv' : ∀ g, v'.ownBlock = some g → (x.ownBlock = some g ∨ g = W.heap.size) := fun g hg => by
    rcases hG.blk with e | e
    · left; rw [← e]; exact hg
    · right; rw [e] at hg; cases hg; rfl
  have hW := hb.size
  refine ⟨⟨a1, c1, e1⟩, ⟨cur[d.length * 2 + 1], (hB1.cell _).trans (Array.getElem?_eq_getElem hlen)⟩, hB1.frozen _, ⟨⟨?_, by simp [hvl], fun i hi => ?_⟩, ?_⟩, ?_⟩
  · rw [flatM_snoc hvl]
    have e2 : (d ++ [(⟨id, fs ++ [f]⟩ : Fm)]).length = d.length + 1 := by simp
    rw [e2]
    refine ⟨by simp [flatM_len hvl]; omega, .inr ⟨ub, cap, cur.setIfInBounds (d.length * 2 + 1) v', rfl, c5, hB1.set_ _ _, c2, c3, by simp [c4], ?_⟩⟩
    have hk : (d.length + 1) * 2 = d.length * 2 + 1 + 1 := by omega
    have hl : d.length * 2 + 1 < cur.toList.length := by simpa using hlen
    rw [hk] at c6 ⊢
    rw [Array.toList_setIfInBounds, take_set _ hl]
    have h3 : cur.toList.take (d.length * 2 + 1) = flatM d vd ++ [.int .i64 id] := by
      have := congrArg (List.take (d.length * 2 + 1)) c6
      rw [List.take_take, Nat.min_eq_left (by omega)] at this
      rw [this]
      have e4 : flatM d vd ++ [.int .i64 id, x] = (flatM d vd ++ [.int .i64 id]) ++ [x] := by simp
      have e5 : (flatM d vd ++ [Value.int .i64 id]).length = d.length * 2 + 1 := by simp [flatM_len hvl]
      rw [e4, ← e5, List.take_append_of_le_length (Nat.le_refl _), List.take_length]
    rw [h3]; simp
  · rcases getD_snoc (z := zm) hi with ⟨h1, e⟩ | ⟨rfl, e⟩
    · rw [e, getD_snoc_lt (by omega)]
      have hi' : i < (d ++ [(⟨id, fs⟩ : Fm)]).length := by simp; omega
      have hr := h.m.each i hi'
      rw [getD_snoc_lt h1, getD_snoc_lt (by omega)] at hr
      have hr2 := ownsRow_below hr hb
      refine own_keep hr2 fun g cur' hg hh => (ne g fun e => ?_).trans (hG.grown.block g (lt_of_heap hh) fun e => ?_)
      · rw [e, hub] at hh; cases hh
      · exact h.d.last e.symm (by omega) hg
    · have e4 : (vd ++ [v']).getD d.length undef = v' := by rw [← hvl, getD_snoc_eq]
      rw [e, e4]
      show (w1.setCell ⟨ub, _, none⟩ v').ownsRow B 56 4 v' (fs ++ [f]).length (flat (fs ++ [f]))
      have e3 : flat (fs ++ [f]) = flat fs ++ fldC f := by simp [flat]
      rw [e3, List.length_append]
      refine own_keep (own_raise hG.own fun g hg => ?_) fun g cur' hg hh => ne g fun e => ?_
      · rcases hv' g hg with h4 | rfl
        · exact own_ge hlast h4
        · omega
      · rw [e, hub1] at hh; cases hh
  · refine h.d.init.snoc fun g hg i hi => ?_
    rcases hv' g hg with h4 | h4
    · exact h.d.last h4 hi
    · intro h5
      rw [h4] at h5
      have hr := h.m.each i (by simp; omega)
      rw [getD_snoc_lt hi] at hr
      have := own_lt hr h5
      omega
  · exact ((hb.mono hB).grown hG.grown (by omega) fun g hg => own_ge hlast hg).setCell (p := ⟨ub, d.length * 2 + 1, none⟩) c5 _
/-- What can be read of a table of the call's own. -/
theorem OwnT.last {w : World} {B : Nat} {u : Value} {d : List Fm} {f : Fm} {vs : List Value} (h : OwnT w B u (d ++ [f]) vs) : ∃ ub cap vd a c, u = .slice (some ⟨ub, 0, none⟩) (d.length + 1) cap ∧ vs = vd ++ [.slice a f.fs.length c] ∧ vd.length = d.length ∧ B ≤ ub ∧ ub < w.heap.size ∧ d.length + 1 ≤ cap ∧ cap ≤ maxLen ∧ w.cell? ⟨ub, d.length * 2, none⟩ = some (.int .i64 f.id) ∧ w.cell? ⟨ub, d.length * 2 + 1, none⟩ = some (.slice a f.fs.length c) ∧ w.ownsRow B 56 4 (.slice a f.fs.length c) f.fs.length (flat f.fs) := by
  have hvl := h.m.vsl
  have hvl : vs.length = d.length + 1 := by simpa using hvl
  obtain ⟨vd, x, rfl⟩ : ∃ vd x, vs = vd ++ [x] := ⟨vs.dropLast, vs.getLast (by intro e; rw [e] at hvl; simp at hvl), by rw [List.dropLast_concat_getLast]⟩
  have hv2 : vd.length = d.length := by simpa using hvl
  have hlast := h.m.each d.length (by simp)
  rw [getD_snoc_eq, ← hv2, getD_snoc_eq] at hlast
  obtain ⟨a, c, rfl, _, _⟩ := own_slice hlast
  have hrow := h.m.row
  rcases hrow.2 with ⟨_, e⟩ | ⟨g, cap, cur, rfl, hg, hh, hl, hm, hs, ht⟩
  · simp at e
  · have e2 : (d ++ [f]).length = d.length + 1 := by simp
    rw [e2] at hl ht
    have hcell : ∀ j, j < (d.length + 1) * 2 → w.cell? ⟨g, j, none⟩ = (flatM (d ++ [f]) (vd ++ [.slice a f.fs.length c]))[j]? := fun j hj => by
      rw [cell_of_row w g j cur _ (0, 0) hh, ← ht, List.getElem?_take, if_pos hj]
      simp
    obtain ⟨f1, f2⟩ := flatM_get (d := d ++ [f]) (vs := vd ++ [.slice a f.fs.length c]) (i := d.length) h.m.vsl (by simp)
    rw [getD_snoc_eq] at f1
    rw [← hv2, getD_snoc_eq, hv2] at f2
    exact ⟨g, cap, vd, a, c, by rw [e2], rfl, hv2, hg, lt_of_heap hh, hl, hm, (hcell _ (by omega)).trans f1, (hcell _ (by omega)).trans f2, hlast⟩
/-- What a beginning is like, as ints. -/
theorem Fx.Good.ints {s : St} (g : Good s) : IntsL (tab s) := by
  have key : ∀ f, FmOk s.d f ∨ f = s.o → True := fun _ _ => trivial
  have hfm : ∀ (d : List Fm) (f : Fm), Ok d → (0 ≤ f.id ∧ f.id ≤ 1000000) → f.fs.length ≤ 16 → (∀ k, k < f.fs.length → Fx.right (lm d) (f.fs.take k) (f.fs.getD k zf) = true) → IntsM f := fun d f hd hid hfew he => by
    refine ⟨by omega, fun k hk => ?_⟩
    obtain ⟨_, a1, a2, a3, a4, a5, a6, a7⟩ := right_canon hd.small (by rw [List.length_take]; omega) (he k hk)
    exact ⟨by omega, by omega, by omega, by omega, by omega, by omega, by omega⟩
  have hd : ∀ i, i < s.d.length → IntsM (s.d.getD i zm) := fun i hi => by
    have h := g.pre.each i hi
    exact hfm _ _ (g.pre.take i) (by have := h.lo; have := h.hi; omega) h.few h.each
  intro i hi
  unfold tab at hi ⊢
  by_cases h0 : s.o.id = 0
  · rw [if_pos h0] at hi ⊢; exact hd i hi
  · rw [if_neg h0] at hi ⊢
    rcases getD_snoc (z := zm) hi with ⟨h1, e⟩ | ⟨rfl, e⟩
    · rw [e]; exact hd i h1
    · rw [e]; exact hfm _ _ g.pre ⟨g.lo, g.hi⟩ g.few g.each
theorem Fx.Good.ints_o {s : St} (g : Good s) (h : s.o.id ≠ 0) : IntsM s.o := by
  have := g.ints s.d.length (by rw [tab_some h]; simp)
  rw [tab_some h, getD_snoc_eq] at this
  exact this
theorem IntsM.snoc {o : Fm} {f : Fld} (h : IntsM o) (hf : Ints f) : IntsM ⟨o.id, o.fs ++ [f]⟩ := by
  refine ⟨h.1, fun i hi => ?_⟩
  have hi : i < (o.fs ++ [f]).length := hi
  show Ints ((o.fs ++ [f]).getD i zf)
  rcases getD_snoc (z := zf) hi with ⟨h1, e⟩ | ⟨_, e⟩
  · rw [e]; exact h.2 i h1
  · rw [e]; exact hf
theorem Fx.Good.tab_len {s : St} (g : Good s) : (tab s).length ≤ 60 := by
  unfold tab
  by_cases h0 : s.o.id = 0
  · rw [if_pos h0]; exact g.pre.few
  · rw [if_neg h0]; have := g.room h0; simp; omega
end RefY
section RefZ
open Go.RowKit Go.Shelf Fx Go.Sort

/-- What stands while lines are read. -/
structure PS (w1 wr : World) (ps : List (List UInt8)) (u : Value) (L : Nat) (i : Nat) (s : St) (R : PR) : Prop where
  b : Below w1.heap.size w1 wr
  g : Fx.Good s
  t : ∃ vs, OwnT wr w1.heap.size u (tab s) vs
  l : (tab s).length = L
  rd : parseL s (ps.drop i) (i + 1) = R
theorem bad_parse {R : PR} {k : Nat} {w w' : World} {e : Ending} (hR : R = .bad k) (he : e = .returned (.tuple #[.slice none 0 0, .int .i64 k, .int .i64 40])) (hb : Below w.heap.size w w') : ParsePost R w e w' := by
  subst hR; exact ⟨he, hb⟩
theorem PS.stop {w1 wr : World} {ps : List (List UInt8)} {u : Value} {L i : Nat} {s : St} {R : PR} (h : PS w1 wr ps u L i s R) (hi : i + 1 < ps.length) (hr : readO s (ps.getD i []) = none) : R = .bad (i + 1) := by
  have e : ps.drop i = ps.getD i [] :: ps.drop (i + 1) := drop_get [] (by omega)
  rw [← h.rd, e, parseL_more (by intro h; have := congrArg List.length h; simp at this; omega), hr]
theorem PS.go {w1 wr w2 : World} {ps : List (List UInt8)} {u u' : Value} {L L' i : Nat} {s s' : St} {R : PR} (h : PS w1 wr ps u L i s R) (hi : i + 1 < ps.length) (hr : readO s (ps.getD i []) = some s') (hb : Below w1.heap.size w1 w2) (ht : ∃ vs, OwnT w2 w1.heap.size u' (tab s') vs) (hl : (tab s').length = L') : PS w1 w2 ps u' L' (i + 1) s' R := by
  have e : ps.drop i = ps.getD i [] :: ps.drop (i + 1) := drop_get [] (by omega)
  refine ⟨hb, (read_lines h.g hr).1, ht, hl, ?_⟩
  rw [← h.rd, e, parseL_more (by intro h; have := congrArg List.length h; simp at this; omega), hr]
set_option maxRecDepth 100000 in
set_option maxHeartbeats 8000000 in
theorem rParse_any (x : ByteArray) (w : World) (hs : x.size ≤ 10000000) :
    Calls Tryz.prog 27 #[.string x] w (ParsePost (parseO x.data.toList) w) := by
  have HSP : Hid (Calls Tryz.prog 28 #[.string x, .int .u8 10] w fun e w' => (∃ (v : Value) (ss : List ByteArray), e = .returned v ∧ OwnS w' w.heap.size v ss ∧ ss.map (·.data.toList) = sp 10 x.data.toList) ∧ Below w.heap.size w w') := Lib.hid (rSplit_any x 10 w hs)
  obtain ⟨R, hR⟩ : ∃ R, R = parseO x.data.toList := ⟨_, rfl⟩
  rw [← hR]
  have HR := Lib.hid hR
  clear hR
  go_enter Tryz.func27, Tryz.ntmps27
  go_wp2_with fail
  refine HSP.out.mono ?_
  rintro e w1 ⟨⟨lv, lss, rfl, hO, hmap⟩, hb1⟩
  obtain ⟨la, lc, rfl, hlr⟩ := hO.at_
  have hne := sp_ne 10 x.data.toList
  have hll : lss.length = (sp 10 x.data.toList).length := by rw [← hmap, List.length_map]
  obtain ⟨n, hn⟩ : ∃ n, lss.length = n + 1 := ⟨lss.length - 1, by
    have : (sp 10 x.data.toList).length ≠ 0 := fun h => hne (List.eq_nil_of_length_eq_zero h)
    omega⟩
  have hnx : n ≤ 10000000 := by
    have h := sp_count 10 x.data.toList
    have h2 : Lib.countByte x.data.toList 10 ≤ x.data.toList.length := List.count_le_length
    have h3 : x.data.toList.length = x.size := by simp
    omega
  have hsz : ∀ j, (lss.getD j ⟨#[]⟩).size ≤ 10000000 := fun j => by
    by_cases hj : j < lss.length
    · have h1 : (lss.getD j ⟨#[]⟩).data.toList ∈ sp 10 x.data.toList := by
        rw [← hmap]
        exact List.mem_map.2 ⟨_, getD_mem hj, rfl⟩
      have h2 := sp_short 10 _ _ h1
      have h3 : x.data.toList.length = x.size := by simp
      have h4 : (lss.getD j ⟨#[]⟩).data.toList.length = (lss.getD j ⟨#[]⟩).size := by simp
      omega
    · have e : lss.getD j ⟨#[]⟩ = ⟨#[]⟩ := by simp [List.getD, List.getElem?_eq_none (show lss.length ≤ j by omega)]
      rw [e]; decide
  rw [hn] at hlr ⊢
  obtain ⟨lb, rfl, -, ll, l1, l2, hlc⟩ : ∃ lb, la = some ⟨lb, 0, none⟩ ∧ w.heap.size ≤ lb ∧ lb < w1.heap.size ∧ n + 1 ≤ lc ∧ lc ≤ maxLen ∧ ∀ j, j < n + 1 → w1.cell? ⟨lb, j, none⟩ = some (.string (lss.getD j ⟨#[]⟩)) := by
    rcases hlr with h | ⟨lb, rfl, h⟩
    · omega
    · exact ⟨lb, rfl, h⟩
  unfold maxLen at l2
  have HL := Lib.hid hlc
  have HB1 := Lib.hid hb1
  have HSZ := Lib.hid hsz
  obtain ⟨ps, hps⟩ : ∃ ps, ps = sp 10 x.data.toList := ⟨_, rfl⟩
  have hpl : ps.length = n + 1 := by rw [hps]; omega
  have HPG : Hid (∀ j, ps.getD j [] = (lss.getD j ⟨#[]⟩).data.toList) := Lib.hid fun j => by
    rw [hps, ← hmap]
    simp only [List.getD, List.getElem?_map]
    cases lss[j]? <;> rfl
  have HPS : Hid (parseL st0 (ps.drop 0) 1 = R) := Lib.hid (by rw [HR.out, List.drop_zero, hps]; rfl)
  have HPL := Lib.hid hpl
  clear hlr hlc hb1 hsz hps hmap hne hll hn hO hpl HSP
  go_wp2_with fail
  go_loopw [6, 7] (fun u i wr => ∃ (k L : Nat) (a : Option Addr) (c : Nat) (s : St), k ≤ n ∧ i = .int .i64 k ∧ u = .slice a L c ∧ L ≤ 60 ∧ Hid (PS w1 wr ps (.slice a L c) L k s R)) (fun _ i _ => n - (intOf i).toNat)
  case atStart => exact ⟨0, 0, none, 0, st0, Nat.zero_le _, rfl, rfl, by omega, Lib.hid ⟨Below.refl _ _, good0, ⟨[], OwnT.nil _ _⟩, rfl, HPS.out⟩⟩
  case round =>
    obtain ⟨k, L, a, c, s, hk, rfl, rfl, hL, HI⟩ := hrel
    obtain ⟨wq, rfl⟩ : ∃ wq, wq = wr := ⟨_, rfl⟩
    have hwq := HI.out.b.size
    have hn1 : (n : Int) + 1 - 1 = n := by omega
    by_cases hlt : k < n
    · obtain ⟨X, hX⟩ : ∃ X, X = lss.getD k ⟨#[]⟩ := ⟨_, rfl⟩
      have q : wq.cell? ⟨lb, k, none⟩ = some (.string X) := by rw [hX]; exact (HI.out.b.cell (p := ⟨lb, k, none⟩) ll).trans (HL.out k (by omega))
      have hXs : X.size ≤ 10000000 := by rw [hX]; exact HSZ.out _
      have HXL : Hid (ps.getD k [] = X.data.toList) := Lib.hid (by rw [hX]; exact HPG.out k)
      have HSP : Hid (∀ W : World, Calls Tryz.prog 28 #[.string X, .int .u8 32] W fun e w' => (∃ (v : Value) (ss : List ByteArray), e = .returned v ∧ OwnS w' W.heap.size v ss ∧ ss.map (·.data.toList) = sp 32 X.data.toList) ∧ Below W.heap.size W w') := Lib.hid fun W => rSplit_any X 32 W hXs
      clear hX
      go_wp2_with fail
      refine (HSP.out _).mono ?_
      rintro e w2 ⟨⟨pv, ss, rfl, hO, hmap⟩, hb2⟩
      obtain ⟨pa, pc, rfl, hpr⟩ := hO.at_
      have hne := sp_ne 32 X.data.toList
      have hll : ss.length = (sp 32 X.data.toList).length := by rw [← hmap, List.length_map]
      obtain ⟨m, hm⟩ : ∃ m, m = ss.length := ⟨_, rfl⟩
      rw [← hm] at hpr hll ⊢
      have hm1 : 1 ≤ m := by
        have : (sp 32 X.data.toList).length ≠ 0 := fun h => hne (List.eq_nil_of_length_eq_zero h)
        omega
      have hmx : m ≤ 10000001 := by
        have h := sp_count 32 X.data.toList
        have h2 : Lib.countByte X.data.toList 32 ≤ X.data.toList.length := List.count_le_length
        have h3 : X.data.toList.length = X.size := by simp
        omega
      have hsz : ∀ j, (ss.getD j ⟨#[]⟩).size ≤ 10000000 := fun j => by
        by_cases hj : j < ss.length
        · have h1 : (ss.getD j ⟨#[]⟩).data.toList ∈ sp 32 X.data.toList := by
            rw [← hmap]
            exact List.mem_map.2 ⟨_, getD_mem hj, rfl⟩
          have h2 := sp_short 32 _ _ h1
          have h3 : X.data.toList.length = X.size := by simp
          have h4 : (ss.getD j ⟨#[]⟩).data.toList.length = (ss.getD j ⟨#[]⟩).size := by simp
          omega
        · have e : ss.getD j ⟨#[]⟩ = ⟨#[]⟩ := by simp [List.getD, List.getElem?_eq_none (show ss.length ≤ j by omega)]
          rw [e]; decide
      obtain ⟨pb, rfl, -, pl, p1, p2, hpc⟩ : ∃ pb, pa = some ⟨pb, 0, none⟩ ∧ wq.heap.size ≤ pb ∧ pb < w2.heap.size ∧ m ≤ pc ∧ pc ≤ maxLen ∧ ∀ j, j < m → w2.cell? ⟨pb, j, none⟩ = some (.string (ss.getD j ⟨#[]⟩)) := by
        rcases hpr with h | ⟨pb, rfl, h⟩
        · omega
        · exact ⟨pb, rfl, h⟩
      unfold maxLen at p2
      have hpg : ∀ j, (sp 32 X.data.toList).getD j [] = (ss.getD j ⟨#[]⟩).data.toList := fun j => by
        rw [← hmap]
        simp only [List.getD, List.getElem?_map]
        cases ss[j]? <;> rfl
      obtain ⟨P0, hP0⟩ : ∃ P, P = ss.getD 0 ⟨#[]⟩ := ⟨_, rfl⟩
      obtain ⟨P1, hP1⟩ : ∃ P, P = ss.getD 1 ⟨#[]⟩ := ⟨_, rfl⟩
      have c0 := hpc 0 (by omega)
      rw [← hP0] at c0
      have s0 : P0.size ≤ 10000000 := by rw [hP0]; exact hsz _
      have s1 : P1.size ≤ 10000000 := by rw [hP1]; exact hsz _
      have tl : ∀ P : ByteArray, P.toList = P.data.toList := fun P => ByteArray.toList_eq P
      have HFL : Hid (OwnS w2 wq.heap.size (.slice (some ⟨pb, 0, none⟩) m pc) ss ∧ ss.length ≤ 10000001 ∧ (∀ j, (ss.getD j ⟨#[]⟩).size ≤ 10000000) ∧ fieldR (ss.map (·.data.toList)) = fieldR (sp 32 X.data.toList)) := Lib.hid ⟨by rw [hm]; rw [← hm] at hO ⊢; exact hO, by omega, hsz, by rw [hmap]⟩
      have HB2 := Lib.hid hb2
      obtain ⟨q0, hq0⟩ : ∃ q0 : Bool, q0 = (decide (P0.data.toList = wFormat) && decide (m = 2)) := ⟨_, rfl⟩
      have HQ : Hid (q0 = true ↔ isHead (sp 32 X.data.toList)) := Lib.hid (by
        rw [hq0]
        unfold isHead
        rw [hpg 0, ← hP0, ← hll]; simp)
      have c1 : m = 2 → w2.cell? ⟨pb, 1, none⟩ = some (.string P1) := fun h => by rw [hP1]; exact hpc 1 (by omega)
      have HP1 : Hid ((sp 32 X.data.toList).getD 1 [] = P1.data.toList) := Lib.hid (by rw [hpg 1, hP1])
      have HC1 := Lib.hid c1
      clear hpr hpc hO hmap hb2 hne hll hm hsz hpg hP0 hP1 HSP c1
      go_upto_region 7 with fail
      go_cut [35] from 27 to 35 (fun t wx => t = .bool q0 ∧ wx = w2)
      case first =>
        by_cases h0 : P0.data.toList = wFormat
        · have wd : (P0.toList == [102, 111, 114, 109, 97, 116]) = true := by rw [tl, h0]; rfl
          by_cases h2 : m = 2
          · have d2 : ((m : Int) == 2) = true := by rw [beq_iff_eq]; omega
            have HQV : Hid (q0 = true) := Lib.hid (by rw [hq0, decide_eq_true h0, decide_eq_true h2]; rfl)
            clear h0 h2 hq0 tl
            go_wp2_with fail
            go_meet
            case rel => exact ⟨by rw [HQV.out], rfl⟩
          · have d2 : ((m : Int) == 2) = false := by rw [beq_eq_false_iff_ne]; omega
            have HQV : Hid (q0 = false) := Lib.hid (by rw [hq0, decide_eq_false h2]; simp)
            clear h0 h2 hq0 tl
            go_wp2_with fail
            go_meet
            case rel => exact ⟨by rw [HQV.out], rfl⟩
        · have wd : (P0.toList == [102, 111, 114, 109, 97, 116]) = false := by rw [tl, beq_eq_false_iff_ne]; exact h0
          have HQV : Hid (q0 = false) := Lib.hid (by rw [hq0, decide_eq_false h0]; rfl)
          clear h0 hq0 tl
          go_wp2_with fail
          go_meet
          case rel => exact ⟨by rw [HQV.out], rfl⟩
      case rest =>
        obtain ⟨rfl, rfl⟩ := hcut
        cases q0 with
        | true =>
          obtain ⟨h0, rfl⟩ : P0.data.toList = wFormat ∧ m = 2 := by simpa using hq0.symm
          have hH := HQ.out.1 rfl
          have c1 := HC1.out rfl
          obtain ⟨N, hN⟩ : ∃ N : Nat, rnum P1.data.toList = N := ⟨(rnum P1.data.toList).toNat, by have := rnum_in P1.data.toList; omega⟩
          have hN8 : N < 100000000 := by have := rnum_in P1.data.toList; omega
          have HID : Hid (rnum ((sp 32 X.data.toList).getD 1 []) = N) := Lib.hid (by rw [HP1.out, hN])
          have HNU : Hid (∀ W : World, Calls Tryz.prog 51 #[.string P1] W fun e w' => e = .returned (.int .i64 N) ∧ w' = W) := Lib.hid fun W => rNumber_any P1 N W (by omega) hN
          obtain ⟨vs, hT⟩ := HI.out.t
          have hl := HI.out.l
          have HT := Lib.hid (hT.below HB2.out)
          have HO : Hid (wc.ownsRow 0 34 2 (.slice a L c) L (flatM (tab s) vs)) := Lib.hid (by
            have h := ownsRow_lower HT.out.m.row (Nat.zero_le _)
            rw [hl] at h
            exact h)
          have HK : Hid (∀ v1 w3, Grew (wc.alloc (.cells #[.int .i64 N, .slice none 0 0] 34)) w3 0 34 2 (.slice a L c) v1 (L + 1) (flatM (tab s) vs ++ [.int .i64 N, .slice none 0 0]) → OwnT w3 w1.heap.size v1 (tab s ++ [⟨N, []⟩]) (vs ++ [.slice none 0 0]) ∧ Below w1.heap.size w1 w3) := Lib.hid fun v1 w3 hG => by
            have hB : w1.heap.size ≤ wc.heap.size := Nat.le_trans HI.out.b.size HB2.out.size
            obtain ⟨h1, h2⟩ := HT.out.snoc_nil (id := N) hB (bx _) (by rw [hl]; exact hG)
            exact ⟨h1, (HI.out.b.trans (HB2.out.mono HI.out.b.size)).trans h2⟩
          have HH := Lib.hid (And.intro h0 hH)
          clear hq0 h0 hH hN hT hl tl
          go_wp2_with fail
          refine (HNU.out _).mono ?_
          rintro e wc ⟨rfl, rfl⟩
          go_wp2_with (first | (refine wpList_append_fmt rfl (.tmp 36) (.tmp 42) rfl (.slice a L c) L (flatM (tab s) vs) rfl (ownsRow_below HO.out (bx _)) (by omega) _ N (.slice none 0 0) rfl rfl (heap_alloc_new _ _) ?_; intro v1 w3 hG))
          obtain ⟨hT3, hb3⟩ := HK.out _ _ hG
          obtain ⟨ub, cap, vd, xa, xc, e1, hvs, hvd, ub1, ub2, cap1, cap2, k0, k1, -⟩ := hT3.last
          rw [HI.out.l] at e1 cap1 k0 k1
          subst e1
          unfold maxLen at cap2
          have k2 : w3.cell? ⟨lb, k, none⟩ = some (.string X) := (hb3.cell (p := ⟨lb, k, none⟩) ll).trans ((HB2.out.cell (p := ⟨lb, k, none⟩) (World.block_lt_of_cell? (h := q))).trans q |> fun h => (HI.out.b.cell (p := ⟨lb, k, none⟩) ll).symm.trans q)
          have HT3 := Lib.hid (And.intro hT3 hb3)
          clear hT3 hb3 hG hvs hvd k1 HNU
          have hL1 : (L : Int) + 1 - 1 = L := by omega
          have hL2 : IntKind.i64.wrap (L : Int) = L := IntWalk.i64_in _ ⟨by omega, by omega⟩
          have hL3 : 0 ≤ (L : Int) ∧ (L : Int) < (L : Int) + 1 := by omega
          have hk3 : 0 ≤ (k : Int) ∧ (k : Int) < (n : Int) + 1 := by omega
          go_wp2_with fail
          obtain ⟨DG, hDG⟩ : ∃ DG, DG = bs (Lib.decDigits N) := ⟨_, rfl⟩
          have hDs : DG.size ≤ 19 := by rw [hDG]; exact dec_len 19 N (by decide) (by omega)
          have HDD : Hid (∀ W : World, Calls Tryz.prog 41 #[.int .i64 N] W fun e w' => e = .returned (.string DG) ∧ Below W.heap.size W w') := Lib.hid fun W => by rw [hDG]; exact rDigits_any N W (by omega)
          have HDG := Lib.hid hDG
          have hDn : ¬ 9223372036854775807 < 7 + DG.size := by omega
          clear hDG
          have hEN : ∀ (args : Array Value) (w : World), (callFunc 41 args).run Tryz.prog w = .ok (.enter 41 args) w := enters_of Tryz.func41 (by kernel_rfl) (by kernel_rfl)
          refine wp_region_held_drew (S := fun w' => w'.cell? ⟨ub, L * 2, none⟩ = some (.int .i64 N) ∧ w'.cell? ⟨lb, k, none⟩ = some (.string X)) (by kernel_rfl) ⟨k0, k2⟩ (fun hHeld => ?_)
          refine wpAnyH_take (i := 0) (oi := ?o1) (v := ?v1) ?h1 ?a1 ?b1 ?c1 ?q1 (Or.inl ⟨?g1, ?y1⟩) ?s1 ?r1
          case h1 => (simp only [List.getElem?_toArray, List.getElem?_cons_zero]; rfl)
          case a1 => kernel_rfl
          case b1 => kernel_rfl
          case c1 => kernel_rfl
          case q1 => exact fun _ _ _ h => h
          case g1 => rfl
          case y1 => (intro wS hSw; obtain ⟨y0, y1⟩ := hSw; go_simp; (try with_reducible rfl))
          case s1 => assumption
          (try simp only [Act.put, List.setIfInBounds_toArray, List.set_cons_zero, List.set_cons_succ])
          refine wpAnyH_take (i := 1) (oi := ?o2) (v := ?v2) ?h2 ?a2 ?b2 ?c2 ?q2 (Or.inl ⟨?g2, ?y2⟩) ?s2 ?r2
          case h2 => (simp only [List.getElem?_toArray, List.getElem?_cons_zero, List.getElem?_cons_succ]; rfl)
          case a2 => kernel_rfl
          case b2 => kernel_rfl
          case c2 => kernel_rfl
          case q2 => exact fun _ _ _ h => h
          case g2 => rfl
          case y2 => (intro wS hSw; obtain ⟨y0, y1⟩ := hSw; go_simp; (try with_reducible rfl))
          case s2 => assumption
          (try simp only [Act.put, List.setIfInBounds_toArray, List.set_cons_zero, List.set_cons_succ])
          refine wpAnyH_take (i := 2) (oi := ?o3) (v := ?v3) ?h3 ?a3 ?b3 ?c3 ?q3 (Or.inl ⟨?g3, ?y3⟩) ?s3 ?r3
          case h3 => (simp only [List.getElem?_toArray, List.getElem?_cons_zero, List.getElem?_cons_succ]; rfl)
          case a3 => kernel_rfl
          case b3 => kernel_rfl
          case c3 => kernel_rfl
          case q3 => exact fun _ _ _ h => h
          case g3 => rfl
          case y3 => (intro wS hSw; obtain ⟨y0, y1⟩ := hSw; go_simp; (try with_reducible rfl))
          case s3 => assumption
          (try simp only [Act.put, List.setIfInBounds_toArray, List.set_cons_zero, List.set_cons_succ])
          refine wpAnyH_take (i := 3) (oi := ?o4) (v := ?v4) ?h4 ?a4 ?b4 ?c4 ?q4 (Or.inl ⟨?g4, ?y4⟩) ?s4 ?r4
          case h4 => (simp only [List.getElem?_toArray, List.getElem?_cons_zero, List.getElem?_cons_succ]; rfl)
          case a4 => kernel_rfl
          case b4 => kernel_rfl
          case c4 => kernel_rfl
          case q4 => exact fun _ _ _ h => h
          case g4 => rfl
          case y4 => (intro wS hSw; obtain ⟨y0, y1⟩ := hSw; go_simp; (try with_reducible rfl))
          case s4 => assumption
          (try simp only [Act.put, List.setIfInBounds_toArray, List.set_cons_zero, List.set_cons_succ])
          refine wpAnyH_take (i := 4) (oi := ?o5) (v := ?v5) ?h5 ?a5 ?b5 ?c5 ?q5 (Or.inl ⟨?g5, ?y5⟩) ?s5 ?r5
          case h5 => (simp only [List.getElem?_toArray, List.getElem?_cons_zero, List.getElem?_cons_succ]; rfl)
          case a5 => kernel_rfl
          case b5 => kernel_rfl
          case c5 => kernel_rfl
          case q5 => exact fun _ _ _ h => h
          case g5 => rfl
          case y5 => (intro wS hSw; obtain ⟨y0, y1⟩ := hSw; go_simp; (try with_reducible rfl))
          case s5 => assumption
          (try simp only [Act.put, List.setIfInBounds_toArray, List.set_cons_zero, List.set_cons_succ])
          refine wpAnyH_take (i := 5) (oi := ?o6) (v := ?v6) ?h6 ?a6 ?b6 ?c6 ?q6 (Or.inl ⟨?g6, ?y6⟩) ?s6 ?r6
          case h6 => (simp only [List.getElem?_toArray, List.getElem?_cons_zero, List.getElem?_cons_succ]; rfl)
          case a6 => kernel_rfl
          case b6 => kernel_rfl
          case c6 => kernel_rfl
          case q6 => exact fun _ _ _ h => h
          case g6 => rfl
          case y6 => (intro wS hSw; obtain ⟨y0, y1⟩ := hSw; go_simp; (try with_reducible rfl))
          case s6 => assumption
          (try simp only [Act.put, List.setIfInBounds_toArray, List.set_cons_zero, List.set_cons_succ])
          refine wpAnyH_take (i := 6) (oi := ?o7) (v := ?v7) ?h7 ?a7 ?b7 ?c7 ?q7 (Or.inl ⟨?g7, ?y7⟩) ?s7 ?r7
          case h7 => (simp only [List.getElem?_toArray, List.getElem?_cons_zero, List.getElem?_cons_succ]; rfl)
          case a7 => kernel_rfl
          case b7 => kernel_rfl
          case c7 => kernel_rfl
          case q7 => exact fun _ _ _ h => h
          case g7 => rfl
          case y7 => (intro wS hSw; obtain ⟨y0, y1⟩ := hSw; go_simp; (try with_reducible rfl))
          case s7 => assumption
          (try simp only [Act.put, List.setIfInBounds_toArray, List.set_cons_zero, List.set_cons_succ])
          refine wpAnyH_take (i := 9) (oi := ?o8) (v := ?v8) ?h8 ?a8 ?b8 ?c8 ?q8 (Or.inl ⟨?g8, ?y8⟩) ?s8 ?r8
          case h8 => (simp only [List.getElem?_toArray, List.getElem?_cons_zero, List.getElem?_cons_succ]; rfl)
          case a8 => kernel_rfl
          case b8 => kernel_rfl
          case c8 => kernel_rfl
          case q8 => exact fun _ _ _ h => h
          case g8 => rfl
          case y8 => (intro wS hSw; obtain ⟨y0, y1⟩ := hSw; go_simp; (try with_reducible rfl))
          case s8 => assumption
          (try simp only [Act.put, List.setIfInBounds_toArray, List.set_cons_zero, List.set_cons_succ])
          refine wpAnyH_take (i := 10) (oi := ?o9) (v := ?v9) ?h9 ?a9 ?b9 ?c9 ?q9 (Or.inl ⟨?g9, ?y9⟩) ?s9 ?r9
          case h9 => (simp only [List.getElem?_toArray, List.getElem?_cons_zero, List.getElem?_cons_succ]; rfl)
          case a9 => kernel_rfl
          case b9 => kernel_rfl
          case c9 => kernel_rfl
          case q9 => exact fun _ _ _ h => h
          case g9 => rfl
          case y9 => (intro wS hSw; obtain ⟨y0, y1⟩ := hSw; go_simp; (try with_reducible rfl))
          case s9 => assumption
          (try simp only [Act.put, List.setIfInBounds_toArray, List.set_cons_zero, List.set_cons_succ])
          refine wpAnyH_take (i := 11) (oi := ?o10) (v := ?v10) ?h10 ?a10 ?b10 ?c10 ?q10 (Or.inl ⟨?g10, ?y10⟩) ?s10 ?r10
          case h10 => (simp only [List.getElem?_toArray, List.getElem?_cons_zero, List.getElem?_cons_succ]; rfl)
          case a10 => kernel_rfl
          case b10 => kernel_rfl
          case c10 => kernel_rfl
          case q10 => exact fun _ _ _ h => h
          case g10 => rfl
          case y10 => (intro wS hSw; obtain ⟨y0, y1⟩ := hSw; go_simp; (try with_reducible rfl))
          case s10 => assumption
          (try simp only [Act.put, List.setIfInBounds_toArray, List.set_cons_zero, List.set_cons_succ])
          refine wpAnyH_take (i := 12) (oi := ?o11) (v := ?v11) ?h11 ?a11 ?b11 ?c11 ?q11 (Or.inl ⟨?g11, ?y11⟩) ?s11 ?r11
          case h11 => (simp only [List.getElem?_toArray, List.getElem?_cons_zero, List.getElem?_cons_succ]; rfl)
          case a11 => kernel_rfl
          case b11 => kernel_rfl
          case c11 => kernel_rfl
          case q11 => exact fun _ _ _ h => h
          case g11 => rfl
          case y11 => (intro wS hSw; obtain ⟨y0, y1⟩ := hSw; go_simp; (try with_reducible rfl))
          case s11 => assumption
          (try simp only [Act.put, List.setIfInBounds_toArray, List.set_cons_zero, List.set_cons_succ])
          refine wpAnyH_ready (rs := [7]) (by kernel_rfl) (by simp) ?_
          refine AllReadyH.cons (o := ?oB12) ?hB12 ?kB12 AllReadyH.nil
          case hB12 => (simp only [List.getElem?_toArray, List.getElem?_cons_zero, List.getElem?_cons_succ]; rfl)
          case kB12 =>
            intro K hK
            go_simp
            refine (HDD.out _).mono ?_
            rintro e w4 ⟨rfl, hb4⟩
            dsimp only
            have hb34 : Below w3.heap.size w3 w4 := (Below.refl _ w3).drew.trans hb4
            have m0 := (hb34.cell (p := ⟨ub, L * 2, none⟩) (World.block_lt_of_cell? (h := k0))).trans k0
            have m1 := (hb34.cell (p := ⟨lb, k, none⟩) (World.block_lt_of_cell? (h := k2))).trans k2
            refine hK.out _ _ ⟨m0, m1⟩ (fun hHeld2 => ?_)
            clear hK K
            (try simp only [Act.put, List.setIfInBounds_toArray, List.set_cons_zero, List.set_cons_succ])
            refine wpAnyH_take (i := 8) (oi := ?o13) (v := ?v13) ?h13 ?a13 ?b13 ?c13 ?q13 (Or.inl ⟨?g13, ?y13⟩) ?s13 ?r13
            case h13 => (simp only [List.getElem?_toArray, List.getElem?_cons_zero, List.getElem?_cons_succ]; rfl)
            case a13 => kernel_rfl
            case b13 => kernel_rfl
            case c13 => kernel_rfl
            case q13 => exact fun _ _ _ h => h
            case g13 => rfl
            case y13 => (intro wS hSw; obtain ⟨y0, y1⟩ := hSw; go_simp; (try with_reducible rfl))
            case s13 => assumption
            (try simp only [Act.put, List.setIfInBounds_toArray, List.set_cons_zero, List.set_cons_succ])
            refine wpAnyH_take (i := 13) (oi := ?o14) (v := ?v14) ?h14 ?a14 ?b14 ?c14 ?q14 (Or.inl ⟨?g14, ?y14⟩) ?s14 ?r14
            case h14 => (simp only [List.getElem?_toArray, List.getElem?_cons_zero, List.getElem?_cons_succ]; rfl)
            case a14 => kernel_rfl
            case b14 => kernel_rfl
            case c14 => kernel_rfl
            case q14 => exact fun _ _ _ h => h
            case g14 => rfl
            case y14 => (intro wS hSw; obtain ⟨y0, y1⟩ := hSw; go_simp; (try with_reducible rfl))
            case s14 => assumption
            (try simp only [Act.put, List.setIfInBounds_toArray, List.set_cons_zero, List.set_cons_succ])
            refine wpAnyH_done (by kernel_rfl) ?_ _
            have HB34 := Lib.hid hb34
            clear hb34 hb4 k0 k2 hHeld hHeld2 m0 m1 hEN
            have hcat : ((⟨#[102, 111, 114, 109, 97, 116, 32]⟩ : ByteArray) ++ DG).toList = wFormat ++ 32 :: Lib.decDigits N := by
              rw [ByteArray.toList_eq, HDG.out]
              simp [wFormat]
            have hXt : X.toList = X.data.toList := ByteArray.toList_eq X
            by_cases hl : wFormat ++ 32 :: Lib.decDigits N = X.data.toList
            · have hq : (!(((⟨#[102, 111, 114, 109, 97, 116, 32]⟩ : ByteArray) ++ DG).toList == X.toList)) = false := by rw [hcat, hXt, hl, beq_self_eq_true]; rfl
              have HLE := Lib.hid hl
              clear hcat hXt hl
              simp only [hq]
              go_wp2_with fail
              obtain ⟨q, hqq⟩ : ∃ q, q = headB (tab s) N := ⟨_, rfl⟩
              have hFM : FmsAt (· < w4.heap.size) w4 (.slice (some ⟨ub, 0, none⟩) (L + 1) cap) (tab s ++ [⟨N, []⟩]) := HT3.out.1.m.fms.below HB34.out
              refine (rright_head _ (tab s) N q w4 hFM (by have := HI.out.g.tab_len; omega) hqq.symm).mono ?_
              rintro e w5 ⟨rfl, hb5⟩
              have HB5 := Lib.hid (HB34.out.trans (hb5.mono HB34.out.size))
              have HRO : Hid (readO s (ps.getD k []) = if q then some ⟨tab s, ⟨N, []⟩⟩ else none) := Lib.hid (by
                have h := read_head_ok (l := X.data.toList) HI.out.g (by rw [HID.out]; exact HLE.out)
                rw [HID.out, ← hqq] at h
                rw [HXL.out]
                exact h)
              clear hFM hb5
              cases q with
              | true =>
                have hN1 : 1 ≤ N := by
                  have h := hqq.symm
                  unfold headB at h
                  simp at h
                  omega
                have ht : tab (⟨tab s, ⟨N, []⟩⟩ : St) = tab s ++ [⟨N, []⟩] := tab_some (by show (N : Int) ≠ 0; omega)
                have HN : Hid (PS w1 w5 ps (.slice (some ⟨ub, 0, none⟩) (L + 1) cap) (L + 1) (k + 1) ⟨tab s, ⟨N, []⟩⟩ R) := Lib.hid (by
                  refine HI.out.go (by rw [HPL.out]; omega) (by rw [HRO.out]; rfl) ?_ ⟨_, by rw [ht]; exact HT3.out.1.below HB5.out⟩ (by rw [ht, List.length_append, HI.out.l]; rfl)
                  exact HT3.out.2.trans (HB5.out.mono HT3.out.2.size))
                have hL6 : L + 1 ≤ 60 := by
                  have h1 := HN.out.g.tab_len
                  have h2 := HN.out.l
                  omega
                clear hqq ht
                go_wp2_with fail
                exact ⟨⟨k + 1, L + 1, some ⟨ub, 0, none⟩, cap, _, by omega, by go_num, rfl, hL6, HN⟩, by simp [intOf]; omega⟩
              | false =>
                have HRB : Hid (R = .bad (k + 1)) := Lib.hid (HI.out.stop (by rw [HPL.out]; omega) (by rw [HRO.out]; rfl))
                clear hqq
                go_wp2_with fail
                go_ret3
                exact bad_parse HRB.out rfl (HB1.out.trans ((HT3.out.2.trans (HB5.out.mono HT3.out.2.size)).mono HB1.out.size))
            · have hq : (!(((⟨#[102, 111, 114, 109, 97, 116, 32]⟩ : ByteArray) ++ DG).toList == X.toList)) = true := by rw [hcat, hXt, beq_eq_false_iff_ne.2 hl]; rfl
              have HRB : Hid (R = .bad (k + 1)) := Lib.hid (HI.out.stop (by rw [HPL.out]; omega) (by
                rw [HXL.out]
                exact read_head_bad HI.out.g HH.out.2 (by rw [HID.out]; exact hl)))
              clear hcat hXt hl
              simp only [hq]
              go_wp2_with fail
              go_ret3
              exact bad_parse HRB.out rfl (HB1.out.trans ((HT3.out.2.trans (HB34.out.mono HT3.out.2.size)).mono HB1.out.size))
        | false =>
          have hNH : ¬ isHead (sp 32 X.data.toList) := fun h => Bool.false_ne_true (HQ.out.2 h)
          obtain ⟨⟨gk, gn, gf, gt⟩, hf⟩ : ∃ f, f = fieldR (sp 32 X.data.toList) := ⟨_, rfl⟩
          have hfr : FR ⟨gk, gn, gf, gt⟩ := by rw [hf]; exact fieldR_fr _
          have HFR := Lib.hid (And.intro hfr (And.intro hf hNH))
          have HFD : Hid (Calls Tryz.prog 52 #[.slice (some ⟨pb, 0, none⟩) m pc] wc fun e w' => e = .returned (.agg #[.int .i64 gk, .int .i64 gn, .int .i64 gf, .string gt]) ∧ Below wq.heap.size wc w') := Lib.hid (by
            have h := rfield_any wq.heap.size _ ss wc HB2.out.size HFL.out.1 HFL.out.2.1 HFL.out.2.2.1
            rw [HFL.out.2.2.2, ← hf] at h
            exact h)
          have hgts : gt.size ≤ 17 := hfr.t
          have HLI : Hid (∀ W : World, Calls Tryz.prog 42 #[.agg #[.int .i64 gk, .int .i64 gn, .int .i64 gf, .string gt]] W fun e w' => e = .returned (.string (bs (lineF ⟨gk, gn, gf, gt⟩))) ∧ Below W.heap.size W w') := Lib.hid fun W => by
            have h0 := hfr.n0
            have h1 := hfr.n1
            have h2 := hfr.f0
            have h3 := hfr.f1
            exact rLine_any gk gn gf gt W ⟨hfr.k1, hfr.k6⟩ ⟨h0, by show gn ≤ _; have h1 : gn < 100000000 := h1; omega⟩ ⟨h2, by show gf ≤ _; have h3 : gf < 100000000 := h3; omega⟩ (by omega) hfr.f45
          clear hq0 hNH hfr hf tl
          go_wp2_with fail
          refine HFD.out.mono ?_
          rintro e w3 ⟨rfl, hb3⟩
          have hb03 : Below wq.heap.size wq w3 := HB2.out.trans hb3
          have HB3 := Lib.hid hb03
          clear hb03 hb3
          go_wp2_with fail
          obtain ⟨w4, hw4⟩ : ∃ W', W' = w3.alloc (.cells #[.int .i64 gk, .int .i64 gn, .int .i64 gf, .string gt] 56) := ⟨_, rfl⟩
          rw [← hw4]
          have hb4 : Below wq.heap.size wq w4 := by rw [hw4]; exact HB3.out.alloc HB3.out.size _
          have hF4 : w4.heap[w3.heap.size]? = some (.cells (fldCs ⟨gk, gn, gf, gt⟩) 56 (0, 0)) := by rw [hw4]; exact heap_alloc_new _ _
          have HB4 := Lib.hid (And.intro hb4 hF4)
          have x0 : w4.cell? ⟨w3.heap.size, 0, none⟩ = some (.int .i64 gk) := cell_of_row _ _ _ _ _ _ hF4
          have x1 : w4.cell? ⟨w3.heap.size, 1, none⟩ = some (.int .i64 gn) := cell_of_row _ _ _ _ _ _ hF4
          have x2 : w4.cell? ⟨w3.heap.size, 2, none⟩ = some (.int .i64 gf) := cell_of_row _ _ _ _ _ _ hF4
          have x3 : w4.cell? ⟨w3.heap.size, 3, none⟩ = some (.string gt) := cell_of_row _ _ _ _ _ _ hF4
          have k2 : w4.cell? ⟨lb, k, none⟩ = some (.string X) := (hb4.cell (p := ⟨lb, k, none⟩) (World.block_lt_of_cell? (h := q))).trans q
          clear hw4 hb4 hF4
          have hk3 : 0 ≤ (k : Int) ∧ (k : Int) < (n : Int) + 1 := by omega
          by_cases hL0 : L = 0
          · have hz : ((L : Int) == 0) = true := by rw [beq_iff_eq]; omega
            have HRB : Hid (R = .bad (k + 1)) := Lib.hid (HI.out.stop (by rw [HPL.out]; omega) (by
              rw [HXL.out]
              exact read_field_bad HI.out.g HFR.out.2.2 (.inl (List.eq_nil_of_length_eq_zero (by rw [HI.out.l]; exact hL0)))))
            clear hL0
            refine wp_region_quiet_below (by kernel_rfl) (by kernel_rfl) ?_
            repeat (first | go_big_quiet_step (fail) | quiet_step (fail))
            refine wpQuiet_nil ?_
            intro _ hw'
            obtain ⟨⟨dq, osq⟩, hw''⟩ := hw'
            subst hw''
            go_wp2_with fail
            go_ret3
            exact bad_parse HRB.out rfl (HB1.out.trans ((HI.out.b.trans ((HB4.out.1.trans ((below_regrown _ _ _).mono HB4.out.1.size)).mono HI.out.b.size)).mono HB1.out.size))
          · have hz : ((L : Int) == 0) = false := by rw [beq_eq_false_iff_ne]; omega
            have hEN : ∀ (args : Array Value) (w : World), (callFunc 42 args).run Tryz.prog w = .ok (.enter 42 args) w := enters_of Tryz.func42 (by kernel_rfl) (by kernel_rfl)
            obtain ⟨LN, hLN⟩ : ∃ LN, LN = bs (lineF ⟨gk, gn, gf, gt⟩) := ⟨_, rfl⟩
            rw [← hLN] at HLI
            have HLN := Lib.hid hLN
            clear hLN
            refine wp_region_held_drew (S := fun w' => w'.cell? ⟨w3.heap.size, 0, none⟩ = some (.int .i64 gk) ∧ w'.cell? ⟨w3.heap.size, 1, none⟩ = some (.int .i64 gn) ∧ w'.cell? ⟨w3.heap.size, 2, none⟩ = some (.int .i64 gf) ∧ w'.cell? ⟨w3.heap.size, 3, none⟩ = some (.string gt) ∧ w'.cell? ⟨lb, k, none⟩ = some (.string X)) (by kernel_rfl) ⟨x0, x1, x2, x3, k2⟩ (fun hHeld => ?_)
            refine wpAnyH_take (i := 0) (oi := ?o201) (v := ?v201) ?h201 ?a201 ?b201 ?c201 ?q201 (Or.inl ⟨?g201, ?y201⟩) ?s201 ?r201
            case h201 => (simp only [List.getElem?_toArray, List.getElem?_cons_zero]; rfl)
            case a201 => kernel_rfl
            case b201 => kernel_rfl
            case c201 => kernel_rfl
            case q201 => exact fun _ _ _ h => h
            case g201 => rfl
            case y201 => (intro wS hSw; obtain ⟨y0, y1, y2, y3, y4⟩ := hSw; go_simp; (try with_reducible rfl))
            case s201 => assumption
            (try simp only [Act.put, List.setIfInBounds_toArray, List.set_cons_zero, List.set_cons_succ])
            refine wpAnyH_take (i := 1) (oi := ?o202) (v := ?v202) ?h202 ?a202 ?b202 ?c202 ?q202 (Or.inl ⟨?g202, ?y202⟩) ?s202 ?r202
            case h202 => (simp only [List.getElem?_toArray, List.getElem?_cons_zero, List.getElem?_cons_succ]; rfl)
            case a202 => kernel_rfl
            case b202 => kernel_rfl
            case c202 => kernel_rfl
            case q202 => exact fun _ _ _ h => h
            case g202 => rfl
            case y202 => (intro wS hSw; obtain ⟨y0, y1, y2, y3, y4⟩ := hSw; go_simp; (try with_reducible rfl))
            case s202 => assumption
            (try simp only [Act.put, List.setIfInBounds_toArray, List.set_cons_zero, List.set_cons_succ])
            refine wpAnyH_take (i := 2) (oi := ?o203) (v := ?v203) ?h203 ?a203 ?b203 ?c203 ?q203 (Or.inl ⟨?g203, ?y203⟩) ?s203 ?r203
            case h203 => (simp only [List.getElem?_toArray, List.getElem?_cons_zero, List.getElem?_cons_succ]; rfl)
            case a203 => kernel_rfl
            case b203 => kernel_rfl
            case c203 => kernel_rfl
            case q203 => exact fun _ _ _ h => h
            case g203 => rfl
            case y203 => (intro wS hSw; obtain ⟨y0, y1, y2, y3, y4⟩ := hSw; go_simp; (try with_reducible rfl))
            case s203 => assumption
            (try simp only [Act.put, List.setIfInBounds_toArray, List.set_cons_zero, List.set_cons_succ])
            refine wpAnyH_take (i := 3) (oi := ?o204) (v := ?v204) ?h204 ?a204 ?b204 ?c204 ?q204 (Or.inl ⟨?g204, ?y204⟩) ?s204 ?r204
            case h204 => (simp only [List.getElem?_toArray, List.getElem?_cons_zero, List.getElem?_cons_succ]; rfl)
            case a204 => kernel_rfl
            case b204 => kernel_rfl
            case c204 => kernel_rfl
            case q204 => exact fun _ _ _ h => h
            case g204 => rfl
            case y204 => (intro wS hSw; obtain ⟨y0, y1, y2, y3, y4⟩ := hSw; go_simp; (try with_reducible rfl))
            case s204 => assumption
            (try simp only [Act.put, List.setIfInBounds_toArray, List.set_cons_zero, List.set_cons_succ])
            refine wpAnyH_take (i := 4) (oi := ?o205) (v := ?v205) ?h205 ?a205 ?b205 ?c205 ?q205 (Or.inl ⟨?g205, ?y205⟩) ?s205 ?r205
            case h205 => (simp only [List.getElem?_toArray, List.getElem?_cons_zero, List.getElem?_cons_succ]; rfl)
            case a205 => kernel_rfl
            case b205 => kernel_rfl
            case c205 => kernel_rfl
            case q205 => exact fun _ _ _ h => h
            case g205 => rfl
            case y205 => (intro wS hSw; obtain ⟨y0, y1, y2, y3, y4⟩ := hSw; go_simp; (try with_reducible rfl))
            case s205 => assumption
            (try simp only [Act.put, List.setIfInBounds_toArray, List.set_cons_zero, List.set_cons_succ])
            refine wpAnyH_take (i := 6) (oi := ?o206) (v := ?v206) ?h206 ?a206 ?b206 ?c206 ?q206 (Or.inl ⟨?g206, ?y206⟩) ?s206 ?r206
            case h206 => (simp only [List.getElem?_toArray, List.getElem?_cons_zero, List.getElem?_cons_succ]; rfl)
            case a206 => kernel_rfl
            case b206 => kernel_rfl
            case c206 => kernel_rfl
            case q206 => exact fun _ _ _ h => h
            case g206 => rfl
            case y206 => (intro wS hSw; obtain ⟨y0, y1, y2, y3, y4⟩ := hSw; go_simp; (try with_reducible rfl))
            case s206 => assumption
            (try simp only [Act.put, List.setIfInBounds_toArray, List.set_cons_zero, List.set_cons_succ])
            refine wpAnyH_take (i := 7) (oi := ?o207) (v := ?v207) ?h207 ?a207 ?b207 ?c207 ?q207 (Or.inl ⟨?g207, ?y207⟩) ?s207 ?r207
            case h207 => (simp only [List.getElem?_toArray, List.getElem?_cons_zero, List.getElem?_cons_succ]; rfl)
            case a207 => kernel_rfl
            case b207 => kernel_rfl
            case c207 => kernel_rfl
            case q207 => exact fun _ _ _ h => h
            case g207 => rfl
            case y207 => (intro wS hSw; obtain ⟨y0, y1, y2, y3, y4⟩ := hSw; go_simp; (try with_reducible rfl))
            case s207 => assumption
            (try simp only [Act.put, List.setIfInBounds_toArray, List.set_cons_zero, List.set_cons_succ])
            refine wpAnyH_take (i := 8) (oi := ?o208) (v := ?v208) ?h208 ?a208 ?b208 ?c208 ?q208 (Or.inl ⟨?g208, ?y208⟩) ?s208 ?r208
            case h208 => (simp only [List.getElem?_toArray, List.getElem?_cons_zero, List.getElem?_cons_succ]; rfl)
            case a208 => kernel_rfl
            case b208 => kernel_rfl
            case c208 => kernel_rfl
            case q208 => exact fun _ _ _ h => h
            case g208 => rfl
            case y208 => (intro wS hSw; obtain ⟨y0, y1, y2, y3, y4⟩ := hSw; go_simp; (try with_reducible rfl))
            case s208 => assumption
            (try simp only [Act.put, List.setIfInBounds_toArray, List.set_cons_zero, List.set_cons_succ])
            refine wpAnyH_take (i := 9) (oi := ?o209) (v := ?v209) ?h209 ?a209 ?b209 ?c209 ?q209 (Or.inl ⟨?g209, ?y209⟩) ?s209 ?r209
            case h209 => (simp only [List.getElem?_toArray, List.getElem?_cons_zero, List.getElem?_cons_succ]; rfl)
            case a209 => kernel_rfl
            case b209 => kernel_rfl
            case c209 => kernel_rfl
            case q209 => exact fun _ _ _ h => h
            case g209 => rfl
            case y209 => (intro wS hSw; obtain ⟨y0, y1, y2, y3, y4⟩ := hSw; go_simp; (try with_reducible rfl))
            case s209 => assumption
            (try simp only [Act.put, List.setIfInBounds_toArray, List.set_cons_zero, List.set_cons_succ])
            refine wpAnyH_ready (rs := [5]) (by kernel_rfl) (by simp) ?_
            refine AllReadyH.cons (o := ?oB210) ?hB210 ?kB210 AllReadyH.nil
            case hB210 => (simp only [List.getElem?_toArray, List.getElem?_cons_zero, List.getElem?_cons_succ]; rfl)
            case kB210 =>
              intro K hK
              go_simp
              refine (HLI.out _).mono ?_
              rintro e w5 ⟨rfl, hb5⟩
              dsimp only
              have hb45 : Below w4.heap.size w4 w5 := (Below.refl _ w4).drew.trans hb5
              have B := fun (p : Addr) (v : Value) (h : w4.cell? p = some v) => (hb45.cell (p := p) (World.block_lt_of_cell? (h := h))).trans h
              refine hK.out _ _ ⟨B _ _ x0, B _ _ x1, B _ _ x2, B _ _ x3, B _ _ k2⟩ (fun hHeld2 => ?_)
              clear B
              clear hK K
              (try simp only [Act.put, List.setIfInBounds_toArray, List.set_cons_zero, List.set_cons_succ])
              refine wpAnyH_take (i := 10) (oi := ?o211) (v := ?v211) ?h211 ?a211 ?b211 ?c211 ?q211 (Or.inl ⟨?g211, ?y211⟩) ?s211 ?r211
              case h211 => (simp only [List.getElem?_toArray, List.getElem?_cons_zero, List.getElem?_cons_succ]; rfl)
              case a211 => kernel_rfl
              case b211 => kernel_rfl
              case c211 => kernel_rfl
              case q211 => exact fun _ _ _ h => h
              case g211 => rfl
              case y211 => (intro wS hSw; obtain ⟨y0, y1, y2, y3, y4⟩ := hSw; go_simp; (try with_reducible rfl))
              case s211 => assumption
              (try simp only [Act.put, List.setIfInBounds_toArray, List.set_cons_zero, List.set_cons_succ])
              refine wpAnyH_take (i := 11) (oi := ?o212) (v := ?v212) ?h212 ?a212 ?b212 ?c212 ?q212 (Or.inl ⟨?g212, ?y212⟩) ?s212 ?r212
              case h212 => (simp only [List.getElem?_toArray, List.getElem?_cons_zero, List.getElem?_cons_succ]; rfl)
              case a212 => kernel_rfl
              case b212 => kernel_rfl
              case c212 => kernel_rfl
              case q212 => exact fun _ _ _ h => h
              case g212 => rfl
              case y212 => (intro wS hSw; obtain ⟨y0, y1, y2, y3, y4⟩ := hSw; go_simp; (try with_reducible rfl))
              case s212 => assumption
              (try simp only [Act.put, List.setIfInBounds_toArray, List.set_cons_zero, List.set_cons_succ])
              refine wpAnyH_done (by kernel_rfl) ?_ _
              have HB45 := Lib.hid hb45
              clear hb45 hb5 x0 x1 x2 x3 k2 hHeld hHeld2 hEN
              have hLt : LN.toList = lineF ⟨gk, gn, gf, gt⟩ := by rw [ByteArray.toList_eq, HLN.out]
              have hXt : X.toList = X.data.toList := ByteArray.toList_eq X
              by_cases hl : lineF ⟨gk, gn, gf, gt⟩ = X.data.toList
              · have hq : (!(LN.toList == X.toList)) = false := by rw [hLt, hXt, hl, beq_self_eq_true]; rfl
                have HLE := Lib.hid hl
                clear hLt hXt hl
                simp only [hq]
                have hid := tab_ne HI.out.g (fun h => hL0 (by rw [← HI.out.l, h]; rfl))
                have ht := tab_some hid
                obtain ⟨vs, hT⟩ := HI.out.t
                rw [ht] at hT
                obtain ⟨ub, cap, vd, xa, xc, e1, rfl, hvd, ub1, ub2, cap1, cap2, -, k1, krow⟩ := hT.last
                obtain ⟨j, hj⟩ : ∃ j, j = s.d.length := ⟨_, rfl⟩
                have hLj : j + 1 = L := by have h := HI.out.l; rw [ht] at h; rw [hj]; simpa using h
                rw [← hj] at e1 cap1 k1
                rw [hLj] at e1 cap1
                cases e1
                obtain ⟨M, hM⟩ : ∃ M, M = s.o.fs.length := ⟨_, rfl⟩
                rw [← hM] at k1 krow
                have hM16 : M ≤ 16 := by rw [hM]; exact HI.out.g.few
                have hb5q : Below wq.heap.size wq w5 := HB4.out.1.trans (HB45.out.mono HB4.out.1.size)
                have k15 : w5.cell? ⟨ub, j * 2 + 1, none⟩ = some (.slice xa M xc) := (hb5q.cell (p := ⟨ub, j * 2 + 1, none⟩) ub2).trans k1
                have hF5 := (HB45.out.block _ (lt_of_heap HB4.out.2)).trans HB4.out.2
                have x0 : w5.cell? ⟨w3.heap.size, 0, none⟩ = some (.int .i64 gk) := cell_of_row _ _ _ _ _ _ hF5
                have x1 : w5.cell? ⟨w3.heap.size, 1, none⟩ = some (.int .i64 gn) := cell_of_row _ _ _ _ _ _ hF5
                have x2 : w5.cell? ⟨w3.heap.size, 2, none⟩ = some (.int .i64 gf) := cell_of_row _ _ _ _ _ _ hF5
                have x3 : w5.cell? ⟨w3.heap.size, 3, none⟩ = some (.string gt) := cell_of_row _ _ _ _ _ _ hF5
                have HR5 := Lib.hid (ownsRow_below krow hb5q)
                have HT5 : Hid (OwnT w5 w1.heap.size (.slice (some ⟨ub, 0, none⟩) L c) (s.d ++ [s.o]) (vd ++ [.slice xa M xc])) := Lib.hid (by rw [hM]; exact hT.below hb5q)
                have HK : Hid (∀ W v1 w9, Below w5.heap.size w5 W → Grew W w9 0 56 4 (.slice xa M xc) v1 (M + 1) (flat s.o.fs ++ fldC ⟨gk, gn, gf, gt⟩) → (∃ a1 c1, v1 = .slice a1 (M + 1) c1) ∧ (∃ z, w9.cell? ⟨ub, j * 2 + 1, none⟩ = some z) ∧ w9.frozen? ⟨ub, j * 2 + 1, none⟩ = false ∧ OwnT (w9.setCell ⟨ub, j * 2 + 1, none⟩ v1) w1.heap.size (.slice (some ⟨ub, 0, none⟩) L c) (s.d ++ [⟨s.o.id, s.o.fs ++ [⟨gk, gn, gf, gt⟩]⟩]) (vd ++ [v1]) ∧ Below w1.heap.size w1 (w9.setCell ⟨ub, j * 2 + 1, none⟩ v1)) := Lib.hid fun W v1 w9 hb hG => by
                  subst hLj
                  subst hM
                  obtain ⟨h1, h2, h3, h4, h5⟩ := OwnT.snoc_fld (id := s.o.id) (fs := s.o.fs) HT5.out hj.symm (Nat.le_trans HI.out.b.size hb5q.size) hb hG
                  exact ⟨h1, h2, h3, h4, (HI.out.b.trans (hb5q.mono HI.out.b.size)).trans h5⟩
                have HTS := Lib.hid (And.intro ht (And.intro hid (And.intro hj (And.intro hM hLj))))
                have hjl : (L : Int) - 1 = j := by omega
                have hj0 : 0 ≤ (j : Int) ∧ (j : Int) < (L : Int) := by omega
                have hjL : j < L := by omega
                unfold maxLen at cap2
                have HB5 := Lib.hid hb5q
                clear hid ht hT krow hj hM k1 hb5q hF5 hvd hLj
                go_wp2_with fail
                have lub : ub < w5.heap.size := World.block_lt_of_cell? (h := k15)
                have lfb : w3.heap.size < w5.heap.size := World.block_lt_of_cell? (h := x0)
                go_region_law (refine step_append_fld rfl (.tmp 85) (.tmp 87) rfl (.slice xa M xc) M (flat s.o.fs) rfl (ownsRow_lower (ownsRow_below HR5.out (bx _).drew) (Nat.zero_le _)) (by omega) _ ⟨gk, gn, gf, gt⟩ rfl (heap_alloc_new _ _) ?_; intro v1 w9 hG; obtain ⟨⟨a1, cc1, rfl⟩, ⟨z, g35⟩, g35z, hTN, hBN⟩ := HK.out _ _ _ (bx _).drew hG)
                all_goals
                  obtain ⟨WN, hWN⟩ : ∃ W', W' = w9.setCell ⟨ub, j * 2 + 1, none⟩ (.slice a1 (M + 1) cc1) := ⟨_, rfl⟩
                  rw [← hWN] at hTN hBN ⊢
                  have HTN := Lib.hid (And.intro hTN hBN)
                  clear hTN hBN hWN hG g35 g35z x0 x1 x2 x3 k15
                  go_wp2_with fail
                  obtain ⟨qq, hqq⟩ : ∃ q, q = fieldB s ⟨gk, gn, gf, gt⟩ := ⟨_, rfl⟩
                  refine (rright_field _ s.d s.o.id s.o.fs ⟨gk, gn, gf, gt⟩ qq WN HTN.out.1.m.fms HI.out.g.pre ((HI.out.g.ints_o HTS.out.2.1).snoc HFR.out.1.ints) (by have := HI.out.g.pre.few; omega) HI.out.g.few HI.out.g.each hqq.symm).mono ?_
                  rintro e w10 ⟨rfl, hb10⟩
                  have HB10 := Lib.hid hb10
                  have HRO : Hid (readO s (ps.getD k []) = if qq then some ⟨s.d, ⟨s.o.id, s.o.fs ++ [⟨gk, gn, gf, gt⟩]⟩⟩ else none) := Lib.hid (by
                    have h := read_field_ok (l := X.data.toList) HI.out.g (by rw [HTS.out.1]; simp) (by rw [← HFR.out.2.1]; exact HLE.out)
                    rw [← HFR.out.2.1, ← hqq] at h
                    rw [HXL.out]
                    exact h)
                  clear hb10 hqq
                  cases qq with
                  | true =>
                    have HN : Hid (PS w1 w10 ps (.slice (some ⟨ub, 0, none⟩) L c) L (k + 1) ⟨s.d, ⟨s.o.id, s.o.fs ++ [⟨gk, gn, gf, gt⟩]⟩⟩ R) := Lib.hid (by
                      have ht2 : tab (⟨s.d, ⟨s.o.id, s.o.fs ++ [⟨gk, gn, gf, gt⟩]⟩⟩ : St) = s.d ++ [⟨s.o.id, s.o.fs ++ [⟨gk, gn, gf, gt⟩]⟩] := tab_some HTS.out.2.1
                      refine HI.out.go (by rw [HPL.out]; omega) (by rw [HRO.out]; rfl) ?_ ⟨_, by rw [ht2]; exact HTN.out.1.below HB10.out⟩ (by rw [ht2, List.length_append, ← HTS.out.2.2.2.2, HTS.out.2.2.1]; rfl)
                      exact HTN.out.2.trans (HB10.out.mono HTN.out.2.size))
                    go_wp2_with fail
                    exact ⟨⟨k + 1, L, some ⟨ub, 0, none⟩, c, _, by omega, by go_num, rfl, hL, HN⟩, by simp [intOf]; omega⟩
                  | false =>
                    have HRB : Hid (R = .bad (k + 1)) := Lib.hid (HI.out.stop (by rw [HPL.out]; omega) (by rw [HRO.out]; rfl))
                    go_wp2_with fail
                    go_ret3
                    exact bad_parse HRB.out rfl (HB1.out.trans ((HTN.out.2.trans (HB10.out.mono HTN.out.2.size)).mono HB1.out.size))
              · have hq : (!(LN.toList == X.toList)) = true := by rw [hLt, hXt, beq_eq_false_iff_ne.2 hl]; rfl
                have HRB : Hid (R = .bad (k + 1)) := Lib.hid (HI.out.stop (by rw [HPL.out]; omega) (by
                  rw [HXL.out]
                  exact read_field_bad HI.out.g HFR.out.2.2 (.inr (by rw [← HFR.out.2.1]; exact hl))))
                clear hLt hXt hl
                simp only [hq]
                go_wp2_with fail
                go_ret3
                exact bad_parse HRB.out rfl (HB1.out.trans ((HI.out.b.trans ((HB4.out.1.trans (HB45.out.mono HB4.out.1.size)).mono HI.out.b.size)).mono HB1.out.size))
    · obtain rfl : k = n := by omega
      obtain ⟨vs, hT⟩ := HI.out.t
      have hFM : FmsAt (· < wq.heap.size) wq (.slice a L c) (tab s) := hT.m.fms
      have HFM := Lib.hid hFM
      obtain ⟨V, hV⟩ : ∃ V, V = vd (tab s) := ⟨_, rfl⟩
      have HVA : Hid (Calls Tryz.prog 22 #[.slice a L c] wq fun e w' => e = .returned (.bool V) ∧ Below wq.heap.size wq w') := Lib.hid (rValid_any _ (tab s) V wq hFM HI.out.g.ints (by have := HI.out.g.tab_len; omega) hV.symm)
      obtain ⟨X, hX⟩ : ∃ X, X = lss.getD k ⟨#[]⟩ := ⟨_, rfl⟩
      have q : wq.cell? ⟨lb, k, none⟩ = some (.string X) := by rw [hX]; exact (HI.out.b.cell (p := ⟨lb, k, none⟩) ll).trans (HL.out k (by omega))
      have hR : parseL s [X.data.toList] (k + 1) = R := by
        have e : ps.drop k = ps.getD k [] :: ps.drop (k + 1) := drop_get [] (by rw [HPL.out]; omega)
        have e2 : ps.drop (k + 1) = [] := List.drop_eq_nil_of_le (by rw [HPL.out]; omega)
        have h := HI.out.rd
        rw [e, e2, HPG.out k, ← hX] at h
        exact h
      have hE : (endO s).isSome = V := by rw [hV]; exact (end_valid HI.out.g).symm
      have hXl : X.data.toList.length = X.size := by simp
      have HRR : Hid ((V = false ∨ X.size ≠ 0 → R = .bad (k + 1)) ∧ (V = true → X.size = 0 → ∃ s1, R = .ok s1 ∧ s1.d = tab s)) := Lib.hid (by
        unfold parseL at hR
        constructor
        · intro h
          by_cases hx : X.data.toList = []
          · rw [if_pos hx] at hR
            rw [hx] at hXl
            rcases h with h | h
            · rw [h] at hE
              cases he : endO s with
              | none => rw [he] at hR; exact hR.symm
              | some s1 => rw [he] at hE; cases hE
            · exact absurd hXl.symm h
          · rw [if_neg hx] at hR; exact hR.symm
        · intro h1 h2
          have hx : X.data.toList = [] := List.eq_nil_of_length_eq_zero (by omega)
          rw [if_pos hx] at hR
          rw [h1] at hE
          cases he : endO s with
          | none => rw [he] at hE; cases hE
          | some s1 => rw [he] at hR; exact ⟨s1, hR.symm, endO_tab he⟩)
      clear hT hFM hV hX hR hE hXl
      have hk3 : 0 ≤ (k : Int) ∧ (k : Int) < (k : Int) + 1 := by omega
      go_wp2_with fail
      refine HVA.out.mono ?_
      rintro e w2 ⟨rfl, hb2⟩
      have q2 : w2.cell? ⟨lb, k, none⟩ = some (.string X) := (hb2.cell (p := ⟨lb, k, none⟩) (World.block_lt_of_cell? (h := q))).trans q
      have HB2 := Lib.hid (And.intro (HB1.out.trans ((HI.out.b.trans (hb2.mono HI.out.b.size)).mono HB1.out.size)) (HFM.out.below hb2))
      clear hb2 q HVA
      cases V with
      | false =>
        have HRB : Hid (R = .bad (k + 1)) := Lib.hid (HRR.out.1 (.inl (by trivial)))
        go_wp2_with fail
        go_ret3
        exact bad_parse HRB.out rfl HB2.out.1
      | true =>
        by_cases hx : X.size = 0
        · obtain ⟨d2, d3⟩ := emp_of hx
          obtain ⟨s1, hR1, hs1⟩ := HRR.out.2 (by trivial) hx
          have HR1 := Lib.hid (And.intro hR1 hs1)
          clear hx hR1 hs1
          go_wp2_with fail
          go_ret3
          unfold ParsePost
          rw [HR1.out.1]
          exact ⟨⟨.slice a L c, rfl, by rw [HR1.out.2]; exact HB2.out.2⟩, HB2.out.1⟩
        · obtain ⟨d2, d3⟩ := emp_not hx
          have HRB : Hid (R = .bad (k + 1)) := Lib.hid (HRR.out.1 (.inr hx))
          clear hx
          go_wp2_with fail
          go_ret3
          exact bad_parse HRB.out rfl HB2.out.1
end RefZ
end Go.Proofs.YtcnokccgdiodlaaGreatDoor
