/- Plain facts for the laws on texts: a valid table is read again from its text; what is read is valid, and has the text that was read; a line's being right depends on the lines up to it. No condition of its own. The law's examples: what Parse, Print, Find, Least, Valid and Same say of them. Conditions: what the functions of texts read of memory. Plain facts for the laws on tables: the first formats, those that one names, and least lengths that add up. No condition of its own. The law's examples come out as the chapter says: sane returns true. Conditions: what the functions of texts read of memory. And the law's pick. -/
import Derived.Test.YtcnokccgdiodlaaGreatDoorFmtText
import Derived.Test.YtcnokccgdiodlaaGreatDoorRefPlain
import Derived.Test.YtcnokccgdiodlaaGreatDoorFmtZa
import Derived.Test.YtcnokccgdiodlaaGreatDoorFmtZc
import Derived.Test.YtcnokccgdiodlaaGreatDoorFmtZe
import Derived.Test.YtcnokccgdiodlaaGreatDoorRefH
import Derived.Test.YtcnokccgdiodlaaGreatDoorRefF
namespace Go.Proofs.YtcnokccgdiodlaaGreatDoor
section LawText
namespace Fx
open Go.Lib (itoa)

/-- Lines, read one after another. -/
def reads : St → List (List UInt8) → Option St
  | s, [] => some s
  | s, p :: ps => (readO s p).bind fun s1 => reads s1 ps
theorem reads_append : ∀ (a b : List (List UInt8)) (s : St), reads s (a ++ b) = (reads s a).bind fun s1 => reads s1 b
  | [], b, s => rfl
  | p :: a, b, s => by
    rw [List.cons_append, reads, reads]
    cases readO s p with
    | none => rfl
    | some s1 => exact reads_append a b s1
def linesM (m : Fm) : List (List UInt8) := heading m.id :: m.fs.map lineF
def linesL (l : List Fm) : List (List UInt8) := l.flatMap linesM
theorem linesL_append (a b : List Fm) : linesL (a ++ b) = linesL a ++ linesL b := by unfold linesL; exact List.flatMap_append
theorem linesL_one (m : Fm) : linesL [m] = linesM m := by simp [linesL]
/-- Lines, each with its newline. -/
def put (ps : List (List UInt8)) : List UInt8 := ps.flatMap fun p => p ++ [10]
theorem put_append (a b : List (List UInt8)) : put (a ++ b) = put a ++ put b := by unfold put; exact List.flatMap_append
theorem put_cons (p : List UInt8) (b : List (List UInt8)) : put (p :: b) = p ++ 10 :: put b := by unfold put; simp
theorem put_fields : ∀ fs : List Fld, put (fs.map lineF) = textF fs
  | [] => rfl
  | f :: t => by
    rw [List.map_cons, put_cons, put_fields t]
    simp [textF]
theorem put_lines : ∀ l : List Fm, put (linesL l) = text l
  | [] => rfl
  | m :: t => by
    have e : linesL (m :: t) = linesM m ++ linesL t := by simp [linesL]
    rw [e, put_append, put_lines t]
    unfold linesM
    rw [put_cons, put_fields]
    simp [text, textM]
theorem sp_put : ∀ {ps : List (List UInt8)} {r : List UInt8}, (∀ p ∈ ps, ∀ x ∈ p, x ≠ (10 : UInt8)) → sp 10 (put ps ++ r) = ps ++ sp 10 r
  | [], r, _ => rfl
  | p :: ps, r, h => by
    rw [put_cons, List.append_assoc, List.cons_append, sp_here (h p (by simp)), sp_put fun q hq => h q (List.mem_cons_of_mem _ hq)]
    rfl
theorem no10_of {l : List UInt8} (h : ∀ c ∈ l, 32 ≤ c.toNat) : ∀ x ∈ l, x ≠ (10 : UInt8) := ne_of_ge h (by decide)
theorem itoa_32 (n : Int) : ∀ c ∈ itoa n, 32 ≤ c.toNat := fun c hc => by have := (itoa_mem n c hc).1; omega
theorem word_32 (k : Int) : ∀ c ∈ wordK k, 32 ≤ c.toNat := fun c hc => by have := wordK_mem c hc; omega
theorem heading_no10 (id : Int) : ∀ x ∈ heading id, x ≠ (10 : UInt8) := by
  refine no10_of fun c hc => ?_
  unfold heading at hc
  rcases List.mem_append.1 hc with h | h
  · have := wFormat_mem c h; omega
  · rcases List.mem_cons.1 h with rfl | h
    · decide
    · exact itoa_32 _ _ h
theorem from_32 (n : Int) : ∀ c ∈ wFrom ++ 32 :: itoa n, 32 ≤ c.toNat := fun c hc => by
  rcases List.mem_append.1 hc with h | h
  · have := wFrom_mem c h; omega
  · rcases List.mem_cons.1 h with rfl | h
    · decide
    · exact itoa_32 _ _ h
theorem lineF_no10 (f : Fld) : ∀ x ∈ lineF f, x ≠ (10 : UInt8) := by
  refine no10_of fun c hc => ?_
  unfold lineF at hc
  rcases List.mem_append.1 hc with h | h
  · exact word_32 _ _ h
  · rcases List.mem_cons.1 h with rfl | h
    · decide
    · unfold writeF at h
      split at h
      · have := hex_mem _ c h; omega
      · split at h
        · split at h
          · exact itoa_32 _ _ h
          · exact from_32 _ _ h
        · split at h
          · rcases List.mem_append.1 h with h | h
            · exact itoa_32 _ _ h
            · rcases List.mem_cons.1 h with rfl | h
              · decide
              · exact from_32 _ _ h
          · exact itoa_32 _ _ h
theorem linesL_no10 (l : List Fm) : ∀ p ∈ linesL l, ∀ x ∈ p, x ≠ (10 : UInt8) := by
  intro p hp
  unfold linesL at hp
  obtain ⟨m, _, hp⟩ := List.mem_flatMap.1 hp
  rcases List.mem_cons.1 hp with rfl | hp
  · exact heading_no10 _
  · obtain ⟨f, _, rfl⟩ := List.mem_map.1 hp
    exact lineF_no10 f

/-- A field that its line gives again. -/
def CG (f : Fld) : Prop := Canon f ∧ 1 ≤ f.kind ∧ f.kind ≤ 6 ∧ f.n.natAbs ≤ 1000000000 ∧ f.frm.natAbs ≤ 1000000000
theorem readO_line {s : St} {f : Fld} (h : CG f) : readO s (lineF f) = addO s f := by
  unfold readO
  rw [itemD_lineF h.1 h.2.1 h.2.2.1 h.2.2.2.1 h.2.2.2.2 (fun _ _ => trivial)]
  rfl
theorem readO_head {s : St} {id : Int} (h : id.natAbs ≤ 1000000000) : readO s (heading id) = beginO s id := by
  unfold readO
  rw [itemD_heading h]
  rfl
theorem reads_fields : ∀ {fs : List Fld} {s : St} {r : List (List UInt8)}, (∀ f ∈ fs, CG f) → reads s (fs.map lineF ++ r) = (addL s fs).bind fun s1 => reads s1 r
  | [], s, r, _ => rfl
  | f :: t, s, r, h => by
    rw [List.map_cons, List.cons_append, reads, readO_line (h f (by simp)), addL]
    cases addO s f with
    | none => rfl
    | some s1 => exact reads_fields fun g hg => h g (List.mem_cons_of_mem _ hg)
theorem reads_all : ∀ {l : List Fm} {s : St}, (∀ m ∈ l, m.id.natAbs ≤ 1000000000 ∧ ∀ f ∈ m.fs, CG f) → (reads s (linesL l)).bind endO = runL s l
  | [], s, _ => rfl
  | m :: t, s, h => by
    have e : linesL (m :: t) = heading m.id :: (m.fs.map lineF ++ linesL t) := by simp [linesL, linesM]
    rw [e, reads, readO_head (h m (by simp)).1, runL]
    cases beginO s m.id with
    | none => rfl
    | some s1 =>
      simp only [Option.bind_some]
      rw [reads_fields (h m (by simp)).2]
      cases addL s1 m.fs with
      | none => rfl
      | some s2 => exact reads_all fun x hx => h x (List.mem_cons_of_mem _ hx)
theorem right_cg {m : List (Int × Int)} {fs : List Fld} {f : Fld} (hs : Small m) (hl : fs.length ≤ 16) (h : right m fs f = true) : CG f := by
  obtain ⟨a, b, c, d, e, g, i, _⟩ := right_canon hs hl h
  exact ⟨a, b, c, by omega, by omega⟩
theorem FmOk.cg {d : List Fm} {f : Fm} (hd : Ok d) (h : FmOk d f) : f.id.natAbs ≤ 1000000000 ∧ ∀ g ∈ f.fs, CG g := by
  have h1 := h.lo
  have h2 := h.hi
  refine ⟨by omega, fun g hg => ?_⟩
  obtain ⟨k, hk, rfl⟩ := List.getElem_of_mem hg
  have hr := h.each k hk
  have := right_cg hd.small (by have := h.few; rw [List.length_take]; omega) hr
  simpa [List.getD, List.getElem?_eq_getElem hk] using this
theorem Ok.cg {l : List Fm} (h : Ok l) : ∀ m ∈ l, m.id.natAbs ≤ 1000000000 ∧ ∀ f ∈ m.fs, CG f := by
  intro m hm
  obtain ⟨i, hi, rfl⟩ := List.getElem_of_mem hm
  have h1 := h.each i hi
  have e : l.getD i zm = l[i] := by simp [List.getD, List.getElem?_eq_getElem hi]
  rw [e] at h1
  exact h1.cg (h.take i)

theorem parseL_go : ∀ {ps qs : List (List UInt8)} {s s1 : St} {k : Nat}, reads s ps = some s1 → qs ≠ [] → parseL s (ps ++ qs) k = parseL s1 qs (k + ps.length)
  | [], qs, s, s1, k, h, _ => by cases h; rfl
  | p :: ps, qs, s, s1, k, h, hq => by
    rw [reads] at h
    rw [List.cons_append, parseL_more (by simp [hq])]
    cases hr : readO s p with
    | none => rw [hr] at h; cases h
    | some s2 =>
      rw [hr] at h
      simp only [Option.bind_some] at h ⊢
      rw [parseL_go h hq, List.length_cons]
      congr 1; omega
theorem parseL_inv : ∀ {ps : List (List UInt8)} {s s2 : St} {k : Nat}, parseL s ps k = .ok s2 → ∃ qs s1, ps = qs ++ [[]] ∧ reads s qs = some s1 ∧ endO s1 = some s2
  | [], s, s2, k, h => by cases h
  | [p], s, s2, k, h => by
    unfold parseL at h
    split at h
    · rename_i hp
      cases he : endO s with
      | none => rw [he] at h; cases h
      | some s1 => rw [he] at h; cases h; exact ⟨[], s, by rw [hp]; rfl, rfl, he⟩
    · cases h
  | p :: q :: ps, s, s2, k, h => by
    unfold parseL at h
    cases hr : readO s p with
    | none => rw [hr] at h; cases h
    | some s3 =>
      rw [hr] at h
      obtain ⟨qs, s1, e, h1, h2⟩ := parseL_inv h
      exact ⟨p :: qs, s1, by rw [e]; rfl, by rw [reads, hr]; exact h1, h2⟩
theorem parseL_bad : ∀ {ps : List (List UInt8)} {s : St} {k n : Nat}, ps ≠ [] → parseL s ps k = .bad n → k ≤ n ∧ n < k + ps.length ∧ ∃ s1, reads s (ps.take (n - k)) = some s1 ∧ (n + 1 < k + ps.length → readO s1 (ps.getD (n - k) []) = none)
  | [], s, k, n, h, _ => absurd rfl h
  | [p], s, k, n, _, h => by
    unfold parseL at h
    have hn : n = k := by
      split at h
      · cases he : endO s with
        | none => rw [he] at h; cases h; rfl
        | some s1 => rw [he] at h; cases h
      · cases h; rfl
    subst hn
    exact ⟨Nat.le_refl _, by simp, s, by simp [reads], fun h => absurd h (by simp)⟩
  | p :: q :: ps, s, k, n, _, h => by
    unfold parseL at h
    cases hr : readO s p with
    | none =>
      rw [hr] at h
      cases h
      exact ⟨Nat.le_refl _, by simp, s, by simp [reads], fun _ => by simpa using hr⟩
    | some s3 =>
      rw [hr] at h
      obtain ⟨h1, h2, s1, h3, h4⟩ := parseL_bad (by simp) h
      obtain ⟨j, hj⟩ : ∃ j, n - k = j + 1 := ⟨n - k - 1, by omega⟩
      have hj2 : n - (k + 1) = j := by omega
      rw [hj2] at h3 h4
      simp only [List.length_cons] at h2 h4 ⊢
      refine ⟨by omega, by omega, s1, ?_, fun h5 => ?_⟩
      · rw [hj, List.take_succ_cons, reads, hr]; exact h3
      · rw [hj]
        have := h4 (by omega)
        simpa using this
/-- A valid table is read again from its text. -/
theorem parse_text {l : List Fm} (h : Ok l) : ∃ s, parseO (text l) = .ok s ∧ s.d = l := by
  obtain ⟨s, hs⟩ := build_ok h
  have h1 := reads_all (s := st0) h.cg
  have h2 := (build_some hs).1
  unfold buildO at hs
  rw [hs] at h1
  cases hr : reads st0 (linesL l) with
  | none => rw [hr] at h1; cases h1
  | some s1 =>
    rw [hr] at h1
    refine ⟨s, ?_, h2⟩
    have e : sp 10 (text l) = linesL l ++ [[]] := by
      have := sp_put (r := []) (linesL_no10 l)
      rw [List.append_nil, put_lines] at this
      exact this
    unfold parseO
    rw [e, parseL_go hr (by simp)]
    show parseL s1 [[]] _ = _
    unfold parseL
    rw [if_pos rfl]
    have h3 : endO s1 = some s := h1
    rw [h3]
theorem text_inj {l k : List Fm} (hl : Ok l) (hk : Ok k) (h : text l = text k) : l = k := by
  obtain ⟨s, h1, h2⟩ := parse_text hl
  obtain ⟨t, h3, h4⟩ := parse_text hk
  rw [h, h3] at h1
  cases h1
  rw [← h2, ← h4]
/-- The table that a beginning is. -/
def tab (s : St) : List Fm := if s.o.id = 0 then s.d else s.d ++ [s.o]
theorem endO_tab {s s1 : St} (h : endO s = some s1) : s1.d = tab s := endO_d h
theorem read_lines {s s1 : St} {p : List UInt8} (g : Good s) (h : readO s p = some s1) : Good s1 ∧ linesL (tab s1) = linesL (tab s) ++ [p] := by
  unfold readO at h
  cases hi : itemD p with
  | none => rw [hi] at h; cases h
  | some x =>
    rw [hi] at h
    cases x with
    | head id =>
      have hp := itemD_head hi
      have h2 : beginO s id = some s1 := h
      refine ⟨g.begin_ h2, ?_⟩
      unfold beginO at h2
      cases he : endO s with
      | none => rw [he] at h2; cases h2
      | some s2 =>
        rw [he] at h2
        simp only at h2
        split at h2
        · rename_i hc
          cases h2
          have hid : id ≠ 0 := by have := g.lo; omega
          have e : tab ⟨s2.d, ⟨id, []⟩⟩ = tab s ++ [⟨id, []⟩] := by
            have := endO_tab he
            rw [← this]
            unfold tab
            rw [if_neg hid]
          rw [e, linesL_append, linesL_one, hp]
          rfl
        · cases h2
    | fld f =>
      have hp := (itemD_fld hi).1
      have h2 : addO s f = some s1 := h
      refine ⟨g.add_ h2, ?_⟩
      unfold addO at h2
      split at h2
      · rename_i hb
        cases h2
        have hid := (addB_of hb).1
        have e1 : tab ⟨s.d, ⟨s.o.id, s.o.fs ++ [f]⟩⟩ = s.d ++ [⟨s.o.id, s.o.fs ++ [f]⟩] := by unfold tab; rw [if_neg (by show s.o.id ≠ 0; omega)]
        have e2 : tab s = s.d ++ [s.o] := by unfold tab; rw [if_neg (by omega)]
        rw [e1, e2, linesL_append, linesL_append, linesL_one, linesL_one, hp]
        simp [linesM]
      · cases h2
theorem reads_lines : ∀ {ps : List (List UInt8)} {s s1 : St}, Good s → reads s ps = some s1 → Good s1 ∧ linesL (tab s1) = linesL (tab s) ++ ps
  | [], s, s1, g, h => by cases h; exact ⟨g, by simp⟩
  | p :: ps, s, s1, g, h => by
    rw [reads] at h
    cases hr : readO s p with
    | none => rw [hr] at h; cases h
    | some s2 =>
      rw [hr] at h
      obtain ⟨g2, e2⟩ := read_lines g hr
      obtain ⟨g3, e3⟩ := reads_lines g2 h
      exact ⟨g3, by rw [e3, e2]; simp⟩
theorem tab0 : tab st0 = [] := rfl
theorem put_jn : ∀ ps : List (List UInt8), jn 10 (ps ++ [[]]) = put ps
  | [] => rfl
  | p :: ps => by rw [List.cons_append, jn_cons (by simp), put_jn ps, put_cons]
/-- What is read is valid, and has the text that was read. -/
theorem parse_inv {t : List UInt8} {s : St} (h : parseO t = .ok s) : Ok s.d ∧ text s.d = t := by
  obtain ⟨qs, s1, e, h1, h2⟩ := parseL_inv h
  obtain ⟨g, e2⟩ := reads_lines good0 h1
  refine ⟨(g.end_ h2).1, ?_⟩
  rw [endO_tab h2, ← put_lines, e2, tab0]
  show put qs = t
  rw [← put_jn, ← e, jn_sp]
/-- The line that is named lies behind lines that are right, and the one that is named is not, if it is not the last one. -/
theorem parse_bad {t : List UInt8} {n : Nat} (h : parseO t = .bad n) : 1 ≤ n ∧ n ≤ (sp 10 t).length ∧ ∃ s1, reads st0 ((sp 10 t).take (n - 1)) = some s1 ∧ (n < (sp 10 t).length → readO s1 ((sp 10 t).getD (n - 1) []) = none) := by
  obtain ⟨h1, h2, s1, h3, h4⟩ := parseL_bad (sp_ne 10 t) h
  exact ⟨h1, by omega, s1, h3, fun h5 => h4 (by omega)⟩
/-- Whatever follows makes no difference. -/
theorem parse_more {ps : List (List UInt8)} {p r : List UInt8} {s1 : St} (hp : ∀ q ∈ ps ++ [p], ∀ x ∈ q, x ≠ (10 : UInt8)) (h1 : reads st0 ps = some s1) (h2 : readO s1 p = none) : parseO (put (ps ++ [p]) ++ r) = .bad (ps.length + 1) := by
  unfold parseO
  rw [sp_put hp, List.append_assoc, parseL_go h1 (by simp), List.cons_append, List.nil_append, parseL_more (sp_ne 10 r), h2]
  simp only
  congr 1; omega
/-- The lines ahead of a heading that is right are a text. -/
theorem parse_whole {ps : List (List UInt8)} {p : List UInt8} {s1 s2 : St} (hp : ∀ q ∈ ps, ∀ x ∈ q, x ≠ (10 : UInt8)) (h1 : reads st0 ps = some s1) (h2 : readO s1 p = some s2) (h3 : p.take 6 = wFormat) : ∃ s, parseO (put ps) = .ok s := by
  have key : ∃ s, endO s1 = some s := by
    unfold readO at h2
    cases hi : itemD p with
    | none => rw [hi] at h2; cases h2
    | some x =>
      rw [hi] at h2
      cases x with
      | head id =>
        have h4 : beginO s1 id = some s2 := h2
        unfold beginO at h4
        cases he : endO s1 with
        | none => rw [he] at h4; cases h4
        | some s => exact ⟨s, rfl⟩
      | fld f =>
        obtain ⟨e, _, k1, k2⟩ := itemD_fld hi
        rw [e] at h3
        unfold lineF at h3
        obtain k | k | k | k | k | k : f.kind = 1 ∨ f.kind = 2 ∨ f.kind = 3 ∨ f.kind = 4 ∨ f.kind = 5 ∨ f.kind = 6 := by omega
        all_goals
          rw [k] at h3
          simp [wordK, wFormat] at h3
  obtain ⟨s, hs⟩ := key
  refine ⟨s, ?_⟩
  have e := sp_put (r := []) hp
  rw [List.append_nil] at e
  unfold parseO
  rw [e]
  show parseL st0 (ps ++ [[]]) 1 = _
  rw [parseL_go h1 (by simp)]
  unfold parseL
  rw [if_pos rfl, hs]
theorem parse_nil : ∃ s, parseO [] = .ok s := ⟨st0, rfl⟩
end Fx
end LawText
section LawEx
open Go.RowKit Go.Shelf Fx Go.Sort

namespace Fx
open Go.Lib (itoa)
def lineI : Item → List UInt8
  | .head id => heading id
  | .fld f => lineF f
def goodI : Item → Prop
  | .head id => id.natAbs ≤ 1000000000
  | .fld f => CG f
def applyL : St → List Item → Option St
  | s, [] => some s
  | s, x :: t => (applyO s x).bind fun s1 => applyL s1 t
theorem readO_item {s : St} {x : Item} (h : goodI x) : readO s (lineI x) = applyO s x := by
  cases x with
  | head id => exact readO_head h
  | fld f => exact readO_line h
theorem reads_items : ∀ {l : List Item} {s : St}, (∀ x ∈ l, goodI x) → reads s (l.map lineI) = applyL s l
  | [], s, _ => rfl
  | x :: t, s, h => by
    rw [List.map_cons, reads, readO_item (h x (by simp)), applyL]
    cases applyO s x with
    | none => rfl
    | some s1 => exact reads_items fun y hy => h y (List.mem_cons_of_mem _ hy)
theorem lineI_no10 (x : Item) : ∀ y ∈ lineI x, y ≠ (10 : UInt8) := by
  cases x with
  | head id => exact heading_no10 id
  | fld f => exact lineF_no10 f
theorem items_bad {l : List Item} {x : Item} {s1 : St} {t : List UInt8} (hl : ∀ y ∈ l, goodI y) (hx : goodI x) (h1 : applyL st0 l = some s1) (h2 : applyO s1 x = none) (ht : put (l.map lineI ++ [lineI x]) = t) : parseO t = .bad (l.length + 1) := by
  have h := parse_more (r := []) (ps := l.map lineI) (p := lineI x) (s1 := s1) (fun q hq => by
    rcases List.mem_append.1 hq with hq | hq
    · obtain ⟨y, _, rfl⟩ := List.mem_map.1 hq
      exact lineI_no10 y
    · simp only [List.mem_singleton] at hq
      subst hq
      exact lineI_no10 x) (by rw [reads_items hl]; exact h1) (by rw [readO_item hx]; exact h2)
  rw [List.append_nil, ht, List.length_map] at h
  exact h

def t4d : ByteArray := ⟨#[77, 90]⟩
def fLit : Fld := ⟨1, 0, -1, t4d⟩
def fNum (n : Int) : Fld := ⟨2, n, -1, eb⟩
def fBy (q : Int) : Fld := ⟨3, 0, q, eb⟩
def fIn (n : Int) : Fld := ⟨5, n, 0, eb⟩
def fCh : Fld := ⟨6, 1, -1, eb⟩
def F2 : Fm := ⟨2, [fLit, fNum 2, fBy 1]⟩
def F7 : Fm := ⟨7, [fNum 1, fIn 2, fCh]⟩
theorem cgLit : CG fLit := ⟨.inl ⟨rfl, rfl, rfl⟩, by decide, by decide, by decide, by decide⟩
theorem cgNum (n : Int) (h : n.natAbs ≤ 1000) : CG (fNum n) := ⟨.inr (.inl ⟨.inl rfl, rfl, rfl⟩), by simp [fNum], by simp [fNum], by show n.natAbs ≤ _; omega, by simp [fNum]⟩
theorem cgBy (q : Int) (h : q.natAbs ≤ 1000) : CG (fBy q) := ⟨.inr (.inr (.inl ⟨rfl, rfl, .inr rfl⟩)), by simp [fBy], by simp [fBy], by simp [fBy], by show q.natAbs ≤ _; omega⟩
theorem cgIn (n : Int) (h : n.natAbs ≤ 1000) : CG (fIn n) := ⟨.inr (.inr (.inr ⟨.inr rfl, rfl⟩)), by simp [fIn], by simp [fIn], by show n.natAbs ≤ _; omega, by simp [fIn]⟩
theorem d0 : itoa 0 = [48] := by rw [itoa_pos (by decide)]; exact dec_small (by decide)
theorem d1 : itoa 1 = [49] := by rw [itoa_pos (by decide)]; exact dec_small (by decide)
theorem d2 : itoa 2 = [50] := by rw [itoa_pos (by decide)]; exact dec_small (by decide)
theorem d7 : itoa 7 = [55] := by rw [itoa_pos (by decide)]; exact dec_small (by decide)
def lHead2 : List UInt8 := [102, 111, 114, 109, 97, 116, 32, 50]
def lHead7 : List UInt8 := [102, 111, 114, 109, 97, 116, 32, 55]
def lLit : List UInt8 := [108, 105, 116, 101, 114, 97, 108, 32, 52, 100, 53, 97]
def lNum2 : List UInt8 := [110, 117, 109, 98, 101, 114, 32, 50]
def lNum1 : List UInt8 := [110, 117, 109, 98, 101, 114, 32, 49]
def lBy1 : List UInt8 := [98, 121, 116, 101, 115, 32, 102, 114, 111, 109, 32, 49]
def lBy0 : List UInt8 := [98, 121, 116, 101, 115, 32, 102, 114, 111, 109, 32, 48]
def lIn2 : List UInt8 := [105, 110, 115, 105, 100, 101, 32, 50, 32, 102, 114, 111, 109, 32, 48]
def lIn7 : List UInt8 := [105, 110, 115, 105, 100, 101, 32, 55, 32, 102, 114, 111, 109, 32, 48]
def lCh : List UInt8 := [99, 104, 101, 99, 107, 32, 49]
theorem eHead2 : heading 2 = lHead2 := by unfold heading; rw [d2]; rfl
theorem eHead7 : heading 7 = lHead7 := by unfold heading; rw [d7]; rfl
theorem eLit : lineF fLit = lLit := by rfl
theorem eNum2 : lineF (fNum 2) = lNum2 := by show wordK 2 ++ 32 :: itoa 2 = _; rw [d2]; rfl
theorem eNum1 : lineF (fNum 1) = lNum1 := by show wordK 2 ++ 32 :: itoa 1 = _; rw [d1]; rfl
theorem eBy1 : lineF (fBy 1) = lBy1 := by show wordK 3 ++ 32 :: (wFrom ++ 32 :: itoa 1) = _; rw [d1]; rfl
theorem eBy0 : lineF (fBy 0) = lBy0 := by show wordK 3 ++ 32 :: (wFrom ++ 32 :: itoa 0) = _; rw [d0]; rfl
theorem eIn2 : lineF (fIn 2) = lIn2 := by show wordK 5 ++ 32 :: (itoa 2 ++ 32 :: (wFrom ++ 32 :: itoa 0)) = _; rw [d0, d2]; rfl
theorem eIn7 : lineF (fIn 7) = lIn7 := by show wordK 5 ++ 32 :: (itoa 7 ++ 32 :: (wFrom ++ 32 :: itoa 0)) = _; rw [d0, d7]; rfl
theorem eCh : lineF fCh = lCh := by show wordK 6 ++ 32 :: itoa 1 = _; rw [d1]; rfl
def exA : List UInt8 := [102, 111, 114, 109, 97, 116, 32, 50, 10, 108, 105, 116, 101, 114, 97, 108, 32, 52, 100, 53, 97, 10, 110, 117, 109, 98, 101, 114, 32, 50, 10, 98, 121, 116, 101, 115, 32, 102, 114, 111, 109, 32, 49, 10]
def exM : List UInt8 := [102, 111, 114, 109, 97, 116, 32, 50, 10, 108, 105, 116, 101, 114, 97, 108, 32, 52, 100, 53, 97, 10, 110, 117, 109, 98, 101, 114, 32, 50, 10, 98, 121, 116, 101, 115, 32, 102, 114, 111, 109, 32, 49, 10, 102, 111, 114, 109, 97, 116, 32, 55, 10, 110, 117, 109, 98, 101, 114, 32, 49, 10, 105, 110, 115, 105, 100, 101, 32, 50, 32, 102, 114, 111, 109, 32, 48, 10, 99, 104, 101, 99, 107, 32, 49, 10]
def exB : List UInt8 := [102, 111, 114, 109, 97, 116, 32, 50, 10, 108, 105, 116, 101, 114, 97, 108, 32, 52, 100, 53, 97, 10, 110, 117, 109, 98, 101, 114, 32, 50, 10, 98, 121, 116, 101, 115, 32, 102, 114, 111, 109, 32, 49, 10, 102, 111, 114, 109, 97, 116, 32, 55, 10, 110, 117, 109, 98, 101, 114, 32, 49, 10, 105, 110, 115, 105, 100, 101, 32, 55, 32, 102, 114, 111, 109, 32, 48, 10]
def exD : List UInt8 := [102, 111, 114, 109, 97, 116, 32, 50, 10, 110, 117, 109, 98, 101, 114, 32, 49, 10, 98, 121, 116, 101, 115, 32, 102, 114, 111, 109, 32, 48, 10, 98, 121, 116, 101, 115, 32, 102, 114, 111, 109, 32, 48, 10]
def exK : List UInt8 := [102, 111, 114, 109, 97, 116, 32, 50]
theorem text_A : text [F2] = exA := by
  rw [← put_lines]
  show put [heading 2, lineF fLit, lineF (fNum 2), lineF (fBy 1)] = _
  rw [eHead2, eLit, eNum2, eBy1]; rfl
theorem text_M : text [F2, F7] = exM := by
  rw [← put_lines]
  show put [heading 2, lineF fLit, lineF (fNum 2), lineF (fBy 1), heading 7, lineF (fNum 1), lineF (fIn 2), lineF fCh] = _
  rw [eHead2, eLit, eNum2, eBy1, eHead7, eNum1, eIn2, eCh]; rfl
theorem vd_A : vd [F2] = true := by decide
theorem vd_M : vd [F2, F7] = true := by decide
theorem vd_Z : vd [zm] = false := by decide
theorem parse_A : ∃ s, parseO exA = .ok s ∧ s.d = [F2] := by rw [← text_A]; exact parse_text (vd_iff.1 vd_A)
theorem parse_M : ∃ s, parseO exM = .ok s ∧ s.d = [F2, F7] := by rw [← text_M]; exact parse_text (vd_iff.1 vd_M)
theorem parse_B : parseO exB = .bad 7 := by
  refine items_bad (l := [.head 2, .fld fLit, .fld (fNum 2), .fld (fBy 1), .head 7, .fld (fNum 1)]) (x := .fld (fIn 7)) (s1 := ⟨[F2], ⟨7, [fNum 1]⟩⟩) ?_ (cgIn 7 (by decide)) (by rfl) (by rfl) ?_
  · intro y hy
    simp only [List.mem_cons, List.not_mem_nil, or_false] at hy
    rcases hy with rfl | rfl | rfl | rfl | rfl | rfl
    · show (2 : Int).natAbs ≤ _; decide
    · exact cgLit
    · exact cgNum 2 (by decide)
    · exact cgBy 1 (by decide)
    · show (7 : Int).natAbs ≤ _; decide
    · exact cgNum 1 (by decide)
  · show put [heading 2, lineF fLit, lineF (fNum 2), lineF (fBy 1), heading 7, lineF (fNum 1), lineF (fIn 7)] = _
    rw [eHead2, eLit, eNum2, eBy1, eHead7, eNum1, eIn7]; rfl
theorem parse_D : parseO exD = .bad 4 := by
  refine items_bad (l := [.head 2, .fld (fNum 1), .fld (fBy 0)]) (x := .fld (fBy 0)) (s1 := ⟨[], ⟨2, [fNum 1, fBy 0]⟩⟩) ?_ (cgBy 0 (by decide)) (by rfl) (by rfl) ?_
  · intro y hy
    simp only [List.mem_cons, List.not_mem_nil, or_false] at hy
    rcases hy with rfl | rfl | rfl
    · show (2 : Int).natAbs ≤ _; decide
    · exact cgNum 1 (by decide)
    · exact cgBy 0 (by decide)
  · show put [heading 2, lineF (fNum 1), lineF (fBy 0), lineF (fBy 0)] = _
    rw [eHead2, eNum1, eBy0]; rfl
theorem parse_E : parseO [] = .ok st0 := rfl
theorem parse_K : parseO exK = .bad 1 := by rfl
theorem least_2 : least [F2, F7] 2 = 4 := by decide
theorem least_7 : least [F2, F7] 7 = 6 := by decide
theorem find_7 : findO [F2, F7] 7 = some F7 := by rfl
theorem find_8 : findO [F2, F7] 8 = none := by rfl
end Fx

theorem FmsAt.below {w w' : World} {v : Value} {l : List Fm} (h : FmsAt (· < w.heap.size) w v l) (hb : Below w.heap.size w w') : FmsAt (· < w'.heap.size) w' v l :=
  (h.kept (Kept.of_below hb fun _ h => h)).mono fun _ hg => Nat.lt_of_lt_of_le hg hb.size
theorem ints_F2 : IntsL [F2] := fun i hi => by
  have : i = 0 := by simp at hi; omega
  subst this
  exact ⟨by decide, fun k hk => by
    have hk3 : k < 3 := hk
    obtain rfl | rfl | rfl : k = 0 ∨ k = 1 ∨ k = 2 := by omega
    all_goals exact ⟨by decide, by decide, by decide, by decide, by decide, by decide, by decide⟩⟩
theorem ints_M : IntsL [F2, F7] := fun i hi => by
  have h2 : i < 2 := hi
  obtain rfl | rfl : i = 0 ∨ i = 1 := by omega
  · exact ints_F2 0 (by decide)
  · exact ⟨by decide, fun k hk => by
      have hk3 : k < 3 := hk
      obtain rfl | rfl | rfl : k = 0 ∨ k = 1 ∨ k = 2 := by omega
      all_goals exact ⟨by decide, by decide, by decide, by decide, by decide, by decide, by decide⟩⟩
theorem ints_Z : IntsL [zm] := fun i hi => by
  have : i = 0 := by simp at hi; omega
  subst this
  exact ⟨by decide, fun k hk => by simp [zm] at hk⟩
theorem parseA_any (er : Addr) (w : World) (hT : Txt w er) : Calls Tryz.prog 26 #[.string (bs exA)] w fun e w' => (∃ b c, e = .returned (.tuple #[.slice (some b) 1 c, .int .i64 0, .int .i64 0]) ∧ FmsAt (· < w'.heap.size) w' (.slice (some b) 1 c) [F2]) ∧ Below w.heap.size w w' := by
  obtain ⟨s, h1, h2⟩ := parse_A
  have h := Parse_any exA er w hT (by decide)
  rw [h1] at h
  exact h.mono fun e w' ⟨⟨v, he, hv⟩, hb⟩ => ⟨by
    rw [h2] at hv
    obtain ⟨a, c, rfl, _⟩ := hv.slice_
    obtain ⟨b, off, rfl, _⟩ := hv.at_ (by decide)
    exact ⟨_, _, he, hv⟩, hb⟩
theorem parseM_any (er : Addr) (w : World) (hT : Txt w er) : Calls Tryz.prog 26 #[.string (bs exM)] w fun e w' => (∃ b off c, e = .returned (.tuple #[.slice (some ⟨b, off, none⟩) 2 c, .int .i64 0, .int .i64 0]) ∧ FmsAt (· < w'.heap.size) w' (.slice (some ⟨b, off, none⟩) 2 c) [F2, F7] ∧ 2 ≤ c ∧ c ≤ 9223372036854775807) ∧ Below w.heap.size w w' := by
  obtain ⟨s, h1, h2⟩ := parse_M
  have h := Parse_any exM er w hT (by decide)
  rw [h1] at h
  exact h.mono fun e w' ⟨⟨v, he, hv⟩, hb⟩ => ⟨by
    rw [h2] at hv
    obtain ⟨a, c, rfl, _⟩ := hv.slice_
    obtain ⟨b, off, rfl, _, _, _, k1, k2, _⟩ := hv.at_ (by decide)
    exact ⟨_, _, _, he, hv, k1, by unfold maxLen at k2; omega⟩, hb⟩
theorem parseB_any (er : Addr) (w : World) (hT : Txt w er) : Calls Tryz.prog 26 #[.string (bs exB)] w fun e w' => e = .returned (.tuple #[.slice none 0 0, .int .i64 7, .int .i64 40]) ∧ Below w.heap.size w w' := by
  have h := Parse_any exB er w hT (by decide)
  rw [parse_B] at h
  exact h
theorem parseD_any (er : Addr) (w : World) (hT : Txt w er) : Calls Tryz.prog 26 #[.string (bs exD)] w fun e w' => e = .returned (.tuple #[.slice none 0 0, .int .i64 4, .int .i64 40]) ∧ Below w.heap.size w w' := by
  have h := Parse_any exD er w hT (by decide)
  rw [parse_D] at h
  exact h
theorem parseE_any (er : Addr) (w : World) (hT : Txt w er) : Calls Tryz.prog 26 #[.string (bs [])] w fun e w' => (∃ a c, e = .returned (.tuple #[.slice a 0 c, .int .i64 0, .int .i64 0])) ∧ Below w.heap.size w w' := by
  have h := Parse_any [] er w hT (by decide)
  rw [parse_E] at h
  exact h.mono fun e w' ⟨⟨v, he, hv⟩, hb⟩ => ⟨by
    obtain ⟨a, c, rfl, _⟩ := hv.slice_
    exact ⟨_, _, he⟩, hb⟩
theorem parseK_any (er : Addr) (w : World) (hT : Txt w er) : Calls Tryz.prog 26 #[.string (bs exK)] w fun e w' => e = .returned (.tuple #[.slice none 0 0, .int .i64 1, .int .i64 40]) ∧ Below w.heap.size w w' := by
  have h := Parse_any exK er w hT (by decide)
  rw [parse_K] at h
  exact h
theorem find7_any (v : Value) (w : World) (hV : FmsAt (· < w.heap.size) w v [F2, F7]) : Calls Tryz.prog 16 #[v, .int .i64 7] w fun e w' => (∃ a n c, e = .returned (.tuple #[.agg #[.int .i64 7, .slice a n c], .bool true])) ∧ Below w.heap.size w w' := by
  have h := Find_any v [F2, F7] 7 w hV (fun f hf => by
    simp only [List.mem_cons, List.not_mem_nil, or_false] at hf
    rcases hf with rfl | rfl
    · exact ⟨by decide, fun i hi => by
        have hk3 : i < 3 := hi
        obtain rfl | rfl | rfl : i = 0 ∨ i = 1 ∨ i = 2 := by omega
        all_goals decide⟩
    · exact ⟨by decide, fun i hi => by
        have hk3 : i < 3 := hi
        obtain rfl | rfl | rfl : i = 0 ∨ i = 1 ∨ i = 2 := by omega
        all_goals decide⟩)
  rw [find_7] at h
  exact h.mono fun e w' ⟨⟨v, he, hv⟩, hb⟩ => ⟨by
    obtain ⟨a, c, rfl, _⟩ := hv.slice_
    exact ⟨_, _, _, he⟩, hb⟩
theorem find8_any (v : Value) (w : World) (hV : FmsAt (· < w.heap.size) w v [F2, F7]) : Calls Tryz.prog 16 #[v, .int .i64 8] w fun e w' => e = .returned (.tuple #[.agg #[.int .i64 0, .slice none 0 0], .bool false]) ∧ Below w.heap.size w w' := by
  have h := Find_any v [F2, F7] 8 w hV (fun f hf => by
    simp only [List.mem_cons, List.not_mem_nil, or_false] at hf
    rcases hf with rfl | rfl
    · exact ⟨by decide, fun i hi => by
        have hk3 : i < 3 := hi
        obtain rfl | rfl | rfl : i = 0 ∨ i = 1 ∨ i = 2 := by omega
        all_goals decide⟩
    · exact ⟨by decide, fun i hi => by
        have hk3 : i < 3 := hi
        obtain rfl | rfl | rfl : i = 0 ∨ i = 1 ∨ i = 2 := by omega
        all_goals decide⟩)
  rw [find_8] at h
  exact h
theorem zms_at (w : World) : FmsAt (· < (w.alloc (.cells #[.int .i64 0, .slice none 0 0] 34)).heap.size) (w.alloc (.cells #[.int .i64 0, .slice none 0 0] 34)) (.slice (some ⟨w.heap.size, 0, none⟩) 1 1) [zm] := by
  have hh := heap_alloc_new w (.cells #[.int .i64 0, .slice none 0 0] 34)
  refine .inr ⟨w.heap.size, 0, 1, rfl, by decide, by decide, by unfold maxLen; omega, by simp, by simp, fun i hi => ?_⟩
  have : i = 0 := by simp at hi; omega
  subst this
  exact ⟨.slice none 0 0, cell_of_row _ _ _ _ _ _ hh, cell_of_row _ _ _ _ _ _ hh, .inl ⟨none, 0, rfl, rfl⟩, fun g hg => by simp [Value.ownBlock] at hg⟩
end LawEx
section LawTabs
namespace Fx

theorem getD_mem {α : Type} {l : List α} {z : α} {i : Nat} (h : i < l.length) : l.getD i z ∈ l := by
  simp only [List.getD, List.getElem?_eq_getElem h, Option.getD_some]
  exact List.getElem_mem _
theorem mem_getD {α : Type} {l : List α} {z x : α} (h : x ∈ l) : ∃ i, i < l.length ∧ l.getD i z = x := by
  obtain ⟨i, hi, rfl⟩ := List.getElem_of_mem h
  exact ⟨i, hi, by simp [List.getD, List.getElem?_eq_getElem hi]⟩
theorem take_succ {α : Type} {l : List α} {z : α} {i : Nat} (h : i < l.length) : l.take (i + 1) = l.take i ++ [l.getD i z] := by
  rw [List.take_add_one, List.getElem?_eq_getElem h]
  simp [List.getD, List.getElem?_eq_getElem h]
/-- The ids of a valid table rise. -/
theorem Ok.lt {l : List Fm} (h : Ok l) {i j : Nat} (hij : i < j) (hj : j < l.length) : (l.getD i zm).id < (l.getD j zm).id := by
  have h1 := (h.take (j + 1))
  rw [take_succ (z := zm) hj] at h1
  have h2 := h1.ids (l.getD i zm)
  apply h2
  have h3 : (l.take j).getD i zm = l.getD i zm := getD_take hij
  rw [← h3]
  exact getD_mem (by rw [List.length_take]; omega)
/-- The first formats of a valid table have the same least lengths. -/
theorem first_least {l : List Fm} (h : Ok l) {k i : Nat} (hi : i < l.length) : least (l.take k) (l.getD i zm).id = if i < k then least l (l.getD i zm).id else 0 := by
  split
  · rename_i hk
    have e : (l.take k).getD i zm = l.getD i zm := getD_take hk
    rw [← e, ← least_idx (h.take k) (by rw [List.length_take]; omega), e, ← least_idx h hi]
    have h1 := rls_take l [] k
    rw [List.length_nil, Nat.zero_add] at h1
    rw [← h1, List.map_take, getD_take hk]
  · rename_i hk
    refine least_not fun j hj => ?_
    rw [List.length_take] at hj
    rw [getD_take (by omega)]
    have := h.lt (i := j) (j := i) (by omega) hi
    omega

/-! the formats that one names -/
/-- The formats that are kept, of the first ones. -/
def keepL (κ : Nat → Bool) (l : List Fm) : Nat → List Fm
  | 0 => []
  | i + 1 => if κ i then keepL κ l i ++ [l.getD i zm] else keepL κ l i
def isNest (f : Fld) : Prop := f.kind = 4 ∨ f.kind = 5
/-- What is kept names only what is kept. -/
def Closed (κ : Nat → Bool) (l : List Fm) : Prop := ∀ i, i < l.length → κ i = true → ∀ k, k < (l.getD i zm).fs.length → isNest ((l.getD i zm).fs.getD k zf) → ∀ j, j < i → (l.getD j zm).id = ((l.getD i zm).fs.getD k zf).n → κ j = true
theorem right_congr {m m' : List (Int × Int)} {fs : List Fld} {f : Fld} (h : isNest f → lk m f.n = lk m' f.n) : right m fs f = right m' fs f := by
  unfold isNest at h
  unfold right nests tells knows lkz
  by_cases h4 : f.kind = 4
  · rw [h (.inl h4)]
  · by_cases h5 : f.kind = 5
    · rw [h (.inr h5)]
    · simp only [if_neg h4, if_neg h5]
theorem lf_congr {m m' : List (Int × Int)} {f : Fld} (h : isNest f → lk m f.n = lk m' f.n) : lf m f = lf m' f := by
  unfold isNest at h
  unfold lf lkz
  by_cases h5 : f.kind = 5
  · rw [h (.inr h5)]
  · simp only [if_neg h5]
theorem nest_knows {m : List (Int × Int)} {fs : List Fld} {f : Fld} (hn : isNest f) (h : right m fs f = true) : knows m f.n = true := by
  rcases hn with h4 | h5
  · rw [right_4 h4] at h; exact (nests_of h).2.1
  · rw [right_5 h5, Bool.and_eq_true] at h; exact (nests_of h.1).2.1
theorem keep_all {κ : Nat → Bool} {l : List Fm} (h : Ok l) (hc : Closed κ l) : ∀ i, i ≤ l.length → Ok (keepL κ l i) ∧ (∀ j, j < i → κ j = true → lk (lm (keepL κ l i)) (l.getD j zm).id = lk (lm (l.take i)) (l.getD j zm).id) ∧ (∀ f ∈ keepL κ l i, ∃ j, j < i ∧ κ j = true ∧ f = l.getD j zm) ∧ (keepL κ l i).length ≤ i
  | 0, _ => ⟨ok_nil, fun j hj => by omega, fun f hf => by simp [keepL] at hf, by simp [keepL]⟩
  | i + 1, hi => by
    obtain ⟨h1, h2, h3, h4⟩ := keep_all h hc i (by omega)
    have hlen := h.few
    have hne : ∀ j, j < i → (l.getD i zm).id ≠ (l.getD j zm).id := fun j hj => by have := h.lt hj (by omega : i < l.length); omega
    unfold keepL
    rw [take_succ (z := zm) (by omega)]
    by_cases hk : κ i = true
    · rw [if_pos hk]
      have hf := h.each i (by omega)
      have key : ∀ k, k < (l.getD i zm).fs.length → isNest ((l.getD i zm).fs.getD k zf) → lk (lm (keepL κ l i)) ((l.getD i zm).fs.getD k zf).n = lk (lm (l.take i)) ((l.getD i zm).fs.getD k zf).n := by
        intro k hkl hn
        have hkn := nest_knows hn (hf.each k hkl)
        unfold knows at hkn
        obtain ⟨v, hv⟩ := Option.isSome_iff_exists.1 hkn
        obtain ⟨f, hfm, he⟩ := lk_ids hv
        obtain ⟨j, hj, rfl⟩ := mem_getD (z := zm) hfm
        rw [List.length_take] at hj
        rw [getD_take (by omega)] at he
        rw [← he]
        exact h2 j (by omega) (hc i (by omega) hk k hkl hn j (by omega) he)
      have hls : ls (lm (keepL κ l i)) (l.getD i zm).fs = ls (lm (l.take i)) (l.getD i zm).fs := by
        unfold ls
        congr 1
        refine List.map_congr_left fun g hg => ?_
        obtain ⟨k, hkl, rfl⟩ := mem_getD (z := zf) hg
        exact lf_congr (key k hkl)
      have hOk : FmOk (keepL κ l i) (l.getD i zm) := ⟨hf.lo, hf.hi, hf.some_, hf.few, fun k hkl => by rw [right_congr (key k hkl)]; exact hf.each k hkl, by rw [hls]; exact hf.len⟩
      refine ⟨h1.snoc hOk (by omega) fun g hg => ?_, fun j hj hkj => ?_, fun f hfm => ?_, by simp; omega⟩
      · obtain ⟨j, hj, _, rfl⟩ := h3 g hg
        exact h.lt hj (by omega)
      · rw [lm_snoc, lm_snoc, lk_cons, lk_cons]
        simp only
        by_cases e : (l.getD i zm).id = (l.getD j zm).id
        · rw [if_pos e, if_pos e, hls]
        · rw [if_neg e, if_neg e]
          have : j ≠ i := fun h => e (by rw [h])
          exact h2 j (by omega) hkj
      · rcases List.mem_append.1 hfm with hm | hm
        · obtain ⟨j, hj, a, b⟩ := h3 f hm
          exact ⟨j, by omega, a, b⟩
        · simp only [List.mem_singleton] at hm
          exact ⟨i, by omega, hk, hm⟩
    · rw [if_neg hk]
      refine ⟨h1, fun j hj hkj => ?_, fun f hfm => ?_, by omega⟩
      · have : j ≠ i := fun h => hk (by rw [← h]; exact hkj)
        rw [lm_snoc, lk_cons]
        simp only
        rw [if_neg (hne j (by omega))]
        exact h2 j (by omega) hkj
      · obtain ⟨j, hj, a, b⟩ := h3 f hfm
        exact ⟨j, by omega, a, b⟩
/-- The formats that one names are a valid table with the same least lengths. -/
theorem named {κ : Nat → Bool} {l : List Fm} (h : Ok l) (hc : Closed κ l) : Ok (keepL κ l l.length) ∧ (∀ f ∈ keepL κ l l.length, least (keepL κ l l.length) f.id = least l f.id) ∧ (keepL κ l l.length).length ≤ l.length ∧ ∀ f ∈ keepL κ l l.length, f ∈ l := by
  obtain ⟨h1, h2, h3, h4⟩ := keep_all h hc l.length (Nat.le_refl _)
  refine ⟨h1, fun f hf => ?_, h4, fun f hf => ?_⟩
  · obtain ⟨j, hj, hk, rfl⟩ := h3 f hf
    have := h2 j hj hk
    rw [List.take_length] at this
    unfold least lkz
    rw [if_pos (vd_iff.2 h1), if_pos (vd_iff.2 h), this]
  · obtain ⟨j, hj, hk, rfl⟩ := h3 f hf
    exact getD_mem hj

/-! least lengths of what Make makes -/
def lenB : Nat → Int
  | 0 => 4
  | i + 1 => 4 * lenB i + 8
theorem lenB_lo : ∀ i, 4 ≤ lenB i
  | 0 => by decide
  | i + 1 => by have := lenB_lo i; unfold lenB; omega
theorem lenB_mono {i j : Nat} (h : i ≤ j) : lenB i ≤ lenB j := by
  induction j with
  | zero => have : i = 0 := by omega
            subst this; exact Int.le_refl _
  | succ j ih =>
    rcases Nat.lt_or_ge i (j + 1) with h1 | h1
    · have := ih (by omega); have := lenB_lo j; have e : lenB (j + 1) = 4 * lenB j + 8 := rfl; omega
    · have : i = j + 1 := by omega
      subst this; exact Int.le_refl _
theorem lf_mk {m : List (Int × Int)} {fs : List Fld} {f : Fld} {b : Int} (hm : MkF f) (hr : right m fs f = true) (hb : ∀ q, lkz m q ≤ b) (h4 : 4 ≤ b) : lf m f ≤ b ∧ (f.kind ≠ 5 → lf m f ≤ 4) := by
  have ht := hm.t
  have hk := right_kind hr
  unfold lf
  by_cases k1 : f.kind = 1
  · rw [if_pos k1]; omega
  · rw [if_neg k1]
    by_cases k4 : f.kind = 4
    · rw [if_pos k4]; omega
    · rw [if_neg k4]
      by_cases k5 : f.kind = 5
      · rw [if_pos k5]; exact ⟨hb _, fun h => absurd k5 h⟩
      · rw [if_neg k5]
        have : f.n ≤ 4 := by
          obtain k | k | k : f.kind = 2 ∨ f.kind = 3 ∨ f.kind = 6 := by omega
          · rw [right_2 k] at hr; have := sized_of hr; omega
          · have := hm.n k; omega
          · rw [right_6 k] at hr; have := sized_of hr; omega
        omega
theorem inside_counts {m : List (Int × Int)} {fs : List Fld} {f : Fld} (h5 : f.kind = 5) (hr : right m fs f = true) : counts fs f.frm = true := by
  rw [right_5 h5, Bool.and_eq_true] at hr
  exact (nests_of hr.1).2.2
theorem ls_mk {m : List (Int × Int)} {fs : List Fld} {b : Int} (hl : fs.length ≤ 6) (hr : ∀ k, k < fs.length → right m (fs.take k) (fs.getD k zf) = true) (hm : ∀ k, k < fs.length → MkF (fs.getD k zf)) (hb : ∀ q, lkz m q ≤ b) (h4 : 4 ≤ b) : ls m fs ≤ 4 * b + 8 := by
  have h0 : ∀ k, lf m (fs.getD k zf) ≤ b ∧ ((fs.getD k zf).kind ≠ 5 → lf m (fs.getD k zf) ≤ 4) := fun k => by
    by_cases hk : k < fs.length
    · exact lf_mk (hm k hk) (hr k hk) hb h4
    · have : fs.getD k zf = zf := by simp [List.getD, List.getElem?_eq_none (by omega : fs.length ≤ k)]
      rw [this]
      have : lf m zf = 0 := by simp [lf, zf]
      rw [this]; exact ⟨by omega, fun _ => by omega⟩
  have k0 : (fs.getD 0 zf).kind ≠ 5 := fun h => by
    by_cases hk : 0 < fs.length
    · have := counts_of (inside_counts h (hr 0 hk))
      simp at this
      omega
    · have : fs.getD 0 zf = zf := by simp [List.getD, List.getElem?_eq_none (by omega : fs.length ≤ 0)]
      rw [this] at h; simp [zf] at h
  have k12 : (fs.getD 1 zf).kind ≠ 5 ∨ (fs.getD 2 zf).kind ≠ 5 := by
    by_cases h1 : (fs.getD 1 zf).kind = 5
    · right
      intro h2
      by_cases hk : 2 < fs.length
      · obtain ⟨a1, a2, _, _⟩ := counts_of (inside_counts h1 (hr 1 (by omega)))
        obtain ⟨b1, b2, b3, b4⟩ := counts_of (inside_counts h2 (hr 2 hk))
        rw [List.length_take] at a2 b2
        have hq : (fs.getD 2 zf).frm ≠ (fs.getD 1 zf).frm := fun e => by
          refine b4 (fs.getD 1 zf) ?_ e.symm
          have : (fs.take 2).getD 1 zf = fs.getD 1 zf := getD_take (by omega)
          rw [← this]
          exact getD_mem (by rw [List.length_take]; omega)
        have e : (fs.getD 2 zf).frm.toNat = 1 := by omega
        rw [e, getD_take (by omega)] at b3
        omega
      · have : fs.getD 2 zf = zf := by simp [List.getD, List.getElem?_eq_none (by omega : fs.length ≤ 2)]
        rw [this] at h2; simp [zf] at h2
    · exact .inl h1
  have x0 := (h0 0).2 k0
  have x1 := h0 1
  have x2 := h0 2
  have x3 := (h0 3).1
  have x4 := (h0 4).1
  have x5 := (h0 5).1
  have hsum : ls m fs = lf m (fs.getD 0 zf) + lf m (fs.getD 1 zf) + lf m (fs.getD 2 zf) + lf m (fs.getD 3 zf) + lf m (fs.getD 4 zf) + lf m (fs.getD 5 zf) := by
    have z : lf m zf = 0 := by simp [lf, zf]
    match fs, hl with
    | [], _ => simp [ls, z]
    | [a], _ => simp [ls, z]
    | [a, b], _ => simp [ls, z]
    | [a, b, c], _ => simp [ls, z]; omega
    | [a, b, c, d], _ => simp [ls, z]; omega
    | [a, b, c, d, e], _ => simp [ls, z]; omega
    | [a, b, c, d, e, f], _ => simp [ls]; omega
    | a :: b :: c :: d :: e :: f :: g :: t, h => simp at h
  rcases k12 with k | k
  · have := x1.2 k; have := x2.1; omega
  · have := x2.2 k; have := x1.1; omega
theorem mk_lens {l : List Fm} (h : Mk l) : ∀ i, i ≤ l.length → ∀ q, lkz (lm (l.take i)) q ≤ lenB i
  | 0, _, q => by rw [List.take_zero, lm_nil]; unfold lkz; rw [lk_nil]; decide
  | i + 1, hi, q => by
    have ih := mk_lens h i (by omega)
    rw [take_succ (z := zm) (by omega), lm_snoc, lkz_cons]
    have hf := h.ok.each i (by omega)
    have e : lenB (i + 1) = 4 * lenB i + 8 := rfl
    have := lenB_lo i
    split
    · rw [e]
      exact ls_mk (h.fs i (by omega)) hf.each (h.each i (by omega)) ih (by omega)
    · have := ih q; omega
theorem mk_len {l : List Fm} (h : Mk l) (q : Int) : lkz (lm l) q ≤ 27304 := by
  have h1 := mk_lens h l.length (Nat.le_refl _) q
  rw [List.take_length] at h1
  have h2 := lenB_mono (i := l.length) (j := 6) h.few
  have h3 : lenB 6 = 27304 := by decide
  omega
/-- A format with two others inside, each with its number. -/
def fiveH (one two : Int) : Fm := ⟨500, [⟨2, 3, -1, eb⟩, ⟨2, 3, -1, eb⟩, ⟨5, one, 0, eb⟩, ⟨5, two, 1, eb⟩]⟩
/-- A format with a list. -/
def fiveI : Fm := ⟨501, [⟨2, 1, -1, eb⟩, ⟨4, 500, 0, eb⟩]⟩
theorem inside_right {m : List (Int × Int)} {fs : List Fld} {q p : Int} (h1 : knows m q = true) (h2 : counts fs p = true) (h3 : Fine m) (h4 : (fs.getD p.toNat zf).n = 3) : right m fs ⟨5, q, p, eb⟩ = true := by
  rw [right_5 rfl, Bool.and_eq_true]
  refine ⟨?_, ?_⟩
  · unfold nests
    simp only [h1, h2]
    simp [eb]
  · unfold tells
    simp only [h4]
    have := h3.lkz q
    exact decide_eq_true (by
      have e : (2 : Int) ^ (8 * (3 : Int)).toNat = 16777216 := by decide
      rw [e]; omega)
theorem least_adds {l : List Fm} (h : Mk l) {a b : Nat} (ha : a < l.length) (hb : b < l.length) :
    vd ((l ++ [fiveH (l.getD a zm).id (l.getD b zm).id]) ++ [fiveI]) = true ∧
    least (l ++ [fiveH (l.getD a zm).id (l.getD b zm).id]) 500 = 6 + least l (l.getD a zm).id + least l (l.getD b zm).id ∧
    least ((l ++ [fiveH (l.getD a zm).id (l.getD b zm).id]) ++ [fiveI]) 501 = 1 ∧
    least ((l ++ [fiveH (l.getD a zm).id (l.getD b zm).id]) ++ [fiveI]) 500 = least (l ++ [fiveH (l.getD a zm).id (l.getD b zm).id]) 500 := by
  obtain ⟨p, hp⟩ : ∃ p, p = (l.getD a zm).id := ⟨_, rfl⟩
  obtain ⟨q, hq⟩ : ∃ q, q = (l.getD b zm).id := ⟨_, rfl⟩
  have kp := (rls_at h.ok ha).2
  have kq := (rls_at h.ok hb).2
  rw [← hp] at kp
  rw [← hq] at kq
  rw [← hp, ← hq]
  have hF := h.ok.fine
  have lp := mk_len h p
  have lq := mk_len h q
  have fp := hF.lkz p
  have fq := hF.lkz q
  have hls : ls (lm l) (fiveH p q).fs = 6 + lkz (lm l) p + lkz (lm l) q := by simp [ls, lf, fiveH]; omega
  have hlen := h.few
  have o1 : FmOk l (fiveH p q) := by
    refine ⟨by show (1 : Int) ≤ 500; decide, by show (500 : Int) ≤ 1000000; decide, by show 1 ≤ 4; decide, by show 4 ≤ 16; decide, fun k hk => ?_, by rw [hls]; omega⟩
    have hk4 : k < 4 := hk
    obtain rfl | rfl | rfl | rfl : k = 0 ∨ k = 1 ∨ k = 2 ∨ k = 3 := by omega
    · show right (lm l) [] ⟨2, 3, -1, eb⟩ = true
      rw [right_2 rfl]; decide
    · show right (lm l) [⟨2, 3, -1, eb⟩] ⟨2, 3, -1, eb⟩ = true
      rw [right_2 rfl]; decide
    · exact inside_right kp (by rfl) hF rfl
    · exact inside_right kq (by rfl) hF rfl
  have m1 : Ok (l ++ [fiveH p q]) := h.ok.snoc o1 (by omega) fun g hg => by
    obtain ⟨j, hj, rfl⟩ := mem_getD (z := zm) hg
    have := (h.ids j hj).2
    show _ < (500 : Int); omega
  have hlm : lm (l ++ [fiveH p q]) = (500, 6 + lkz (lm l) p + lkz (lm l) q) :: lm l := by rw [lm_snoc, hls]; rfl
  have hls2 : ls (lm (l ++ [fiveH p q])) fiveI.fs = 1 := by simp [ls, lf, fiveI]
  have o2 : FmOk (l ++ [fiveH p q]) fiveI := by
    refine ⟨by decide, by decide, by decide, by decide, fun k hk => ?_, by rw [hls2]; decide⟩
    have hk4 : k < 2 := hk
    obtain rfl | rfl : k = 0 ∨ k = 1 := by omega
    · show right _ [] ⟨2, 1, -1, eb⟩ = true
      rw [right_2 rfl]; decide
    · show right _ [⟨2, 1, -1, eb⟩] ⟨4, 500, 0, eb⟩ = true
      rw [right_4 rfl, hlm]
      unfold nests
      have k5 : knows ((500, 6 + lkz (lm l) p + lkz (lm l) q) :: lm l) 500 = true := by unfold knows; rw [lk_cons, if_pos rfl]; rfl
      simp only [k5]
      decide
  have m2 : Ok ((l ++ [fiveH p q]) ++ [fiveI]) := m1.snoc o2 (by simp; omega) fun g hg => by
    rcases List.mem_append.1 hg with hg | hg
    · obtain ⟨j, hj, rfl⟩ := mem_getD (z := zm) hg
      have := (h.ids j hj).2
      show _ < (501 : Int); omega
    · simp only [List.mem_singleton] at hg
      subst hg
      show (500 : Int) < 501
      decide
  have hlm2 : lm ((l ++ [fiveH p q]) ++ [fiveI]) = (501, 1) :: lm (l ++ [fiveH p q]) := by rw [lm_snoc, hls2]; rfl
  have L : least (l ++ [fiveH p q]) 500 = 6 + lkz (lm l) p + lkz (lm l) q := by
    unfold least
    rw [if_pos (vd_iff.2 m1), hlm, lkz_cons, if_pos rfl]
  refine ⟨vd_iff.2 m2, ?_, ?_, ?_⟩
  · rw [L]
    unfold least
    rw [if_pos (vd_iff.2 h.ok), if_pos (vd_iff.2 h.ok)]
  · unfold least
    rw [if_pos (vd_iff.2 m2), hlm2, lkz_cons, if_pos rfl]
  · rw [L]
    unfold least
    rw [if_pos (vd_iff.2 m2), hlm2, lkz_cons, if_neg (by decide), hlm, lkz_cons, if_pos rfl]
end Fx
open Go.RowKit in
theorem QsAt.below {w w' : World} {v : Value} {n : Nat} (h : QsAt w v n) (hb : Below w.heap.size w w') : QsAt w' v n := by
  rcases h with h | ⟨b, off, cap, rfl, h1, h2, h3, h4, h5⟩
  · exact .inl h
  · refine .inr ⟨b, off, cap, rfl, h1, h2, h3, Nat.lt_of_lt_of_le h4 hb.size, fun i j hi hj => ?_⟩
    obtain ⟨z, hz, hr⟩ := h5 i j hi hj
    exact ⟨z, (hb.cell (p := ⟨b, off + i * 4 + j, none⟩) h4).trans hz, hr⟩
end LawTabs
section LawSane
open Go.RowKit Go.Shelf Fx Go.Sort

set_option maxRecDepth 100000 in
set_option maxHeartbeats 4000000 in
theorem sane_any (er : Addr) (w : World) (hT : Txt w er) : Calls Tryz.prog 11 #[] w fun e w' => e = .returned (.bool true) ∧ Below w.heap.size w w' := by
  have HT := Lib.hid hT
  clear hT
  go_enter Tryz.func11, Tryz.ntmps11
  go_wp2_with fail
  refine (parseA_any er w HT.out).mono ?_
  rintro e w1 ⟨⟨a1, c1, rfl, h1⟩, hB⟩
  have B1 : Hid (Below w.heap.size w w1) := Lib.hid hB
  have L1 := Lib.hid h1
  clear hB h1
  go_wp2_with fail
  refine (parseM_any er w1 (HT.out.below B1.out)).mono ?_
  rintro e w2 ⟨⟨a2, o2, c2, rfl, h2, k1, k2⟩, hB⟩
  have B2 : Hid (Below w.heap.size w w2) := Lib.hid (B1.out.trans (hB.mono B1.out.size))
  have L1' := Lib.hid (L1.out.below hB)
  have M1 := Lib.hid h2
  clear hB h2 L1 B1
  go_wp2_with fail
  refine (parseB_any er w2 (HT.out.below B2.out)).mono ?_
  rintro e w3 ⟨rfl, hB⟩
  have B3 : Hid (Below w.heap.size w w3) := Lib.hid (B2.out.trans (hB.mono B2.out.size))
  have L1 := Lib.hid (L1'.out.below hB)
  have M2 := Lib.hid (M1.out.below hB)
  clear hB L1' M1 B2
  go_wp2_with fail
  refine (parseD_any er w3 (HT.out.below B3.out)).mono ?_
  rintro e w4 ⟨rfl, hB⟩
  have B4 : Hid (Below w.heap.size w w4) := Lib.hid (B3.out.trans (hB.mono B3.out.size))
  have L1' := Lib.hid (L1.out.below hB)
  have M1 := Lib.hid (M2.out.below hB)
  clear hB L1 M2 B3
  go_wp2_with fail
  refine (parseE_any er w4 (HT.out.below B4.out)).mono ?_
  rintro e w5 ⟨⟨a3, c3, rfl⟩, hB⟩
  have B5 : Hid (Below w.heap.size w w5) := Lib.hid (B4.out.trans (hB.mono B4.out.size))
  have L1 := Lib.hid (L1'.out.below hB)
  have M2 := Lib.hid (M1.out.below hB)
  clear hB L1' M1 B4
  go_wp2_with fail
  refine (parseK_any er w5 (HT.out.below B5.out)).mono ?_
  rintro e w6 ⟨rfl, hB⟩
  have B6 : Hid (Below w.heap.size w w6) := Lib.hid (B5.out.trans (hB.mono B5.out.size))
  have L1' := Lib.hid (L1.out.below hB)
  have M1 := Lib.hid (M2.out.below hB)
  clear hB L1 M2 B5
  go_wp2_with fail
  refine (Print_any _ [F2] (bs exA) 0 er w6 (HT.out.below B6.out) L1'.out ints_F2 (by unfold printT; rw [vd_A, if_pos rfl, text_A]) (by unfold printE; rw [vd_A, if_pos rfl])).mono ?_
  rintro e w7 ⟨rfl, hB⟩
  have B7 : Hid (Below w.heap.size w w7) := Lib.hid (B6.out.trans (hB.mono B6.out.size))
  have L1 := Lib.hid (L1'.out.below hB)
  have M2 := Lib.hid (M1.out.below hB)
  clear hB L1' M1 B6
  go_wp2_with fail
  refine (find7_any _ w7 M2.out).mono ?_
  rintro e w8 ⟨⟨x1, x2, x3, rfl⟩, hB⟩
  have B8 : Hid (Below w.heap.size w w8) := Lib.hid (B7.out.trans (hB.mono B7.out.size))
  have L1' := Lib.hid (L1.out.below hB)
  have M1 := Lib.hid (M2.out.below hB)
  clear hB L1 M2 B7
  go_wp2_with fail
  obtain ⟨w9, hw9⟩ : ∃ w9, w9 = w8.alloc (.cells #[.int .i64 7, .slice x1 x2 x3] 34) := ⟨_, rfl⟩
  rw [← hw9]
  have hB : Below w8.heap.size w8 w9 := by rw [hw9]; exact bx _
  have B9 : Hid (Below w.heap.size w w9) := Lib.hid (B8.out.trans (hB.mono B8.out.size))
  have L1 := Lib.hid (L1'.out.below hB)
  have M2 := Lib.hid (M1.out.below hB)
  clear hB L1' M1 B8 hw9
  refine (find8_any _ w9 M2.out).mono ?_
  rintro e wa ⟨rfl, hB⟩
  have B8 : Hid (Below w.heap.size w wa) := Lib.hid (B9.out.trans (hB.mono B9.out.size))
  have L1' := Lib.hid (L1.out.below hB)
  have M1 := Lib.hid (M2.out.below hB)
  clear hB L1 M2 B9
  go_wp2_with fail
  obtain ⟨wb, hwb⟩ : ∃ wb, wb = wa.alloc (.cells #[.int .i64 0, .slice none 0 0] 34) := ⟨_, rfl⟩
  rw [← hwb]
  have hB : Below wa.heap.size wa wb := by rw [hwb]; exact bx _
  have B9 : Hid (Below w.heap.size w wb) := Lib.hid (B8.out.trans (hB.mono B8.out.size))
  have L1 := Lib.hid (L1'.out.below hB)
  have M2 := Lib.hid (M1.out.below hB)
  clear hB L1' M1 B8 hwb
  refine (Least_any _ [F2, F7] 2 4 er wb (HT.out.below B9.out).err M2.out ints_M (by decide) (by decide) least_2).mono ?_
  rintro e wx ⟨rfl, hB⟩
  have Bx : Hid (Below w.heap.size w wx) := Lib.hid (B9.out.trans (hB.mono B9.out.size))
  have Lx := Lib.hid (L1.out.below hB)
  have Mx := Lib.hid (M2.out.below hB)
  clear hB L1 M2 B9
  go_wp2_with fail
  refine (Least_any _ [F2, F7] 7 6 er wx (HT.out.below Bx.out).err Mx.out ints_M (by decide) (by decide) least_7).mono ?_
  rintro e wy ⟨rfl, hB⟩
  have By : Hid (Below w.heap.size w wy) := Lib.hid (Bx.out.trans (hB.mono Bx.out.size))
  have Ly := Lib.hid (Lx.out.below hB)
  have My := Lib.hid (Mx.out.below hB)
  clear hB Lx Mx Bx
  go_wp2_with fail
  refine (Valid_any _ [F2, F7] true er wy (HT.out.below By.out).err My.out ints_M vd_M).mono ?_
  rintro e wz ⟨rfl, hB⟩
  have Bz : Hid (Below w.heap.size w wz) := Lib.hid (By.out.trans (hB.mono By.out.size))
  have Lz := Lib.hid (Ly.out.below hB)
  have Mz := Lib.hid (My.out.below hB)
  clear hB Ly My By
  go_wp2_with fail
  refine (Same_any _ _ [F2] [F2, F7] false wz Lz.out Mz.out (by decide)).mono ?_
  rintro e wu ⟨rfl, hB⟩
  have Bu : Hid (Below w.heap.size w wu) := Lib.hid (Bz.out.trans (hB.mono Bz.out.size))
  have Lu := Lib.hid (Lz.out.below hB)
  have Mu := Lib.hid (Mz.out.below hB)
  clear hB Lz Mz Bz
  go_wp2_with fail
  refine (Same_any _ _ [F2] [F2] true wu Lu.out (FmsAt.take (k := 1) Mu.out (by decide)) (by decide)).mono ?_
  rintro e wv ⟨rfl, hB⟩
  have Bv : Hid (Below w.heap.size w wv) := Lib.hid (Bu.out.trans (hB.mono Bu.out.size))
  have Lv := Lib.hid (Lu.out.below hB)
  have Mv := Lib.hid (Mu.out.below hB)
  clear hB Lu Mu Bu
  go_wp2_with fail
  refine (Valid_any _ [zm] false er _ (HT.out.below (Bv.out.alloc Bv.out.size _)).err (zms_at wv) ints_Z vd_Z).mono ?_
  rintro e wq ⟨rfl, hB⟩
  have BQ : Hid (Below w.heap.size w wq) := Lib.hid ((Bv.out.alloc Bv.out.size _).trans (hB.mono (Bv.out.alloc Bv.out.size _).size))
  clear hB Lv Mv Bv
  go_wp2_with fail
  go_ret
  exact ⟨rfl, BQ.out⟩
theorem lpick_any (c n r : Int) (w : World) (c1 : -9223372036854775808 ≤ c) (c2 : c ≤ 9223372036854775807) (n1 : 1 ≤ n) (n2 : n ≤ 9223372036854775807) (hr : pickI c n = r) :
    Calls Tryz.prog 15 #[.int .i64 c, .int .i64 n] w fun e w' => e = .returned (.int .i64 r) ∧ w' = w := by
  subst hr
  unfold pickI
  by_cases h : c < 0
  · rw [if_pos h]
    have e1 : (-(c + 1)).tmod n = (-(c + 1)) % n := Int.tmod_eq_emod_of_nonneg (by omega)
    go_enter Tryz.func15, Tryz.ntmps15
    go_wp2_with fail
    go_ret
    exact ⟨rfl, rfl⟩
  · rw [if_neg h]
    have e1 : c.tmod n = c % n := Int.tmod_eq_emod_of_nonneg (by omega)
    go_enter Tryz.func15, Tryz.ntmps15
    go_wp2_with fail
    go_ret
    exact ⟨rfl, rfl⟩
end LawSane
end Go.Proofs.YtcnokccgdiodlaaGreatDoor
