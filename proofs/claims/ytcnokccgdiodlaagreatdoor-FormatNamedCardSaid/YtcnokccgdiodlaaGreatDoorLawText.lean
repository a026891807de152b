/- Plain facts for the laws on texts: a valid table is read again from its text; what is read is valid, and has the text that was read; a line's being right depends on the lines up to it. No condition of its own. -/
import Derived.Test.YtcnokccgdiodlaaGreatDoorFmtText
import Derived.Test.YtcnokccgdiodlaaGreatDoorRefPlain
namespace Go.Proofs.YtcnokccgdiodlaaGreatDoor
namespace Fx
open Go.Lib (itoa)

/-- Lines, read one after another. -/
def reads : St → List (List UInt8) → Option St
  | s, [] => some s
  | s, p :: ps => (readO s p).bind fun s1 => reads s1 ps
theorem reads_append : ∀ (a b : List (List UInt8)) (s : St), reads s (a ++ b) = (reads s a).bind fun s1 => reads s1 b
  | [], b, s => rfl
  | p :: a, b, s => by
    rw [List.cons_append, reads, reads]
    cases readO s p with
    | none => rfl
    | some s1 => exact reads_append a b s1
def linesM (m : Fm) : List (List UInt8) := heading m.id :: m.fs.map lineF
def linesL (l : List Fm) : List (List UInt8) := l.flatMap linesM
theorem linesL_append (a b : List Fm) : linesL (a ++ b) = linesL a ++ linesL b := by unfold linesL; exact List.flatMap_append
theorem linesL_one (m : Fm) : linesL [m] = linesM m := by simp [linesL]
/-- Lines, each with its newline. -/
def put (ps : List (List UInt8)) : List UInt8 := ps.flatMap fun p => p ++ [10]
theorem put_append (a b : List (List UInt8)) : put (a ++ b) = put a ++ put b := by unfold put; exact List.flatMap_append
theorem put_cons (p : List UInt8) (b : List (List UInt8)) : put (p :: b) = p ++ 10 :: put b := by unfold put; simp
theorem put_fields : ∀ fs : List Fld, put (fs.map lineF) = textF fs
  | [] => rfl
  | f :: t => by
    rw [List.map_cons, put_cons, put_fields t]
    simp [textF]
theorem put_lines : ∀ l : List Fm, put (linesL l) = text l
  | [] => rfl
  | m :: t => by
    have e : linesL (m :: t) = linesM m ++ linesL t := by simp [linesL]
    rw [e, put_append, put_lines t]
    unfold linesM
    rw [put_cons, put_fields]
    simp [text, textM]
theorem sp_put : ∀ {ps : List (List UInt8)} {r : List UInt8}, (∀ p ∈ ps, ∀ x ∈ p, x ≠ (10 : UInt8)) → sp 10 (put ps ++ r) = ps ++ sp 10 r
  | [], r, _ => rfl
  | p :: ps, r, h => by
    rw [put_cons, List.append_assoc, List.cons_append, sp_here (h p (by simp)), sp_put fun q hq => h q (List.mem_cons_of_mem _ hq)]
    rfl
theorem no10_of {l : List UInt8} (h : ∀ c ∈ l, 32 ≤ c.toNat) : ∀ x ∈ l, x ≠ (10 : UInt8) := ne_of_ge h (by decide)
theorem itoa_32 (n : Int) : ∀ c ∈ itoa n, 32 ≤ c.toNat := fun c hc => by have := (itoa_mem n c hc).1; omega
theorem word_32 (k : Int) : ∀ c ∈ wordK k, 32 ≤ c.toNat := fun c hc => by have := wordK_mem c hc; omega
theorem heading_no10 (id : Int) : ∀ x ∈ heading id, x ≠ (10 : UInt8) := by
  refine no10_of fun c hc => ?_
  unfold heading at hc
  rcases List.mem_append.1 hc with h | h
  · have := wFormat_mem c h; omega
  · rcases List.mem_cons.1 h with rfl | h
    · decide
    · exact itoa_32 _ _ h
theorem from_32 (n : Int) : ∀ c ∈ wFrom ++ 32 :: itoa n, 32 ≤ c.toNat := fun c hc => by
  rcases List.mem_append.1 hc with h | h
  · have := wFrom_mem c h; omega
  · rcases List.mem_cons.1 h with rfl | h
    · decide
    · exact itoa_32 _ _ h
theorem lineF_no10 (f : Fld) : ∀ x ∈ lineF f, x ≠ (10 : UInt8) := by
  refine no10_of fun c hc => ?_
  unfold lineF at hc
  rcases List.mem_append.1 hc with h | h
  · exact word_32 _ _ h
  · rcases List.mem_cons.1 h with rfl | h
    · decide
    · unfold writeF at h
      split at h
      · have := hex_mem _ c h; omega
      · split at h
        · split at h
          · exact itoa_32 _ _ h
          · exact from_32 _ _ h
        · split at h
          · rcases List.mem_append.1 h with h | h
            · exact itoa_32 _ _ h
            · rcases List.mem_cons.1 h with rfl | h
              · decide
              · exact from_32 _ _ h
          · exact itoa_32 _ _ h
theorem linesL_no10 (l : List Fm) : ∀ p ∈ linesL l, ∀ x ∈ p, x ≠ (10 : UInt8) := by
  intro p hp
  unfold linesL at hp
  obtain ⟨m, _, hp⟩ := List.mem_flatMap.1 hp
  rcases List.mem_cons.1 hp with rfl | hp
  · exact heading_no10 _
  · obtain ⟨f, _, rfl⟩ := List.mem_map.1 hp
    exact lineF_no10 f

/-- A field that its line gives again. -/
def CG (f : Fld) : Prop := Canon f ∧ 1 ≤ f.kind ∧ f.kind ≤ 6 ∧ f.n.natAbs ≤ 1000000000 ∧ f.frm.natAbs ≤ 1000000000
theorem readO_line {s : St} {f : Fld} (h : CG f) : readO s (lineF f) = addO s f := by
  unfold readO
  rw [itemD_lineF h.1 h.2.1 h.2.2.1 h.2.2.2.1 h.2.2.2.2 (fun _ _ => trivial)]
  rfl
theorem readO_head {s : St} {id : Int} (h : id.natAbs ≤ 1000000000) : readO s (heading id) = beginO s id := by
  unfold readO
  rw [itemD_heading h]
  rfl
theorem reads_fields : ∀ {fs : List Fld} {s : St} {r : List (List UInt8)}, (∀ f ∈ fs, CG f) → reads s (fs.map lineF ++ r) = (addL s fs).bind fun s1 => reads s1 r
  | [], s, r, _ => rfl
  | f :: t, s, r, h => by
    rw [List.map_cons, List.cons_append, reads, readO_line (h f (by simp)), addL]
    cases addO s f with
    | none => rfl
    | some s1 => exact reads_fields fun g hg => h g (List.mem_cons_of_mem _ hg)
theorem reads_all : ∀ {l : List Fm} {s : St}, (∀ m ∈ l, m.id.natAbs ≤ 1000000000 ∧ ∀ f ∈ m.fs, CG f) → (reads s (linesL l)).bind endO = runL s l
  | [], s, _ => rfl
  | m :: t, s, h => by
    have e : linesL (m :: t) = heading m.id :: (m.fs.map lineF ++ linesL t) := by simp [linesL, linesM]
    rw [e, reads, readO_head (h m (by simp)).1, runL]
    cases beginO s m.id with
    | none => rfl
    | some s1 =>
      simp only [Option.bind_some]
      rw [reads_fields (h m (by simp)).2]
      cases addL s1 m.fs with
      | none => rfl
      | some s2 => exact reads_all fun x hx => h x (List.mem_cons_of_mem _ hx)
theorem right_cg {m : List (Int × Int)} {fs : List Fld} {f : Fld} (hs : Small m) (hl : fs.length ≤ 16) (h : right m fs f = true) : CG f := by
  obtain ⟨a, b, c, d, e, g, i, _⟩ := right_canon hs hl h
  exact ⟨a, b, c, by omega, by omega⟩
theorem FmOk.cg {d : List Fm} {f : Fm} (hd : Ok d) (h : FmOk d f) : f.id.natAbs ≤ 1000000000 ∧ ∀ g ∈ f.fs, CG g := by
  have h1 := h.lo
  have h2 := h.hi
  refine ⟨by omega, fun g hg => ?_⟩
  obtain ⟨k, hk, rfl⟩ := List.getElem_of_mem hg
  have hr := h.each k hk
  have := right_cg hd.small (by have := h.few; rw [List.length_take]; omega) hr
  simpa [List.getD, List.getElem?_eq_getElem hk] using this
theorem Ok.cg {l : List Fm} (h : Ok l) : ∀ m ∈ l, m.id.natAbs ≤ 1000000000 ∧ ∀ f ∈ m.fs, CG f := by
  intro m hm
  obtain ⟨i, hi, rfl⟩ := List.getElem_of_mem hm
  have h1 := h.each i hi
  have e : l.getD i zm = l[i] := by simp [List.getD, List.getElem?_eq_getElem hi]
  rw [e] at h1
  exact h1.cg (h.take i)

theorem parseL_go : ∀ {ps qs : List (List UInt8)} {s s1 : St} {k : Nat}, reads s ps = some s1 → qs ≠ [] → parseL s (ps ++ qs) k = parseL s1 qs (k + ps.length)
  | [], qs, s, s1, k, h, _ => by cases h; rfl
  | p :: ps, qs, s, s1, k, h, hq => by
    rw [reads] at h
    rw [List.cons_append, parseL_more (by simp [hq])]
    cases hr : readO s p with
    | none => rw [hr] at h; cases h
    | some s2 =>
      rw [hr] at h
      simp only [Option.bind_some] at h ⊢
      rw [parseL_go h hq, List.length_cons]
      congr 1; omega
theorem parseL_inv : ∀ {ps : List (List UInt8)} {s s2 : St} {k : Nat}, parseL s ps k = .ok s2 → ∃ qs s1, ps = qs ++ [[]] ∧ reads s qs = some s1 ∧ endO s1 = some s2
  | [], s, s2, k, h => by cases h
  | [p], s, s2, k, h => by
    unfold parseL at h
    split at h
    · rename_i hp
      cases he : endO s with
      | none => rw [he] at h; cases h
      | some s1 => rw [he] at h; cases h; exact ⟨[], s, by rw [hp]; rfl, rfl, he⟩
    · cases h
  | p :: q :: ps, s, s2, k, h => by
    unfold parseL at h
    cases hr : readO s p with
    | none => rw [hr] at h; cases h
    | some s3 =>
      rw [hr] at h
      obtain ⟨qs, s1, e, h1, h2⟩ := parseL_inv h
      exact ⟨p :: qs, s1, by rw [e]; rfl, by rw [reads, hr]; exact h1, h2⟩
theorem parseL_bad : ∀ {ps : List (List UInt8)} {s : St} {k n : Nat}, ps ≠ [] → parseL s ps k = .bad n → k ≤ n ∧ n < k + ps.length ∧ ∃ s1, reads s (ps.take (n - k)) = some s1 ∧ (n + 1 < k + ps.length → readO s1 (ps.getD (n - k) []) = none)
  | [], s, k, n, h, _ => absurd rfl h
  | [p], s, k, n, _, h => by
    unfold parseL at h
    have hn : n = k := by
      split at h
      · cases he : endO s with
        | none => rw [he] at h; cases h; rfl
        | some s1 => rw [he] at h; cases h
      · cases h; rfl
    subst hn
    exact ⟨Nat.le_refl _, by simp, s, by simp [reads], fun h => absurd h (by simp)⟩
  | p :: q :: ps, s, k, n, _, h => by
    unfold parseL at h
    cases hr : readO s p with
    | none =>
      rw [hr] at h
      cases h
      exact ⟨Nat.le_refl _, by simp, s, by simp [reads], fun _ => by simpa using hr⟩
    | some s3 =>
      rw [hr] at h
      obtain ⟨h1, h2, s1, h3, h4⟩ := parseL_bad (by simp) h
      obtain ⟨j, hj⟩ : ∃ j, n - k = j + 1 := ⟨n - k - 1, by omega⟩
      have hj2 : n - (k + 1) = j := by omega
      rw [hj2] at h3 h4
      simp only [List.length_cons] at h2 h4 ⊢
      refine ⟨by omega, by omega, s1, ?_, fun h5 => ?_⟩
      · rw [hj, List.take_succ_cons, reads, hr]; exact h3
      · rw [hj]
        have := h4 (by omega)
        simpa using this
/-- A valid table is read again from its text. -/
theorem parse_text {l : List Fm} (h : Ok l) : ∃ s, parseO (text l) = .ok s ∧ s.d = l := by
  obtain ⟨s, hs⟩ := build_ok h
  have h1 := reads_all (s := st0) h.cg
  have h2 := (build_some hs).1
  unfold buildO at hs
  rw [hs] at h1
  cases hr : reads st0 (linesL l) with
  | none => rw [hr] at h1; cases h1
  | some s1 =>
    rw [hr] at h1
    refine ⟨s, ?_, h2⟩
    have e : sp 10 (text l) = linesL l ++ [[]] := by
      have := sp_put (r := []) (linesL_no10 l)
      rw [List.append_nil, put_lines] at this
      exact this
    unfold parseO
    rw [e, parseL_go hr (by simp)]
    show parseL s1 [[]] _ = _
    unfold parseL
    rw [if_pos rfl]
    have h3 : endO s1 = some s := h1
    rw [h3]
theorem text_inj {l k : List Fm} (hl : Ok l) (hk : Ok k) (h : text l = text k) : l = k := by
  obtain ⟨s, h1, h2⟩ := parse_text hl
  obtain ⟨t, h3, h4⟩ := parse_text hk
  rw [h, h3] at h1
  cases h1
  rw [← h2, ← h4]
/-- The table that a beginning is. -/
def tab (s : St) : List Fm := if s.o.id = 0 then s.d else s.d ++ [s.o]
theorem endO_tab {s s1 : St} (h : endO s = some s1) : s1.d = tab s := endO_d h
theorem read_lines {s s1 : St} {p : List UInt8} (g : Good s) (h : readO s p = some s1) : Good s1 ∧ linesL (tab s1) = linesL (tab s) ++ [p] := by
  unfold readO at h
  cases hi : itemD p with
  | none => rw [hi] at h; cases h
  | some x =>
    rw [hi] at h
    cases x with
    | head id =>
      have hp := itemD_head hi
      have h2 : beginO s id = some s1 := h
      refine ⟨g.begin_ h2, ?_⟩
      unfold beginO at h2
      cases he : endO s with
      | none => rw [he] at h2; cases h2
      | some s2 =>
        rw [he] at h2
        simp only at h2
        split at h2
        · rename_i hc
          cases h2
          have hid : id ≠ 0 := by have := g.lo; omega
          have e : tab ⟨s2.d, ⟨id, []⟩⟩ = tab s ++ [⟨id, []⟩] := by
            have := endO_tab he
            rw [← this]
            unfold tab
            rw [if_neg hid]
          rw [e, linesL_append, linesL_one, hp]
          rfl
        · cases h2
    | fld f =>
      have hp := (itemD_fld hi).1
      have h2 : addO s f = some s1 := h
      refine ⟨g.add_ h2, ?_⟩
      unfold addO at h2
      split at h2
      · rename_i hb
        cases h2
        have hid := (addB_of hb).1
        have e1 : tab ⟨s.d, ⟨s.o.id, s.o.fs ++ [f]⟩⟩ = s.d ++ [⟨s.o.id, s.o.fs ++ [f]⟩] := by unfold tab; rw [if_neg (by show s.o.id ≠ 0; omega)]
        have e2 : tab s = s.d ++ [s.o] := by unfold tab; rw [if_neg (by omega)]
        rw [e1, e2, linesL_append, linesL_append, linesL_one, linesL_one, hp]
        simp [linesM]
      · cases h2
theorem reads_lines : ∀ {ps : List (List UInt8)} {s s1 : St}, Good s → reads s ps = some s1 → Good s1 ∧ linesL (tab s1) = linesL (tab s) ++ ps
  | [], s, s1, g, h => by cases h; exact ⟨g, by simp⟩
  | p :: ps, s, s1, g, h => by
    rw [reads] at h
    cases hr : readO s p with
    | none => rw [hr] at h; cases h
    | some s2 =>
      rw [hr] at h
      obtain ⟨g2, e2⟩ := read_lines g hr
      obtain ⟨g3, e3⟩ := reads_lines g2 h
      exact ⟨g3, by rw [e3, e2]; simp⟩
theorem tab0 : tab st0 = [] := rfl
theorem put_jn : ∀ ps : List (List UInt8), jn 10 (ps ++ [[]]) = put ps
  | [] => rfl
  | p :: ps => by rw [List.cons_append, jn_cons (by simp), put_jn ps, put_cons]
/-- What is read is valid, and has the text that was read. -/
theorem parse_inv {t : List UInt8} {s : St} (h : parseO t = .ok s) : Ok s.d ∧ text s.d = t := by
  obtain ⟨qs, s1, e, h1, h2⟩ := parseL_inv h
  obtain ⟨g, e2⟩ := reads_lines good0 h1
  refine ⟨(g.end_ h2).1, ?_⟩
  rw [endO_tab h2, ← put_lines, e2, tab0]
  show put qs = t
  rw [← put_jn, ← e, jn_sp]
/-- The line that is named lies behind lines that are right, and the one that is named is not, if it is not the last one. -/
theorem parse_bad {t : List UInt8} {n : Nat} (h : parseO t = .bad n) : 1 ≤ n ∧ n ≤ (sp 10 t).length ∧ ∃ s1, reads st0 ((sp 10 t).take (n - 1)) = some s1 ∧ (n < (sp 10 t).length → readO s1 ((sp 10 t).getD (n - 1) []) = none) := by
  obtain ⟨h1, h2, s1, h3, h4⟩ := parseL_bad (sp_ne 10 t) h
  exact ⟨h1, by omega, s1, h3, fun h5 => h4 (by omega)⟩
/-- Whatever follows makes no difference. -/
theorem parse_more {ps : List (List UInt8)} {p r : List UInt8} {s1 : St} (hp : ∀ q ∈ ps ++ [p], ∀ x ∈ q, x ≠ (10 : UInt8)) (h1 : reads st0 ps = some s1) (h2 : readO s1 p = none) : parseO (put (ps ++ [p]) ++ r) = .bad (ps.length + 1) := by
  unfold parseO
  rw [sp_put hp, List.append_assoc, parseL_go h1 (by simp), List.cons_append, List.nil_append, parseL_more (sp_ne 10 r), h2]
  simp only
  congr 1; omega
/-- The lines ahead of a heading that is right are a text. -/
theorem parse_whole {ps : List (List UInt8)} {p : List UInt8} {s1 s2 : St} (hp : ∀ q ∈ ps, ∀ x ∈ q, x ≠ (10 : UInt8)) (h1 : reads st0 ps = some s1) (h2 : readO s1 p = some s2) (h3 : p.take 6 = wFormat) : ∃ s, parseO (put ps) = .ok s := by
  have key : ∃ s, endO s1 = some s := by
    unfold readO at h2
    cases hi : itemD p with
    | none => rw [hi] at h2; cases h2
    | some x =>
      rw [hi] at h2
      cases x with
      | head id =>
        have h4 : beginO s1 id = some s2 := h2
        unfold beginO at h4
        cases he : endO s1 with
        | none => rw [he] at h4; cases h4
        | some s => exact ⟨s, rfl⟩
      | fld f =>
        obtain ⟨e, _, k1, k2⟩ := itemD_fld hi
        rw [e] at h3
        unfold lineF at h3
        obtain k | k | k | k | k | k : f.kind = 1 ∨ f.kind = 2 ∨ f.kind = 3 ∨ f.kind = 4 ∨ f.kind = 5 ∨ f.kind = 6 := by omega
        all_goals
          rw [k] at h3
          simp [wordK, wFormat] at h3
  obtain ⟨s, hs⟩ := key
  refine ⟨s, ?_⟩
  have e := sp_put (r := []) hp
  rw [List.append_nil] at e
  unfold parseO
  rw [e]
  show parseL st0 (ps ++ [[]]) 1 = _
  rw [parseL_go h1 (by simp)]
  unfold parseL
  rw [if_pos rfl, hs]
theorem parse_nil : ∃ s, parseO [] = .ok s := ⟨st0, rfl⟩
end Fx
end Go.Proofs.YtcnokccgdiodlaaGreatDoor
