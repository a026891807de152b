/- Plain facts on tables of formats: what a table is built of, when it is valid, and the least lengths. No condition of its own. Plain facts on the texts of tables: printed, read again line by line. No condition of its own. Small functions of package format: within, require, and what the kinds ask of a field by itself. Conditions: the variable of the error holds a pointer. -/
import Derived.Lib.AtoiAll
import Derived.Lib.ItoaNum
import Derived.Lib.IndexMore
import Derived.Test.YtlhobhfmombjjaaGreatDoorProg
import Derived.WalkKit
import Derived.Outline
import Derived.Below
import Derived.IntWalk
import Derived.LoopTactic
import Derived.Lib.Hide
import Derived.Deep.QuietTactic
import Derived.BigQuiet
import Derived.Tactics
import Derived.Tactics2
import Derived.WalkLawsBesides
import Derived.Laws.EntriesVeiled
namespace Go.Proofs.YtlhobhfmombjjaaGreatDoor
section FmtPlain
namespace Fx

/-- A field. -/
structure Fld where
  kind : Int
  n : Int
  frm : Int
  text : ByteArray
/-- A format. -/
structure Fm where
  id : Int
  fs : List Fld
/-- The field without anything. -/
def zf : Fld := ⟨0, 0, 0, ByteArray.empty⟩
/-- The format without anything. -/
def zm : Fm := ⟨0, []⟩

/-- What a list of pairs holds of a number. -/
def lk (m : List (Int × Int)) (id : Int) : Option Int := (m.find? fun p => decide (p.1 = id)).map (·.2)
def lkz (m : List (Int × Int)) (id : Int) : Int := (lk m id).getD 0
def knows (m : List (Int × Int)) (id : Int) : Bool := (lk m id).isSome
/-- The least length of a field. -/
def lf (m : List (Int × Int)) (f : Fld) : Int :=
  if f.kind = 1 then f.text.size else if f.kind = 4 then 0 else if f.kind = 5 then lkz m f.n else f.n
/-- The least length of fields. -/
def ls (m : List (Int × Int)) (fs : List Fld) : Int := (fs.map (lf m)).sum
/-- The least lengths of formats, the last one first. -/
def lm (d : List Fm) : List (Int × Int) := d.foldl (fun m f => (f.id, ls m f.fs) :: m) []

def counts (fs : List Fld) (q : Int) : Bool :=
  decide (0 ≤ q) && (decide (q < fs.length) && (decide ((fs.getD q.toNat zf).kind = 2) && !(fs.any fun g => decide (g.frm = q))))
def sized (lo hi : Int) (f : Fld) : Bool := decide (f.frm = -1) && (decide (f.text.size = 0) && (decide (lo ≤ f.n) && decide (f.n ≤ hi)))
def counted (fs : List Fld) (f : Fld) : Bool := decide (f.n = 0) && (decide (f.text.size = 0) && counts fs f.frm)
def nests (m : List (Int × Int)) (fs : List Fld) (f : Fld) : Bool := decide (f.text.size = 0) && (knows m f.n && counts fs f.frm)
def tells (m : List (Int × Int)) (fs : List Fld) (f : Fld) : Bool := decide (lkz m f.n < 2 ^ (8 * (fs.getD f.frm.toNat zf).n).toNat)
def literal (f : Fld) : Bool := decide (f.n = 0) && (decide (f.frm = -1) && (decide (1 ≤ f.text.size) && decide (f.text.size ≤ 16)))
/-- Whether a field may stand behind others. -/
def right (m : List (Int × Int)) (fs : List Fld) (f : Fld) : Bool :=
  if f.kind = 1 then literal f
  else if f.kind = 2 then sized 1 3 f
  else if f.kind = 3 then sized 0 4096 f || counted fs f
  else if f.kind = 4 then nests m fs f
  else if f.kind = 5 then nests m fs f && tells m fs f
  else if f.kind = 6 then sized 1 3 f
  else false

/-- The beginning of a table: formats that are complete, and the one that is open. -/
structure St where
  d : List Fm
  o : Fm
def st0 : St := ⟨[], zm⟩
def endO (s : St) : Option St := if s.o.id = 0 then some s else if s.o.fs.length = 0 then none else some ⟨s.d ++ [s.o], s.o⟩
def beginO (s : St) (id : Int) : Option St :=
  match endO s with
  | none => none
  | some s1 => if s1.d.length < 60 ∧ s.o.id < id ∧ id ≤ 1000000 then some ⟨s1.d, ⟨id, []⟩⟩ else none
def addB (s : St) (f : Fld) : Bool :=
  decide (0 < s.o.id) && (decide (s.o.fs.length < 16) && (right (lm s.d) s.o.fs f && decide (ls (lm s.d) (s.o.fs ++ [f]) ≤ 65536)))
def addO (s : St) (f : Fld) : Option St := if addB s f then some ⟨s.d, ⟨s.o.id, s.o.fs ++ [f]⟩⟩ else none
def addL : St → List Fld → Option St
  | s, [] => some s
  | s, f :: t => (addO s f).bind fun s1 => addL s1 t
def runL : St → List Fm → Option St
  | s, [] => endO s
  | s, f :: t => (beginO s f.id).bind fun s1 => (addL s1 f.fs).bind fun s2 => runL s2 t
/-- The table that a list is, if it is valid. -/
def buildO (l : List Fm) : Option St := runL st0 l
def vd (l : List Fm) : Bool := (buildO l).isSome
def least (l : List Fm) (id : Int) : Int := if vd l then lkz (lm l) id else 0

/-! The same, said at once. -/
/-- A format that may stand behind others. -/
structure FmOk (d : List Fm) (f : Fm) : Prop where
  lo : 1 ≤ f.id
  hi : f.id ≤ 1000000
  some_ : 1 ≤ f.fs.length
  few : f.fs.length ≤ 16
  each : ∀ k, k < f.fs.length → right (lm d) (f.fs.take k) (f.fs.getD k zf) = true
  len : ls (lm d) f.fs ≤ 65536
/-- The formats are valid. -/
structure Ok (l : List Fm) : Prop where
  few : l.length ≤ 60
  asc : ∀ i, i + 1 < l.length → (l.getD i zm).id < (l.getD (i + 1) zm).id
  each : ∀ i, i < l.length → FmOk (l.take i) (l.getD i zm)

theorem lm_nil : lm [] = [] := rfl
theorem lm_snoc (d : List Fm) (f : Fm) : lm (d ++ [f]) = (f.id, ls (lm d) f.fs) :: lm d := by unfold lm; rw [List.foldl_append]; rfl
theorem ls_nil (m : List (Int × Int)) : ls m [] = 0 := rfl
theorem ls_snoc (m : List (Int × Int)) (fs : List Fld) (f : Fld) : ls m (fs ++ [f]) = ls m fs + lf m f := by unfold ls; simp
theorem lk_nil (id : Int) : lk [] id = none := rfl
theorem lk_cons (p : Int × Int) (m : List (Int × Int)) (id : Int) : lk (p :: m) id = if p.1 = id then some p.2 else lk m id := by
  unfold lk
  rw [List.find?_cons]
  by_cases h : p.1 = id <;> simp [h]
theorem lkz_cons (p : Int × Int) (m : List (Int × Int)) (id : Int) : lkz (p :: m) id = if p.1 = id then p.2 else lkz m id := by
  unfold lkz; rw [lk_cons]; split <;> rfl

/-- All numbers of a list of pairs lie from 0 to 65536. -/
def Fine (m : List (Int × Int)) : Prop := ∀ id v, lk m id = some v → 0 ≤ v ∧ v ≤ 65536
theorem Fine.lkz {m : List (Int × Int)} (h : Fine m) (id : Int) : 0 ≤ lkz m id ∧ lkz m id ≤ 65536 := by
  unfold Fx.lkz
  cases hl : lk m id with
  | none => simp
  | some v => exact h id v hl
theorem fine_nil : Fine [] := fun id v h => by rw [lk_nil] at h; cases h
theorem Fine.cons {m : List (Int × Int)} (h : Fine m) {p : Int × Int} (h1 : 0 ≤ p.2) (h2 : p.2 ≤ 65536) : Fine (p :: m) := fun id v hv => by
  rw [lk_cons] at hv
  split at hv
  · cases hv; exact ⟨h1, h2⟩
  · exact h id v hv

theorem right_kind {m : List (Int × Int)} {fs : List Fld} {f : Fld} (h : right m fs f = true) : 1 ≤ f.kind ∧ f.kind ≤ 6 := by
  unfold right at h
  repeat' split at h
  all_goals first | omega | cases h
theorem sized_of {lo hi : Int} {f : Fld} (h : sized lo hi f = true) : f.frm = -1 ∧ f.text.size = 0 ∧ lo ≤ f.n ∧ f.n ≤ hi := by simpa [sized] using h
theorem literal_of {f : Fld} (h : literal f = true) : f.n = 0 ∧ f.frm = -1 ∧ 1 ≤ f.text.size ∧ f.text.size ≤ 16 := by simpa [literal] using h
theorem counts_of {fs : List Fld} {q : Int} (h : counts fs q = true) : 0 ≤ q ∧ q < fs.length ∧ (fs.getD q.toNat zf).kind = 2 ∧ ∀ g ∈ fs, g.frm ≠ q := by
  simp [counts] at h
  refine ⟨h.1, h.2.1, ?_, fun g hg he => h.2.2.2 g hg he⟩
  simpa [List.getD] using h.2.2.1
theorem nests_of {m : List (Int × Int)} {fs : List Fld} {f : Fld} (h : nests m fs f = true) : f.text.size = 0 ∧ knows m f.n = true ∧ counts fs f.frm = true := by simpa [nests] using h
theorem counted_of {fs : List Fld} {f : Fld} (h : counted fs f = true) : f.n = 0 ∧ f.text.size = 0 ∧ counts fs f.frm = true := by simpa [counted] using h
theorem right_lf {m : List (Int × Int)} {fs : List Fld} {f : Fld} (hm : Fine m) (h : right m fs f = true) : 0 ≤ lf m f ∧ lf m f ≤ 65536 := by
  unfold right at h
  unfold lf
  split at h
  · rename_i h1
    have := literal_of h
    rw [if_pos h1]; omega
  · rename_i h1
    rw [if_neg h1]
    split at h
    · rename_i h2
      have := sized_of h
      rw [if_neg (by omega), if_neg (by omega)]; omega
    · split at h
      · rename_i h3
        rw [if_neg (by omega), if_neg (by omega)]
        rcases Bool.or_eq_true_iff.1 h with h | h
        · have := sized_of h; omega
        · have := counted_of h; omega
      · split at h
        · rename_i h4; rw [if_pos h4]; omega
        · split at h
          · rename_i h4 h5
            rw [if_neg h4, if_pos h5]
            exact hm.lkz _
          · split at h
            · have := sized_of h
              rw [if_neg (by omega), if_neg (by omega)]; omega
            · cases h
/-- Where a field that may stand there has its number. -/
theorem right_frm {m : List (Int × Int)} {fs : List Fld} {f : Fld} (h : right m fs f = true) : f.frm = -1 ∨ counts fs f.frm = true := by
  unfold right at h
  split at h
  · exact .inl (literal_of h).2.1
  · split at h
    · exact .inl (sized_of h).1
    · split at h
      · rcases Bool.or_eq_true_iff.1 h with h | h
        · exact .inl (sized_of h).1
        · exact .inr (counted_of h).2.2
      · split at h
        · exact .inr (nests_of h).2.2
        · split at h
          · rw [Bool.and_eq_true] at h; exact .inr (nests_of h.1).2.2
          · split at h
            · exact .inl (sized_of h).1
            · cases h

/-! What holds of a beginning on the way. -/
structure Good (s : St) : Prop where
  pre : Ok s.d
  lo : 0 ≤ s.o.id
  hi : s.o.id ≤ 1000000
  few : s.o.fs.length ≤ 16
  each : ∀ k, k < s.o.fs.length → right (lm s.d) (s.o.fs.take k) (s.o.fs.getD k zf) = true
  len : ls (lm s.d) s.o.fs ≤ 65536
  none_ : s.o.id = 0 → s.o.fs = [] ∧ s.d = []
  /-- The one that is open comes behind all others, while it is being read. -/
  asc : ∀ g ∈ s.d, g.id < s.o.id
  room : s.o.id ≠ 0 → s.d.length < 60

theorem ok_nil : Ok [] := ⟨by simp, fun i h => by simp at h, fun i h => by simp at h⟩
theorem good0 : Good st0 := ⟨ok_nil, by decide, by decide, by decide, fun k h => by simp [st0, zm] at h, by decide, fun _ => ⟨rfl, rfl⟩, fun g hg => by simp [st0] at hg, fun h => absurd rfl h⟩

theorem getD_snoc_lt {α : Type} {l : List α} {x z : α} {i : Nat} (h : i < l.length) : (l ++ [x]).getD i z = l.getD i z := by
  simp [List.getD, List.getElem?_append_left h]
theorem getD_snoc_eq {α : Type} {l : List α} {x z : α} : (l ++ [x]).getD l.length z = x := by
  simp [List.getD]
theorem take_snoc_le {α : Type} {l : List α} {x : α} {i : Nat} (h : i ≤ l.length) : (l ++ [x]).take i = l.take i := by
  rw [List.take_append_of_le_length h]

theorem Ok.snoc {d : List Fm} {f : Fm} (h : Ok d) (hf : FmOk d f) (hl : d.length < 60) (ha : ∀ g ∈ d, g.id < f.id) : Ok (d ++ [f]) := by
  refine ⟨by simp; omega, fun i hi => ?_, fun i hi => ?_⟩
  · simp only [List.length_append, List.length_cons, List.length_nil] at hi
    by_cases h1 : i + 1 < d.length
    · rw [getD_snoc_lt (by omega), getD_snoc_lt h1]; exact h.asc i h1
    · have hdl : d.length = i + 1 := by omega
      rw [getD_snoc_lt (by omega)]
      have : (d ++ [f]).getD (i + 1) zm = f := by
        have := getD_snoc_eq (l := d) (x := f) (z := zm)
        rwa [hdl] at this
      rw [this]
      apply ha
      simp only [List.getD, List.getElem?_eq_getElem (show i < d.length by omega), Option.getD_some]
      exact List.getElem_mem _
  · simp only [List.length_append, List.length_cons, List.length_nil] at hi
    rw [take_snoc_le (by omega)]
    by_cases h1 : i < d.length
    · rw [getD_snoc_lt h1]; exact h.each i h1
    · obtain rfl : i = d.length := by omega
      rw [getD_snoc_eq, List.take_length]; exact hf

theorem Ok.take {l : List Fm} (h : Ok l) (k : Nat) : Ok (l.take k) := by
  refine ⟨by have := h.few; simp; omega, fun i hi => ?_, fun i hi => ?_⟩
  · simp only [List.length_take] at hi
    have := h.asc i (by omega)
    simpa [List.getD, List.getElem?_take, show i < k by omega, show i + 1 < k by omega] using this
  · simp only [List.length_take] at hi
    have := h.each i (by omega)
    rw [List.take_take, Nat.min_eq_left (by omega)]
    simpa [List.getD, List.getElem?_take, show i < k by omega] using this

theorem ls_nonneg {m : List (Int × Int)} (hm : Fine m) : ∀ {fs : List Fld}, (∀ k, k < fs.length → right m (fs.take k) (fs.getD k zf) = true) → 0 ≤ ls m fs := by
  intro fs
  generalize hn : fs.length = n
  induction n generalizing fs with
  | zero => intro _; rw [List.eq_nil_of_length_eq_zero hn, ls_nil]; omega
  | succ n ih =>
    intro h
    obtain ⟨t, f, rfl⟩ : ∃ t f, fs = t ++ [f] := ⟨fs.dropLast, fs.getLast (by intro e; rw [e] at hn; simp at hn), by rw [List.dropLast_concat_getLast]⟩
    have ht : t.length = n := by simpa using hn
    have h1 := ih ht fun k hk => by
      have := h k (by omega)
      rwa [take_snoc_le (by omega), getD_snoc_lt (by omega)] at this
    have h2 := h n (by omega)
    rw [← ht, getD_snoc_eq, take_snoc_le (Nat.le_refl _)] at h2
    have := (right_lf hm h2).1
    rw [ls_snoc]; omega

theorem Ok.snoc_inv {d : List Fm} {f : Fm} (h : Ok (d ++ [f])) : Ok d ∧ FmOk d f := by
  refine ⟨by have := h.take d.length; rwa [take_snoc_le (Nat.le_refl _), List.take_length] at this, ?_⟩
  have := h.each d.length (by simp)
  rwa [getD_snoc_eq, take_snoc_le (Nat.le_refl _), List.take_length] at this
theorem Ok.fine : ∀ {l : List Fm}, Ok l → Fine (lm l) := by
  intro l
  generalize hn : l.length = n
  induction n generalizing l with
  | zero => intro _; rw [List.eq_nil_of_length_eq_zero hn]; exact fine_nil
  | succ n ih =>
    intro h
    obtain ⟨d, f, rfl⟩ : ∃ t f, l = t ++ [f] := ⟨l.dropLast, l.getLast (by intro e; rw [e] at hn; simp at hn), by rw [List.dropLast_concat_getLast]⟩
    obtain ⟨h1, h2⟩ := h.snoc_inv
    have h3 := ih (by simpa using hn) h1
    rw [lm_snoc]
    exact h3.cons (ls_nonneg h3 h2.each) h2.len

theorem Good.fine {s : St} (h : Good s) : Fine (lm s.d) := h.pre.fine
theorem Good.fmOk {s : St} (h : Good s) (h0 : s.o.id ≠ 0) (h1 : s.o.fs.length ≠ 0) : FmOk s.d s.o :=
  ⟨by have := h.lo; omega, h.hi, by omega, h.few, h.each, h.len⟩
/-- What end gives is valid. -/
theorem Good.end_ {s s1 : St} (h : Good s) (h1 : endO s = some s1) : Ok s1.d ∧ (∀ g ∈ s1.d, g.id ≤ s.o.id) ∧ s1.o = s.o ∧ (s.o.id = 0 → s1.d = []) := by
  unfold endO at h1
  split at h1
  · rename_i h0
    cases h1
    exact ⟨h.pre, fun g hg => Int.le_of_lt (h.asc g hg), rfl, fun h0 => (h.none_ h0).2⟩
  · rename_i h0
    split at h1
    · cases h1
    · rename_i h2
      cases h1
      refine ⟨h.pre.snoc (h.fmOk h0 h2) (h.room h0) h.asc, fun g hg => ?_, rfl, fun h => absurd h h0⟩
      rcases List.mem_append.1 hg with hg | hg
      · exact Int.le_of_lt (h.asc g hg)
      · simp only [List.mem_singleton] at hg; subst hg; exact Int.le_refl _
theorem Good.begin_ {s s1 : St} {id : Int} (h : Good s) (h1 : beginO s id = some s1) : Good s1 := by
  unfold beginO at h1
  split at h1
  · cases h1
  · rename_i s2 h2
    obtain ⟨a, b, c, _⟩ := h.end_ h2
    split at h1
    · rename_i h3
      cases h1
      have := h.lo
      exact ⟨a, by show 0 ≤ id; omega, h3.2.2, by simp, fun k hk => by simp at hk, by rw [ls_nil]; omega, fun h0 => by simp at h0; omega, fun g hg => by have := b g hg; show g.id < id; omega, fun _ => h3.1⟩
    · cases h1
theorem addB_of {s : St} {f : Fld} (h : addB s f = true) : 0 < s.o.id ∧ s.o.fs.length < 16 ∧ right (lm s.d) s.o.fs f = true ∧ ls (lm s.d) (s.o.fs ++ [f]) ≤ 65536 := by simpa [addB] using h
theorem Good.add_ {s s1 : St} {f : Fld} (h : Good s) (h1 : addO s f = some s1) : Good s1 := by
  unfold addO at h1
  split at h1
  · rename_i h2
    obtain ⟨a, b, c, d⟩ := addB_of h2
    cases h1
    refine ⟨h.pre, h.lo, h.hi, by simp; omega, fun k hk => ?_, d, fun h0 => by simp at h0; omega, h.asc, h.room⟩
    simp only [List.length_append, List.length_cons, List.length_nil] at hk
    simp only
    rw [take_snoc_le (by omega)]
    by_cases hk1 : k < s.o.fs.length
    · rw [getD_snoc_lt hk1]; exact h.each k hk1
    · obtain rfl : k = s.o.fs.length := by omega
      rw [getD_snoc_eq, List.take_length]; exact c
  · cases h1

/-! A valid list is built, and is what was built. -/
theorem addL_some : ∀ {t : List Fld} {s s1 : St}, addL s t = some s1 → s1 = ⟨s.d, ⟨s.o.id, s.o.fs ++ t⟩⟩
  | [], s, s1, h => by cases h; simp
  | f :: t, s, s1, h => by
    unfold addL at h
    cases h1 : addO s f with
    | none => rw [h1] at h; cases h
    | some s2 =>
      rw [h1] at h
      have h2 := addL_some h
      unfold addO at h1
      split at h1
      · cases h1; rw [h2]; simp
      · cases h1
theorem Good.addL_ : ∀ {t : List Fld} {s s1 : St}, Good s → addL s t = some s1 → Good s1
  | [], s, s1, g, h => by cases h; exact g
  | f :: t, s, s1, g, h => by
    unfold addL at h
    cases h1 : addO s f with
    | none => rw [h1] at h; cases h
    | some s2 => rw [h1] at h; exact Good.addL_ (g.add_ h1) h
theorem endO_d {s s1 : St} (h : endO s = some s1) : s1.d = if s.o.id = 0 then s.d else s.d ++ [s.o] := by
  unfold endO at h
  split at h
  · rename_i h0; cases h; rw [if_pos h0]
  · rename_i h0
    split at h
    · cases h
    · cases h; rw [if_neg h0]
theorem runL_some : ∀ {l : List Fm} {s s1 : St}, Good s → runL s l = some s1 → (∀ f ∈ l, f.id ≠ 0) ∧ s1.d = (if s.o.id = 0 then s.d else s.d ++ [s.o]) ++ l ∧ Ok s1.d
  | [], s, s1, g, h => by
    unfold runL at h
    exact ⟨by simp, by rw [endO_d h]; simp, (g.end_ h).1⟩
  | f :: t, s, s1, g, h => by
    unfold runL at h
    cases h1 : beginO s f.id with
    | none => rw [h1] at h; cases h
    | some s2 =>
      rw [h1] at h
      simp only [Option.bind_some] at h
      cases h2 : addL s2 f.fs with
      | none => rw [h2] at h; cases h
      | some s3 =>
        rw [h2] at h
        simp only [Option.bind_some] at h
        have g2 := g.begin_ h1
        have g3 := g2.addL_ h2
        have e3 := addL_some h2
        obtain ⟨i1, i2, i3⟩ := runL_some g3 h
        unfold beginO at h1
        split at h1
        · cases h1
        · rename_i s4 h4
          split at h1
          · rename_i hc
            cases h1
            have hid : f.id ≠ 0 := by have := g.lo; omega
            rw [e3] at i2
            simp only [hid, if_false, List.nil_append] at i2
            refine ⟨fun x hx => ?_, ?_, i3⟩
            · rcases List.mem_cons.1 hx with rfl | hx
              · exact hid
              · exact i1 x hx
            · rw [i2, endO_d h4]; simp
          · cases h1
theorem build_some {l : List Fm} {s : St} (h : buildO l = some s) : s.d = l ∧ Ok l := by
  obtain ⟨_, h2, h3⟩ := runL_some good0 h
  have e : s.d = l := by rw [h2]; simp [st0, zm]
  exact ⟨e, e ▸ h3⟩
theorem sum_nonneg {m : List (Int × Int)} : ∀ {t : List Fld}, (∀ x ∈ t, 0 ≤ lf m x) → 0 ≤ (t.map (lf m)).sum
  | [], _ => by simp
  | a :: t, h => by
    simp only [List.map_cons, List.sum_cons]
    have h1 := h a (by simp)
    have h2 := sum_nonneg (m := m) (t := t) fun x hx => h x (List.mem_cons_of_mem _ hx)
    omega
theorem addL_ok {d : List Fm} {id : Int} (hid : 0 < id) (hm : Fine (lm d)) : ∀ {t fs : List Fld}, (fs ++ t).length ≤ 16 → (∀ k, k < (fs ++ t).length → right (lm d) ((fs ++ t).take k) ((fs ++ t).getD k zf) = true) → ls (lm d) (fs ++ t) ≤ 65536 →
    addL ⟨d, ⟨id, fs⟩⟩ t = some ⟨d, ⟨id, fs ++ t⟩⟩
  | [], fs, _, _, _ => by simp [addL]
  | f :: t, fs, h1, h2, h3 => by
    have e : fs ++ f :: t = (fs ++ [f]) ++ t := by simp
    rw [e] at h1 h2 h3
    have hb : addB ⟨d, ⟨id, fs⟩⟩ f = true := by
      have hr := h2 fs.length (by simp)
      rw [List.append_assoc, List.take_append_of_le_length (Nat.le_refl _), List.take_length] at hr
      have : (fs ++ ([f] ++ t)).getD fs.length zf = f := by simp [List.getD]
      rw [this] at hr
      have hl : ls (lm d) (fs ++ [f]) ≤ 65536 := by
        have h4 : ls (lm d) ((fs ++ [f]) ++ t) = ls (lm d) (fs ++ [f]) + ls (lm d) t := by unfold ls; simp [Int.add_assoc]
        have h5 : 0 ≤ ls (lm d) t := by
          unfold ls
          have : ∀ x ∈ t, 0 ≤ lf (lm d) x := by
            intro x hx
            obtain ⟨j, hj, hjx⟩ := List.getElem_of_mem hx
            have hk := h2 ((fs ++ [f]).length + j) (by simp; omega)
            have : ((fs ++ [f]) ++ t).getD ((fs ++ [f]).length + j) zf = x := by
              simp only [List.getD]
              rw [List.getElem?_append_right (by omega)]
              simp [hj, hjx]
            rw [this] at hk
            exact (right_lf hm hk).1
          exact sum_nonneg this
        omega
      simp only [List.length_append, List.length_cons, List.length_nil] at h1
      simp [addB, hid, hr, hl, show fs.length < 16 by omega]
    have ih := addL_ok hid hm (t := t) (fs := fs ++ [f]) h1 h2 h3
    rw [addL, addO, if_pos hb]
    simpa using ih
theorem runL_ok : ∀ {t d : List Fm} {o : Fm}, Good ⟨d, o⟩ → (o.id = 0 ∨ o.fs.length ≠ 0) → Ok ((if o.id = 0 then d else d ++ [o]) ++ t) → (∀ f ∈ t.head?, o.id < f.id) → (runL ⟨d, o⟩ t).isSome = true
  | [], d, o, g, h0, _, _ => by
    unfold runL endO
    simp only
    split
    · rfl
    · rename_i h1
      rw [if_neg (by rcases h0 with h0 | h0; exact absurd h0 h1; exact h0)]
      rfl
  | f :: t, d, o, g, h0, h1, h2 => by
    obtain ⟨D, hD⟩ : ∃ D, D = if o.id = 0 then d else d ++ [o] := ⟨_, rfl⟩
    rw [← hD] at h1
    have he : endO ⟨d, o⟩ = some ⟨D, o⟩ := by
      unfold endO
      simp only
      split
      · rename_i h3; rw [hD, if_pos h3]
      · rename_i h3
        rw [if_neg (by rcases h0 with h0 | h0; exact absurd h0 h3; exact h0), hD, if_neg h3]
    have hf : FmOk D f := by
      have := h1.each D.length (by simp)
      rw [List.take_append_of_le_length (Nat.le_refl _), List.take_length] at this
      have e : (D ++ f :: t).getD D.length zm = f := by simp [List.getD]
      rwa [e] at this
    have hlt : o.id < f.id := h2 f (by simp)
    have hDl : D.length < 60 := by have := h1.few; simp at this; omega
    have hb : beginO ⟨d, o⟩ f.id = some ⟨D, ⟨f.id, []⟩⟩ := by
      unfold beginO
      rw [he]
      simp only
      rw [if_pos ⟨hDl, hlt, hf.hi⟩]
    have hOD : Ok D := by have := h1.take D.length; rwa [List.take_append_of_le_length (Nat.le_refl _), List.take_length] at this
    have ha := addL_ok (d := D) (id := f.id) (by have := hf.lo; omega) hOD.fine (t := f.fs) (fs := []) (by simpa using hf.few) (by simpa using hf.each) (by simpa using hf.len)
    have g2 := g.begin_ hb
    have g3 := g2.addL_ ha
    rw [runL, hb]
    simp only [Option.bind_some]
    rw [ha]
    simp only [Option.bind_some, List.nil_append] at g3 ⊢
    have hid : f.id ≠ 0 := by have := hf.lo; omega
    refine runL_ok g3 (.inr (by have := hf.some_; simp only; omega)) ?_ ?_
    · rw [if_neg hid]; simpa using h1
    · intro x hx
      cases t with
      | nil => simp at hx
      | cons y t =>
        simp at hx; subst hx
        have := h1.asc D.length (by simp)
        simpa [List.getD, List.getElem?_append_right] using this
theorem build_ok {l : List Fm} (h : Ok l) : ∃ s, buildO l = some s := by
  have := runL_ok (t := l) (d := []) (o := zm) good0 (.inl rfl) (by simpa [zm] using h) (fun f hf => by
    cases l with
    | nil => simp at hf
    | cons y t =>
      simp at hf; subst hf
      have := (h.each 0 (by simp)).lo
      simp [List.getD] at this
      simp [zm]; omega)
  exact Option.isSome_iff_exists.1 this
theorem vd_iff {l : List Fm} : vd l = true ↔ Ok l := by
  unfold vd
  constructor
  · intro h
    obtain ⟨s, hs⟩ := Option.isSome_iff_exists.1 h
    exact (build_some hs).2
  · intro h
    obtain ⟨s, hs⟩ := build_ok h
    rw [hs]; rfl
end Fx
end FmtPlain
section FmtText
namespace Fx
open Go.Lib (itoa decDigits atoiAll parseUint10 parseMag NumEnd)

/-! digits -/
theorem dig_nat (k : Nat) (h : k < 10) : (UInt8.ofNat (48 + k)).toNat = 48 + k := by rw [UInt8.toNat_ofNat']; omega
theorem dec_small {u : Nat} (h : u < 10) : decDigits u = [UInt8.ofNat (48 + u)] := by rw [decDigits, dif_pos h]
theorem dec_big {u : Nat} (h : ¬ u < 10) : decDigits u = decDigits (u / 10) ++ [UInt8.ofNat (48 + u % 10)] := by rw [decDigits, dif_neg h]
theorem dec_mem (u : Nat) : ∀ c ∈ decDigits u, 48 ≤ c.toNat ∧ c.toNat ≤ 57 := by
  induction u using Nat.strongRecOn with
  | ind u ih =>
    intro c hc
    by_cases h : u < 10
    · rw [dec_small h] at hc
      simp only [List.mem_singleton] at hc
      subst hc; rw [dig_nat u h]; omega
    · rw [dec_big h] at hc
      rcases List.mem_append.1 hc with hc | hc
      · exact ih (u / 10) (by omega) c hc
      · simp only [List.mem_singleton] at hc
        subst hc; rw [dig_nat _ (by omega)]; omega
theorem dec_ne_nil (u : Nat) : decDigits u ≠ [] := by
  by_cases h : u < 10
  · rw [dec_small h]; simp
  · rw [dec_big h]; simp
theorem itoa_mem (n : Int) : ∀ c ∈ itoa n, 45 ≤ c.toNat ∧ c.toNat ≤ 57 := by
  intro c hc
  unfold itoa at hc
  split at hc
  · rcases List.mem_cons.1 hc with h | h
    · subst h; decide
    · have := dec_mem _ _ h; omega
  · have := dec_mem _ _ hc; omega
theorem itoa_pos {n : Int} (h : 0 ≤ n) : itoa n = decDigits n.toNat := by unfold itoa; rw [if_neg (by omega)]
theorem itoa_ne_nil (n : Int) : itoa n ≠ [] := by
  unfold itoa
  split
  · simp
  · exact dec_ne_nil _
/-! what is printed is read again -/
theorem pu_snoc : ∀ (l : List UInt8) (acc a : Nat) (c : UInt8), parseUint10 acc l = .ok a → a < 1844674407370955161 → 48 ≤ c.toNat → c.toNat ≤ 57 → parseUint10 acc (l ++ [c]) = .ok (a * 10 + (c.toNat - 48))
  | [], acc, a, c, h, ha, h1, h2 => by
    simp only [parseUint10] at h
    injection h with h
    subst h
    simp only [List.nil_append, parseUint10]
    rw [if_pos ⟨h1, h2⟩, if_neg (by omega), if_neg (by omega)]
  | x :: r, acc, a, c, h, ha, h1, h2 => by
    simp only [parseUint10] at h
    simp only [List.cons_append, parseUint10]
    split at h
    · rename_i hx
      rw [if_pos hx]
      split at h
      · cases h
      · rename_i hy
        rw [if_neg hy]
        split at h
        · cases h
        · rename_i hz
          rw [if_neg hz]
          exact pu_snoc r _ a c h ha h1 h2
    · cases h
theorem pu_dec (u : Nat) (hu : u < 1844674407370955161) : parseUint10 0 (decDigits u) = .ok u := by
  induction u using Nat.strongRecOn with
  | ind u ih =>
    by_cases h : u < 10
    · rw [dec_small h]
      have := pu_snoc [] 0 0 (UInt8.ofNat (48 + u)) rfl (by omega) (by rw [dig_nat u h]; omega) (by rw [dig_nat u h]; omega)
      rw [List.nil_append, dig_nat u h] at this
      rw [this]
      congr 1; omega
    · rw [dec_big h]
      have := pu_snoc _ 0 (u / 10) (UInt8.ofNat (48 + u % 10)) (ih (u / 10) (by omega) (by omega)) (by omega) (by rw [dig_nat _ (by omega)]; omega) (by rw [dig_nat _ (by omega)]; omega)
      rw [dig_nat _ (by omega)] at this
      rw [this]
      congr 1; omega
theorem pm_dec (u : Nat) (hu : u < 1844674407370955161) : parseMag (decDigits u) = .ok u := by
  unfold parseMag
  rw [if_neg (dec_ne_nil u), pu_dec u hu]
theorem atoi_itoa (n : Int) (h : n.natAbs ≤ 1000000000) : atoiAll (itoa n) = .ok n := by
  unfold itoa
  by_cases hn : n < 0
  · rw [if_pos hn]
    simp only [atoiAll]
    rw [if_pos (by right; rfl), pm_dec _ (by omega)]
    simp only [show (45 : UInt8).toNat = 45 from rfl, not_true, false_and, if_false, true_and, if_true]
    rw [if_neg (by omega)]
    congr 1; omega
  · rw [if_neg hn]
    have hm := dec_mem n.toNat
    have hp := pm_dec n.toNat (by omega)
    generalize decDigits n.toNat = l at hm hp
    cases l with
    | nil => cases hp
    | cons c r =>
      have := hm c (List.mem_cons_self ..)
      simp only [atoiAll]
      rw [if_neg (by omega), hp]
      have h45 : ¬ c.toNat = 45 := by omega
      simp only [h45, not_false_eq_true, true_and, false_and, if_false]
      rw [if_neg (by omega)]
      congr 1; omega
def numO (l : List UInt8) : Option Int :=
  match atoiAll l with
  | .ok n => some n
  | _ => none
theorem numO_itoa (n : Int) (h : n.natAbs ≤ 1000000000) : numO (itoa n) = some n := by
  unfold numO; rw [atoi_itoa n h]

/-! words -/
/-- The parts of a list between the places where a byte stands. -/
def sp (c : UInt8) : List UInt8 → List (List UInt8)
  | [] => [[]]
  | x :: t => if x = c then [] :: sp c t else
    match sp c t with
    | [] => [[x]]
    | p :: ps => (x :: p) :: ps
theorem sp_ne (c : UInt8) : ∀ l, sp c l ≠ []
  | [] => by simp [sp]
  | x :: t => by
    unfold sp
    split
    · simp
    · split <;> simp
theorem sp_nowhere {c : UInt8} : ∀ {a : List UInt8}, (∀ x ∈ a, x ≠ c) → sp c a = [a]
  | [], _ => rfl
  | x :: t, h => by
    unfold sp
    rw [if_neg (h x (by simp)), sp_nowhere fun y hy => h y (List.mem_cons_of_mem _ hy)]
theorem sp_here {c : UInt8} {b : List UInt8} : ∀ {a : List UInt8}, (∀ x ∈ a, x ≠ c) → sp c (a ++ c :: b) = a :: sp c b
  | [], _ => by rw [List.nil_append, sp, if_pos rfl]
  | x :: t, h => by
    rw [List.cons_append, sp, if_neg (h x (by simp)), sp_here fun y hy => h y (List.mem_cons_of_mem _ hy)]
/-- The parts again, put together. -/
def jn (c : UInt8) : List (List UInt8) → List UInt8
  | [] => []
  | [p] => p
  | p :: q :: ps => p ++ c :: jn c (q :: ps)
theorem jn_cons {c : UInt8} {p : List UInt8} {ps : List (List UInt8)} (h : ps ≠ []) : jn c (p :: ps) = p ++ c :: jn c ps := by
  cases ps with
  | nil => exact absurd rfl h
  | cons q ps => rfl
theorem jn_sp (c : UInt8) : ∀ l, jn c (sp c l) = l
  | [] => rfl
  | x :: t => by
    have ih := jn_sp c t
    unfold sp
    split
    · rename_i h
      rw [jn_cons (sp_ne c t), ih, h]; rfl
    · have hne := sp_ne c t
      generalize sp c t = q at ih hne
      match q, hne with
      | p :: ps, _ =>
        cases ps with
        | nil => simp only [jn] at ih ⊢; rw [ih]
        | cons q ps => rw [jn_cons (by simp)] at ih ⊢; rw [← ih]; rfl
theorem sp_mem (c : UInt8) : ∀ l, ∀ p ∈ sp c l, ∀ x ∈ p, x ≠ c
  | [], p, hp, x, hx => by simp [sp] at hp; subst hp; simp at hx
  | y :: t, p, hp, x, hx => by
    have ih := sp_mem c t
    unfold sp at hp
    split at hp
    · rcases List.mem_cons.1 hp with rfl | hp
      · simp at hx
      · exact ih p hp x hx
    · rename_i hy
      have hne := sp_ne c t
      generalize sp c t = q at ih hne hp
      match q, hne with
      | r :: rs, _ =>
        rcases List.mem_cons.1 hp with rfl | hp
        · rcases List.mem_cons.1 hx with rfl | hx
          · exact hy
          · exact ih r (by simp) x hx
        · exact ih p (List.mem_cons_of_mem _ hp) x hx
theorem index_here (c : UInt8) (b : List UInt8) : ∀ (a : List UInt8), (∀ x ∈ a, x ≠ c) → Lib.index (a ++ c :: b) [c] = a.length
  | [], _ => by simp [Lib.index, List.isPrefixOf]
  | x :: t, h => by
    have hx : x ≠ c := h x (List.mem_cons_self ..)
    have ih := index_here c b t fun y hy => h y (List.mem_cons_of_mem _ hy)
    have hp : List.isPrefixOf [c] (x :: (t ++ c :: b)) = false := by
      simp only [List.isPrefixOf, Bool.and_true]
      exact beq_false_of_ne (Ne.symm hx)
    rw [List.cons_append, Lib.index, hp, ih]
    have : (((t.length : Nat) : Int) == -1) = false := by rw [beq_eq_false_iff_ne]; omega
    simp [this]
theorem index_nowhere (c : UInt8) : ∀ (a : List UInt8), (∀ x ∈ a, x ≠ c) → Lib.index a [c] = -1
  | [], _ => by simp [Lib.index]
  | x :: t, h => by
    have hx : x ≠ c := h x (List.mem_cons_self ..)
    have ih := index_nowhere c t fun y hy => h y (List.mem_cons_of_mem _ hy)
    have hp : List.isPrefixOf [c] (x :: t) = false := by
      simp only [List.isPrefixOf, Bool.and_true]
      exact beq_false_of_ne (Ne.symm hx)
    rw [Lib.index, hp, ih]; simp
theorem cut_here {c : UInt8} {a b : List UInt8} (h : ∀ x ∈ a, x ≠ c) : Lib.cut (a ++ c :: b) [c] = (a, b, true) := by
  unfold Lib.cut
  rw [index_here c b a h, if_pos (by omega)]
  simp [List.drop_append]
theorem cut_nowhere {c : UInt8} {a : List UInt8} (h : ∀ x ∈ a, x ≠ c) : Lib.cut a [c] = (a, [], false) := by
  unfold Lib.cut
  rw [index_nowhere c a h, if_neg (by omega)]
/-- What a cut gives, in terms of the parts. -/
theorem cut_sp (c : UInt8) (l : List UInt8) : ∃ p ps, sp c l = p :: ps ∧ ((ps = [] ∧ p = l ∧ Lib.cut l [c] = (p, [], false)) ∨ (ps ≠ [] ∧ sp c (jn c ps) = ps ∧ l = p ++ c :: jn c ps ∧ Lib.cut l [c] = (p, jn c ps, true))) := by
  have hj := jn_sp c l
  have hm := sp_mem c l
  have hne := sp_ne c l
  generalize hq : sp c l = q at hj hm hne
  match q, hne with
  | p :: ps, _ =>
    refine ⟨p, ps, rfl, ?_⟩
    have hp : ∀ x ∈ p, x ≠ c := hm p (by simp)
    cases ps with
    | nil =>
      left
      have : p = l := hj
      subst this
      exact ⟨rfl, rfl, cut_nowhere hp⟩
    | cons q ps =>
      right
      rw [jn_cons (by simp)] at hj
      refine ⟨by simp, ?_, hj.symm, by rw [← hj]; exact cut_here hp⟩
      rw [← hj, sp_here hp] at hq
      injection hq

/-! lines -/
def wFormat : List UInt8 := [102, 111, 114, 109, 97, 116]
def wFrom : List UInt8 := [102, 114, 111, 109]
def wordK (k : Int) : List UInt8 :=
  if k = 1 then [108, 105, 116, 101, 114, 97, 108] else if k = 2 then [110, 117, 109, 98, 101, 114] else if k = 3 then [98, 121, 116, 101, 115]
  else if k = 4 then [108, 105, 115, 116] else if k = 5 then [105, 110, 115, 105, 100, 101] else if k = 6 then [99, 104, 101, 99, 107] else []
/-- The kind with a word; 0 if there is none. -/
def kindOf (w : List UInt8) : Int :=
  if w = [108, 105, 116, 101, 114, 97, 108] then 1 else if w = [110, 117, 109, 98, 101, 114] then 2 else if w = [98, 121, 116, 101, 115] then 3
  else if w = [108, 105, 115, 116] then 4 else if w = [105, 110, 115, 105, 100, 101] then 5 else if w = [99, 104, 101, 99, 107] then 6 else 0
def hexD (n : Nat) : UInt8 := if n < 10 then UInt8.ofNat (48 + n) else UInt8.ofNat (87 + n)
def hex (l : List UInt8) : List UInt8 := l.flatMap fun c => [hexD (c.toNat / 16), hexD (c.toNat % 16)]
def heading (id : Int) : List UInt8 := wFormat ++ 32 :: itoa id
def writeF (f : Fld) : List UInt8 :=
  if f.kind = 1 then hex f.text.data.toList
  else if f.kind = 3 then (if f.frm = -1 then itoa f.n else wFrom ++ 32 :: itoa f.frm)
  else if f.kind = 4 ∨ f.kind = 5 then itoa f.n ++ 32 :: (wFrom ++ 32 :: itoa f.frm)
  else itoa f.n
def lineF (f : Fld) : List UInt8 := wordK f.kind ++ 32 :: writeF f
def textF (fs : List Fld) : List UInt8 := fs.flatMap fun f => lineF f ++ [10]
def textM (m : Fm) : List UInt8 := heading m.id ++ 10 :: textF m.fs
def text (l : List Fm) : List UInt8 := l.flatMap textM

/-- The value of a hexadecimal digit, whatever its case. -/
def hexV (c : UInt8) : Option Nat :=
  if 48 ≤ c.toNat ∧ c.toNat ≤ 57 then some (c.toNat - 48) else if 97 ≤ c.toNat ∧ c.toNat ≤ 102 then some (c.toNat - 87) else if 65 ≤ c.toNat ∧ c.toNat ≤ 70 then some (c.toNat - 55) else none
def unhexO : List UInt8 → Option (List UInt8)
  | [] => some []
  | [_] => none
  | a :: b :: t =>
    match hexV a, hexV b with
    | some x, some y => (unhexO t).map fun l => UInt8.ofNat (16 * x + y) :: l
    | _, _ => none
def eb : ByteArray := ByteArray.empty
def numW (r : List (List UInt8)) : Option Int :=
  match r with
  | [] => none
  | p :: _ => numO p
/-- What is read of the words behind the first one. -/
def readK (k : Int) (r : List (List UInt8)) : Option Fld :=
  if k = 1 then (match r with | [] => none | p :: _ => (unhexO p).map fun l => ⟨0, 0, -1, ⟨l.toArray⟩⟩)
  else if k = 3 then (match r with | [] => none | p :: r' => if p = wFrom then (numW r').map fun n => ⟨0, 0, n, eb⟩ else (numO p).map fun n => ⟨0, n, -1, eb⟩)
  else if k = 4 ∨ k = 5 then (match r with
    | [] => none
    | p :: r' => match numO p with
      | none => none
      | some n => match r' with
        | [] => none
        | q :: r'' => if q = wFrom then (numW r'').map fun m => ⟨0, n, m, eb⟩ else none)
  else (numW r).map fun n => ⟨0, n, -1, eb⟩
def setK (k : Int) (f : Fld) : Fld := ⟨k, f.n, f.frm, f.text⟩
/-- What a line says: a format's number, or a field. -/
inductive Item where
  | head (id : Int)
  | fld (f : Fld)
def itemD (line : List UInt8) : Option Item :=
  match sp 32 line with
  | [] => none
  | w :: r =>
    if w = wFormat then
      match numW r with
      | none => none
      | some id => if line = heading id then some (.head id) else none
    else if kindOf w = 0 then none
    else
      match readK (kindOf w) r with
      | none => none
      | some f => if line = lineF (setK (kindOf w) f) then some (.fld (setK (kindOf w) f)) else none
def applyO (s : St) : Item → Option St
  | .head id => beginO s id
  | .fld f => addO s f
def readO (s : St) (line : List UInt8) : Option St :=
  match itemD line with
  | none => none
  | some x => applyO s x
/-- What parsing ends in: the table's end, or the number of a line. -/
inductive PR where
  | ok (s : St)
  | bad (k : Nat)
def parseL : St → List (List UInt8) → Nat → PR
  | _, [], k => .bad k
  | s, [p], k => if p = [] then (match endO s with | some s1 => .ok s1 | none => .bad k) else .bad k
  | s, p :: q :: ps, k => match readO s p with
    | some s1 => parseL s1 (q :: ps) (k + 1)
    | none => .bad k
def parseO (l : List UInt8) : PR := parseL st0 (sp 10 l) 1
theorem parseL_more {s : St} {p : List UInt8} {ps : List (List UInt8)} {k : Nat} (h : ps ≠ []) : parseL s (p :: ps) k = match readO s p with
    | some s1 => parseL s1 ps (k + 1)
    | none => .bad k := by
  cases ps with
  | nil => exact absurd rfl h
  | cons q ps => rfl

/-! a field as its line gives it -/
/-- A field has nothing that its line does not say. -/
def Canon (f : Fld) : Prop :=
  (f.kind = 1 ∧ f.n = 0 ∧ f.frm = -1) ∨ ((f.kind = 2 ∨ f.kind = 6) ∧ f.frm = -1 ∧ f.text = eb) ∨ (f.kind = 3 ∧ f.text = eb ∧ (f.frm = -1 ∨ f.n = 0)) ∨ ((f.kind = 4 ∨ f.kind = 5) ∧ f.text = eb)
theorem kindOf_wordK {k : Int} (h1 : 1 ≤ k) (h2 : k ≤ 6) : kindOf (wordK k) = k := by
  obtain rfl | rfl | rfl | rfl | rfl | rfl : k = 1 ∨ k = 2 ∨ k = 3 ∨ k = 4 ∨ k = 5 ∨ k = 6 := by omega
  all_goals rfl
theorem wordK_mem {k : Int} : ∀ c ∈ wordK k, 97 ≤ c.toNat := by
  unfold wordK
  repeat' split
  all_goals (intro c hc; simp at hc; try (rcases hc with rfl | rfl | rfl | rfl | rfl | rfl | rfl <;> decide))
  all_goals (try (rcases hc with rfl | rfl | rfl | rfl | rfl | rfl <;> decide))
  all_goals (try (rcases hc with rfl | rfl | rfl | rfl | rfl <;> decide))
  all_goals (try (rcases hc with rfl | rfl | rfl | rfl <;> decide))
theorem wordK_ne {k : Int} (h1 : 1 ≤ k) (h2 : k ≤ 6) : wordK k ≠ wFormat := by
  obtain rfl | rfl | rfl | rfl | rfl | rfl : k = 1 ∨ k = 2 ∨ k = 3 ∨ k = 4 ∨ k = 5 ∨ k = 6 := by omega
  all_goals decide
theorem kindOf_le (w : List UInt8) : 0 ≤ kindOf w ∧ kindOf w ≤ 6 := by
  unfold kindOf
  repeat' split
  all_goals omega
theorem wFormat_mem : ∀ c ∈ wFormat, 97 ≤ c.toNat := by decide
theorem wFrom_mem : ∀ c ∈ wFrom, 97 ≤ c.toNat := by decide
theorem ne_of_ge {l : List UInt8} {b : Nat} (h : ∀ c ∈ l, b ≤ c.toNat) {d : UInt8} (hd : d.toNat < b) : ∀ c ∈ l, c ≠ d := fun c hc he => by
  have := h c hc
  subst he; omega
theorem hexD_toNat {n : Nat} (h : n < 16) : (hexD n).toNat = if n < 10 then 48 + n else 87 + n := by
  unfold hexD
  split <;> rw [UInt8.toNat_ofNat'] <;> omega
theorem hexV_hexD {n : Nat} (h : n < 16) : hexV (hexD n) = some n := by
  unfold hexV
  rw [hexD_toNat h]
  by_cases h1 : n < 10
  · rw [if_pos h1, if_pos (by omega)]; congr 1; omega
  · rw [if_neg h1, if_neg (by omega), if_pos (by omega)]; congr 1; omega
theorem hex_mem (l : List UInt8) : ∀ c ∈ hex l, 48 ≤ c.toNat := by
  intro c hc
  unfold hex at hc
  obtain ⟨x, _, hx⟩ := List.mem_flatMap.1 hc
  have := x.toNat_lt
  simp only [List.mem_cons, List.not_mem_nil, or_false] at hx
  rcases hx with rfl | rfl
  · rw [hexD_toNat (by omega)]; split <;> omega
  · rw [hexD_toNat (by omega)]; split <;> omega
theorem unhex_hex : ∀ l : List UInt8, unhexO (hex l) = some l
  | [] => rfl
  | c :: t => by
    have ih := unhex_hex t
    have := c.toNat_lt
    show unhexO (hexD (c.toNat / 16) :: hexD (c.toNat % 16) :: hex t) = _
    rw [unhexO, hexV_hexD (by omega), hexV_hexD (by omega), ih]
    simp only [Option.map_some]
    congr 2
    apply UInt8.toNat_inj.1
    rw [UInt8.toNat_ofNat']; omega
theorem itemD_head {line : List UInt8} {id : Int} (h : itemD line = some (.head id)) : line = heading id := by
  unfold itemD at h
  split at h
  · cases h
  · split at h
    · split at h
      · cases h
      · split at h
        · rename_i he; cases h; exact he
        · cases h
    · split at h
      · cases h
      · split at h
        · cases h
        · split at h <;> cases h
theorem readK_canon {k : Int} {r : List (List UInt8)} {f : Fld} (h1 : 1 ≤ k) (h2 : k ≤ 6) (h : readK k r = some f) : Canon (setK k f) := by
  have key : ∀ {o : Option Int} {n m : Int → Int}, (o.map fun x => (⟨0, n x, m x, eb⟩ : Fld)) = some f → ∃ x, f = ⟨0, n x, m x, eb⟩ := by
    intro o n m h
    cases o with
    | none => cases h
    | some x => cases h; exact ⟨x, rfl⟩
  unfold readK at h
  unfold Canon setK
  by_cases k1 : k = 1
  · rw [if_pos k1] at h
    cases r with
    | nil => cases h
    | cons p r =>
      simp only at h
      cases hu : unhexO p with
      | none => rw [hu] at h; cases h
      | some l => rw [hu] at h; cases h; exact .inl ⟨k1, rfl, rfl⟩
  · rw [if_neg k1] at h
    by_cases k3 : k = 3
    · rw [if_pos k3] at h
      cases r with
      | nil => cases h
      | cons p r =>
        simp only at h
        split at h
        · obtain ⟨x, rfl⟩ := key (n := fun _ => 0) (m := fun x => x) h
          exact .inr (.inr (.inl ⟨k3, rfl, .inr rfl⟩))
        · obtain ⟨x, rfl⟩ := key (n := fun x => x) (m := fun _ => -1) h
          exact .inr (.inr (.inl ⟨k3, rfl, .inl rfl⟩))
    · rw [if_neg k3] at h
      by_cases k4 : k = 4 ∨ k = 5
      · rw [if_pos k4] at h
        cases r with
        | nil => cases h
        | cons p r =>
          simp only at h
          cases hn : numO p with
          | none => rw [hn] at h; cases h
          | some n =>
            rw [hn] at h
            cases r with
            | nil => cases h
            | cons q r =>
              simp only at h
              split at h
              · obtain ⟨x, rfl⟩ := key (n := fun _ => n) (m := fun x => x) h
                exact .inr (.inr (.inr ⟨k4, rfl⟩))
              · cases h
      · rw [if_neg k4] at h
        obtain ⟨x, rfl⟩ := key (n := fun x => x) (m := fun _ => -1) h
        exact .inr (.inl ⟨by simp only; omega, rfl, rfl⟩)
theorem itemD_fld {line : List UInt8} {f : Fld} (h : itemD line = some (.fld f)) : line = lineF f ∧ Canon f ∧ 1 ≤ f.kind ∧ f.kind ≤ 6 := by
  unfold itemD at h
  split at h
  · cases h
  · rename_i w r _
    split at h
    · split at h
      · cases h
      · split at h <;> cases h
    · split at h
      · cases h
      · rename_i hk
        have := kindOf_le w
        split at h
        · cases h
        · rename_i g hg
          split at h
          · rename_i he
            cases h
            exact ⟨he, readK_canon (by omega) (by omega) hg, by show 1 ≤ kindOf w; omega, by show kindOf w ≤ 6; omega⟩
          · cases h
theorem itemD_heading {id : Int} (h : id.natAbs ≤ 1000000000) : itemD (heading id) = some (.head id) := by
  have e : sp 32 (heading id) = [wFormat, itoa id] := by
    unfold heading
    rw [sp_here (ne_of_ge wFormat_mem (by decide)), sp_nowhere (ne_of_ge (fun c hc => (itoa_mem id c hc).1) (by decide))]
  unfold itemD
  rw [e]
  simp only [if_true, numW, numO_itoa id h]
theorem sp_two {a b c d e : List UInt8} (ha : ∀ x ∈ a, x ≠ (32 : UInt8)) (hb : ∀ x ∈ b, x ≠ (32 : UInt8)) : sp 32 (a ++ 32 :: b) = [a, b] ∧ ((∀ x ∈ c, x ≠ (32 : UInt8)) → sp 32 (a ++ 32 :: (b ++ 32 :: c)) = [a, b, c]) ∧
    ((∀ x ∈ d, x ≠ (32 : UInt8)) → (∀ x ∈ e, x ≠ (32 : UInt8)) → sp 32 (a ++ 32 :: (b ++ 32 :: (d ++ 32 :: e))) = [a, b, d, e]) := by
  refine ⟨by rw [sp_here ha, sp_nowhere hb], fun hc => by rw [sp_here ha, sp_here hb, sp_nowhere hc], fun hd he => by rw [sp_here ha, sp_here hb, sp_here hd, sp_nowhere he]⟩
theorem itoa_no32 (n : Int) : ∀ x ∈ itoa n, x ≠ (32 : UInt8) := ne_of_ge (fun c hc => (itoa_mem n c hc).1) (by decide)
theorem wFrom_ne_itoa (n : Int) : itoa n ≠ wFrom := fun h => by
  have := (itoa_mem n 102 (by rw [h]; decide)).2
  exact absurd this (by decide)
theorem itemD_lineF {f : Fld} (hc : Canon f) (h1 : 1 ≤ f.kind) (h2 : f.kind ≤ 6) (hn : f.n.natAbs ≤ 1000000000) (hf : f.frm.natAbs ≤ 1000000000) (hF : f.kind = 3 → f.frm ≠ -1 → True) : itemD (lineF f) = some (.fld f) := by
  have hw : ∀ x ∈ wordK f.kind, x ≠ (32 : UInt8) := ne_of_ge wordK_mem (by decide)
  have key : ∀ r g, sp 32 (lineF f) = wordK f.kind :: r → readK f.kind r = some g → setK f.kind g = f → itemD (lineF f) = some (.fld f) := by
    intro r g e hr hg
    unfold itemD
    rw [e]
    simp only
    rw [if_neg (wordK_ne h1 h2), kindOf_wordK h1 h2, if_neg (by omega), hr]
    simp only [hg, if_true]
  rcases hc with ⟨k, n0, f0⟩ | ⟨k, f0, t0⟩ | ⟨k, t0, hh⟩ | ⟨k, t0⟩
  · refine key [hex f.text.data.toList] ⟨0, 0, -1, f.text⟩ ?_ ?_ ?_
    · unfold lineF writeF
      rw [if_pos k]
      exact (sp_two (c := []) (d := []) (e := []) hw (ne_of_ge (hex_mem _) (by decide))).1
    · unfold readK
      rw [if_pos k]
      simp only [unhex_hex, Option.map_some]
    · obtain ⟨kind, n, frm, text⟩ := f
      simp only at k n0 f0
      subst n0; subst f0; rfl
  · refine key [itoa f.n] ⟨0, f.n, -1, eb⟩ ?_ ?_ ?_
    · unfold lineF writeF
      rw [if_neg (by omega), if_neg (by omega), if_neg (by omega)]
      exact (sp_two (c := []) (d := []) (e := []) hw (itoa_no32 _)).1
    · unfold readK
      rw [if_neg (by omega), if_neg (by omega), if_neg (by omega)]
      simp only [numW, numO_itoa _ hn, Option.map_some]
    · obtain ⟨kind, n, frm, text⟩ := f
      simp only at k t0 f0
      subst t0; subst f0; rfl
  · by_cases hm : f.frm = -1
    · refine key [itoa f.n] ⟨0, f.n, -1, eb⟩ ?_ ?_ ?_
      · unfold lineF writeF
        rw [if_neg (by omega), if_pos k, if_pos hm]
        exact (sp_two (c := []) (d := []) (e := []) hw (itoa_no32 _)).1
      · unfold readK
        rw [if_neg (by omega), if_pos k]
        simp only [if_neg (wFrom_ne_itoa f.n), numO_itoa _ hn, Option.map_some]
      · obtain ⟨kind, n, frm, text⟩ := f
        simp only at k t0 hm
        subst t0; subst hm; rfl
    · refine key [wFrom, itoa f.frm] ⟨0, 0, f.frm, eb⟩ ?_ ?_ ?_
      · unfold lineF writeF
        rw [if_neg (by omega), if_pos k, if_neg hm]
        exact (sp_two (c := itoa f.frm) (d := []) (e := []) hw (ne_of_ge wFrom_mem (by decide))).2.1 (itoa_no32 _)
      · unfold readK
        rw [if_neg (by omega), if_pos k]
        simp only [if_true, numW, numO_itoa _ hf, Option.map_some]
      · obtain ⟨kind, n, frm, text⟩ := f
        simp only at k t0 hm hh
        obtain rfl : n = 0 := by rcases hh with h | h; exact absurd h hm; exact h
        subst t0; rfl
  · refine key [itoa f.n, wFrom, itoa f.frm] ⟨0, f.n, f.frm, eb⟩ ?_ ?_ ?_
    · unfold lineF writeF
      rw [if_neg (by omega), if_neg (by omega), if_pos k]
      exact (sp_two (c := []) (d := wFrom) (e := itoa f.frm) hw (itoa_no32 _)).2.2 (ne_of_ge wFrom_mem (by decide)) (itoa_no32 _)
    · unfold readK
      rw [if_neg (by omega), if_neg (by omega), if_pos k]
      simp only [if_true, numW, numO_itoa _ hn, numO_itoa _ hf, Option.map_some]
    · obtain ⟨kind, n, frm, text⟩ := f
      simp only at t0
      subst t0; rfl
/-- What a field that may stand there is like. -/
theorem size_eb {t : ByteArray} (h : t.size = 0) : t = eb := by
  obtain ⟨⟨l⟩⟩ := t
  have : l.length = 0 := h
  cases l with
  | nil => rfl
  | cons a l => simp at this
/-- All numbers of a list of pairs are small. -/
def Small (m : List (Int × Int)) : Prop := ∀ id v, lk m id = some v → 0 ≤ id ∧ id ≤ 1000000
theorem right_canon {m : List (Int × Int)} {fs : List Fld} {f : Fld} (hs : Small m) (hl : fs.length ≤ 16) (h : right m fs f = true) : Canon f ∧ 1 ≤ f.kind ∧ f.kind ≤ 6 ∧ 0 ≤ f.n ∧ f.n ≤ 1000000 ∧ -1 ≤ f.frm ∧ f.frm ≤ 16 ∧ f.text.size ≤ 16 := by
  have hk := right_kind h
  have ha : ∀ {q}, knows m q = true → 0 ≤ q ∧ q ≤ 1000000 := by
    intro q hq
    obtain ⟨v, hv⟩ := Option.isSome_iff_exists.1 hq
    exact hs q v hv
  unfold right at h
  unfold Canon
  split at h
  · rename_i k
    have := literal_of h
    exact ⟨.inl ⟨k, this.1, this.2.1⟩, by omega⟩
  · split at h
    · rename_i k
      have := sized_of h
      exact ⟨.inr (.inl ⟨.inl k, this.1, size_eb this.2.1⟩), by omega⟩
    · split at h
      · rename_i k
        rcases Bool.or_eq_true_iff.1 h with h | h
        · have := sized_of h
          exact ⟨.inr (.inr (.inl ⟨k, size_eb this.2.1, .inl this.1⟩)), by omega⟩
        · have := counted_of h
          have h2 := counts_of this.2.2
          exact ⟨.inr (.inr (.inl ⟨k, size_eb this.2.1, .inr this.1⟩)), by omega⟩
      · split at h
        · rename_i k
          have := nests_of h
          have h2 := counts_of this.2.2
          have h3 := ha this.2.1
          exact ⟨.inr (.inr (.inr ⟨.inl k, size_eb this.1⟩)), by omega⟩
        · split at h
          · rename_i k
            rw [Bool.and_eq_true] at h
            have := nests_of h.1
            have h2 := counts_of this.2.2
            have h3 := ha this.2.1
            exact ⟨.inr (.inr (.inr ⟨.inr k, size_eb this.1⟩)), by omega⟩
          · split at h
            · rename_i k
              have := sized_of h
              exact ⟨.inr (.inl ⟨.inr k, this.1, size_eb this.2.1⟩), by omega⟩
            · cases h
theorem Ok.small : ∀ {l : List Fm}, Ok l → Small (lm l) := by
  intro l
  generalize hn : l.length = n
  induction n generalizing l with
  | zero => intro _; rw [List.eq_nil_of_length_eq_zero hn]; intro id v h; rw [lm_nil, lk_nil] at h; cases h
  | succ n ih =>
    intro h
    obtain ⟨d, f, rfl⟩ : ∃ t f, l = t ++ [f] := ⟨l.dropLast, l.getLast (by intro e; rw [e] at hn; simp at hn), by rw [List.dropLast_concat_getLast]⟩
    obtain ⟨h1, h2⟩ := h.snoc_inv
    have h3 := ih (by simpa using hn) h1
    rw [lm_snoc]
    intro id v hv
    rw [lk_cons] at hv
    split at hv
    · rename_i he
      simp only at he
      have := h2.lo; have := h2.hi
      omega
    · exact h3 id v hv
end Fx
end FmtText
section FmtA
open Go.RowKit Fx

/-- A field as a value. -/
abbrev fldV (f : Fld) : Value := .agg #[.int .i64 f.kind, .int .i64 f.n, .int .i64 f.frm, .string f.text]
/-- The error as a value. -/
abbrev errV (a : Addr) : Value := .iface 225 (.pointer (some a))
/-- The variable of the error holds a pointer. -/
structure ErrAt (w : World) (a : Addr) : Prop where
  cell : w.cell? ⟨1, 0, none⟩ = some (errV a)
theorem ErrAt.lt {w : World} {a : Addr} (h : ErrAt w a) : 1 < w.heap.size := World.block_lt_of_cell? (h := h.cell)
theorem ErrAt.below {w w' : World} {a : Addr} (h : ErrAt w a) (hb : Below w.heap.size w w') : ErrAt w' a := ⟨(hb.cell (p := ⟨1, 0, none⟩) h.lt).trans h.cell⟩
theorem bcell {W w1 : World} {B : Nat} (hb : Below B W w1) : (∀ b o, b < B → w1.cell? ⟨b, o, none⟩ = W.cell? ⟨b, o, none⟩) ∧ (∀ b o, b < B → w1.frozen? ⟨b, o, none⟩ = W.frozen? ⟨b, o, none⟩) :=
  ⟨fun b o h => hb.cell (p := ⟨b, o, none⟩) h, fun b o h => hb.frozen (p := ⟨b, o, none⟩) h⟩
theorem ret_bool {a b : Bool} (h : a = b) : Ending.returned (.bool a) = .returned (.bool b) := by rw [h]
theorem ret_int {k : IntKind} {a b : Int} (h : a = b) : Ending.returned (.int k a) = .returned (.int k b) := by rw [h]

/-- A function that has a body is entered. -/
def Enters (fn : FuncId) : Prop := ∀ (args : Array Value) (w : World), (callFunc fn args).run Tryz.prog w = .ok (.enter fn args) w
theorem enters_of {f : FuncId} {fn : Func} (hf : Tryz.prog.funcs[f]? = some fn) (hn : (fn.name == "runtime.NumGoroutine") = false) (hb : fn.body.isNone = false) : Enters f := fun args w => by
  have hn' : fn.name ≠ "runtime.NumGoroutine" := by simpa using hn
  have hb' : fn.body ≠ none := by intro h; rw [h] at hb; cases hb
  unfold callFunc
  simp [go_sem, hf, hn', hb']
/-- What a function without results that may stop the reading ends in. -/
def ends (a : Addr) : Bool → Ending
  | true => .returned (.tuple #[])
  | false => .panicked [{ v := errV a, recovered := false }]

theorem require_any (c : Bool) (er : Addr) (w : World) (hE : ErrAt w er) :
    Calls Tryz.prog 120 #[.bool c] w fun e w' => e = ends er c ∧ w = w' := by
  have hc := hE.cell
  cases c with
  | true =>
    clear hc hE
    go_enter Tryz.func120, Tryz.ntmps120
    go_wp2
    go_end0
    exact ⟨rfl, rfl⟩
  | false =>
    clear hE
    go_enter Tryz.func120, Tryz.ntmps120
    go_wp2
    exact ⟨rfl, rfl, rfl⟩

def withinB (n lo hi : Int) : Bool := decide (lo ≤ n) && decide (n ≤ hi)
theorem within_any (n lo hi : Int) (v : Bool) (w : World) (hv : withinB n lo hi = v) :
    Calls Tryz.prog 122 #[.int .i64 n, .int .i64 lo, .int .i64 hi] w fun e w' => e = .returned (.bool v) ∧ w = w' := by
  unfold withinB at hv
  by_cases h1 : lo ≤ n
  · have hv2 : decide (n ≤ hi) = v := by simpa [h1] using hv
    have HV := Lib.hid hv2
    clear hv hv2
    go_enter Tryz.func122, Tryz.ntmps122
    go_wp2
    go_ret
    exact ⟨ret_bool HV.out, rfl⟩
  · have h2 : decide (lo ≤ n) = false := by simpa using h1
    have hv2 : false = v := by simpa [h1] using hv
    have HV := Lib.hid hv2
    clear hv hv2
    go_enter Tryz.func122, Tryz.ntmps122
    go_wp2
    go_ret
    exact ⟨ret_bool HV.out, rfl⟩

theorem dd {p q : Prop} [Decidable p] [Decidable q] (h : p ↔ q) : decide p = decide q := decide_eq_decide.2 h
theorem bx {w : World} (o : Obj) : Below w.heap.size w (w.alloc o) := (Below.refl _ _).alloc (Nat.le_refl _) _

theorem literal_any (v0 : Value) (f : Fld) (v : Bool) (w : World) (hf : f.text.size ≤ 9223372036854775807) (hv : literal f = v) :
    Calls Tryz.prog 121 #[v0, fldV f] w fun e w' => e = .returned (.bool v) ∧ Below w.heap.size w w' := by
  have HV := Lib.hid hv
  clear hv
  by_cases h1 : f.n = 0
  · by_cases h2 : f.frm = -1
    · obtain ⟨u, hu⟩ : ∃ u, withinB (f.text.size : Int) 1 16 = u := ⟨_, rfl⟩
      have HU := Lib.hid hu
      clear hu
      have d1 : ((f.n : Int) == 0) = true := by simpa using h1
      have d2 : ((f.frm : Int) == -1) = true := by simpa using h2
      have HH := Lib.hid (And.intro h1 h2)
      clear h1 h2
      go_enter Tryz.func121, Tryz.ntmps121
      go_wp2_with fail
      refine (within_any _ _ _ u _ HU.out).mono ?_
      rintro e w' ⟨rfl, rfl⟩
      go_wp2_with fail
      go_ret
      refine ⟨ret_bool ?_, bx _⟩
      rw [← HV.out, ← HU.out]
      unfold literal withinB
      rw [decide_eq_true HH.out.1, decide_eq_true HH.out.2, Bool.true_and, Bool.true_and]
      congr 1
      · exact dd (by omega)
      · exact dd (by omega)
    · have d1 : ((f.n : Int) == 0) = true := by simpa using h1
      have d2 : ((f.frm : Int) == -1) = false := by simpa using h2
      have HH : Hid (false = v) := Lib.hid (by rw [← HV.out]; simp [literal, h2])
      clear h1 h2
      go_enter Tryz.func121, Tryz.ntmps121
      go_wp2_with fail
      go_ret
      exact ⟨ret_bool HH.out, bx _⟩
  · have d1 : ((f.n : Int) == 0) = false := by simpa using h1
    have HH : Hid (false = v) := Lib.hid (by rw [← HV.out]; simp [literal, h1])
    clear h1
    go_enter Tryz.func121, Tryz.ntmps121
    go_wp2_with fail
    go_ret
    exact ⟨ret_bool HH.out, bx _⟩
theorem textLen_any (v0 : Value) (f : Fld) (w : World) :
    Calls Tryz.prog 123 #[v0, fldV f] w fun e w' => e = .returned (.int .i64 f.text.size) ∧ Below w.heap.size w w' := by
  go_enter Tryz.func123, Tryz.ntmps123
  go_wp2_with fail
  go_ret
  exact ⟨rfl, bx _⟩
theorem zeroLen_any (v0 : Value) (f : Fld) (w : World) :
    Calls Tryz.prog 131 #[v0, fldV f] w fun e w' => e = .returned (.int .i64 0) ∧ Below w.heap.size w w' := by
  go_enter Tryz.func131, Tryz.ntmps131
  go_wp2_with fail
  go_ret
  exact ⟨rfl, bx _⟩
theorem nLen_any (v0 : Value) (f : Fld) (w : World) :
    Calls Tryz.prog 141 #[v0, fldV f] w fun e w' => e = .returned (.int .i64 f.n) ∧ Below w.heap.size w w' := by
  go_enter Tryz.func141, Tryz.ntmps141
  go_wp2_with fail
  go_ret
  exact ⟨rfl, bx _⟩
theorem str_empty (t : ByteArray) : t.toList = [] ↔ t.size = 0 := by
  rw [ByteArray.toList_eq]
  obtain ⟨⟨l⟩⟩ := t
  show l = [] ↔ l.length = 0
  exact List.length_eq_zero_iff.symm
theorem sized_any (v0 : Value) (lo hi : Int) (p q : Addr) (f : Fld) (v : Bool) (w : World) (hp : w.cell? p = some (.int .i64 lo)) (hq : w.cell? q = some (.int .i64 hi)) (hv : Fx.sized lo hi f = v) :
    Calls Tryz.prog 140 #[v0, fldV f, .pointer (some p), .pointer (some q)] w fun e w' => e = .returned (.bool v) ∧ Below w.heap.size w w' := by
  have HV := Lib.hid hv
  clear hv
  have hp1 := World.block_lt_of_cell? (h := hp)
  have hq1 := World.block_lt_of_cell? (h := hq)
  by_cases h1 : f.frm = -1
  · have d1 : ((f.frm : Int) == -1) = true := by simpa using h1
    by_cases h2 : f.text.size = 0
    · have d2 : f.text.toList = [] := (str_empty _).2 h2
      have d3 : f.text.toList.isEmpty = true := by rw [d2]; rfl
      obtain ⟨u, hu⟩ : ∃ u, withinB f.n lo hi = u := ⟨_, rfl⟩
      have HU : Hid (withinB f.n lo hi = u ∧ u = v) := Lib.hid ⟨hu, by rw [← hu, ← HV.out]; unfold Fx.sized withinB; rw [decide_eq_true h1, decide_eq_true h2, Bool.true_and, Bool.true_and]⟩
      clear hu h1 h2
      go_enter Tryz.func140, Tryz.ntmps140
      go_wp2_with fail
      refine (within_any _ _ _ u _ HU.out.1).mono ?_
      rintro e w' ⟨rfl, rfl⟩
      go_wp2_with fail
      go_ret
      exact ⟨ret_bool HU.out.2, bx _⟩
    · have d2 : ¬ f.text.toList = [] := fun h => h2 ((str_empty _).1 h)
      have d3 : f.text.toList.isEmpty = false := by simpa using d2
      have HH : Hid (false = v) := Lib.hid (by rw [← HV.out]; simp [Fx.sized, h2])
      clear h1 h2
      go_enter Tryz.func140, Tryz.ntmps140
      go_wp2_with fail
      go_ret
      exact ⟨ret_bool HH.out, bx _⟩
  · have d1 : ((f.frm : Int) == -1) = false := by simpa using h1
    have HH : Hid (false = v) := Lib.hid (by rw [← HV.out]; simp [Fx.sized, h1])
    clear h1
    go_enter Tryz.func140, Tryz.ntmps140
    go_wp2_with fail
    go_ret
    exact ⟨ret_bool HH.out, bx _⟩
end FmtA
end Go.Proofs.YtlhobhfmombjjaaGreatDoor
