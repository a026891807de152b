/- What the reference's Make needs: lists of four ints, tables that it makes, rows of formats of the call's own. No condition of its own. -/
import Derived.Test.YtcnokccgdiodlaaGreatDoorRefG
namespace Go.Proofs.YtcnokccgdiodlaaGreatDoor
open Go.RowKit Go.Shelf Fx Go.Sort

/-- Lists of four ints that can be read. -/
def QsAt (w : World) (v : Value) (n : Nat) : Prop :=
  (∃ a c, v = .slice a 0 c ∧ n = 0) ∨ ∃ b off cap, v = .slice (some ⟨b, off, none⟩) n cap ∧ 1 ≤ n ∧ n ≤ cap ∧ cap ≤ maxLen ∧ b < w.heap.size ∧
    ∀ i j, i < n → j < 4 → ∃ z : Int, w.cell? ⟨b, off + i * 4 + j, none⟩ = some (.int .i64 z) ∧ -9223372036854775808 ≤ z ∧ z ≤ 9223372036854775807
theorem QsAt.slice_ {w : World} {v : Value} {n : Nat} (h : QsAt w v n) : ∃ a c, v = .slice a n c ∧ (n = 0 ∨ (n ≤ c ∧ c ≤ maxLen)) := by
  rcases h with ⟨a, c, rfl, rfl⟩ | ⟨b, off, cap, rfl, h1, h2, h3, _⟩
  · exact ⟨a, c, rfl, .inl rfl⟩
  · exact ⟨_, _, rfl, .inr ⟨h2, h3⟩⟩
theorem QsAt.at_ {w : World} {a : Option Addr} {n c : Nat} (h : QsAt w (.slice a n c) n) (h1 : 1 ≤ n) : ∃ b off, a = some ⟨b, off, none⟩ ∧ b < w.heap.size ∧ n ≤ c ∧ c ≤ maxLen ∧
    ∀ i j, i < n → j < 4 → ∃ z : Int, w.cell? ⟨b, off + i * 4 + j, none⟩ = some (.int .i64 z) ∧ -9223372036854775808 ≤ z ∧ z ≤ 9223372036854775807 := by
  rcases h with ⟨a, c, _, rfl⟩ | ⟨b, off, cap, h0, h2, h3, h4, h5, h6⟩
  · omega
  · cases h0
    exact ⟨b, off, rfl, h5, h3, h4, h6⟩
/-- A field that Make puts into a format. -/
structure MkF (g : Fld) : Prop where
  ints : Ints g
  t : g.text.size ≤ 2
  n : g.kind = 3 → 0 ≤ g.n ∧ g.n ≤ 4
/-- A table that Make makes. -/
structure Mk (l : List Fm) : Prop where
  ok : Ok l
  few : l.length ≤ 6
  ids : ∀ j, j < l.length → 3 * (j : Int) + 1 ≤ (l.getD j zm).id ∧ (l.getD j zm).id ≤ 3 * (j : Int) + 3
  fs : ∀ j, j < l.length → (l.getD j zm).fs.length ≤ 6
  each : ∀ j, j < l.length → ∀ k, k < (l.getD j zm).fs.length → MkF ((l.getD j zm).fs.getD k zf)
theorem mk_nil : Mk [] := ⟨ok_nil, by simp, fun j h => by simp at h, fun j h => by simp at h, fun j h => by simp at h⟩
theorem getD_snoc {α : Type} {l : List α} {x z : α} {j : Nat} (h : j < (l ++ [x]).length) : (j < l.length ∧ (l ++ [x]).getD j z = l.getD j z) ∨ (j = l.length ∧ (l ++ [x]).getD j z = x) := by
  rcases Nat.lt_or_ge j l.length with h1 | h1
  · exact .inl ⟨h1, getD_snoc_lt h1⟩
  · have : j = l.length := by simp at h; omega
    subst this
    exact .inr ⟨rfl, getD_snoc_eq⟩
theorem Mk.snoc {l : List Fm} {f : Fm} (h : Mk l) (hok : Ok (l ++ [f])) (hl : l.length < 6) (hid : 3 * (l.length : Int) + 1 ≤ f.id ∧ f.id ≤ 3 * (l.length : Int) + 3) (hf : f.fs.length ≤ 6) (hg : ∀ k, k < f.fs.length → MkF (f.fs.getD k zf)) : Mk (l ++ [f]) := by
  refine ⟨hok, by simp; omega, fun j hj => ?_, fun j hj => ?_, fun j hj => ?_⟩
  · rcases getD_snoc (z := zm) hj with ⟨h1, e⟩ | ⟨rfl, e⟩
    · rw [e]; exact h.ids j h1
    · rw [e]; exact hid
  · rcases getD_snoc (z := zm) hj with ⟨h1, e⟩ | ⟨rfl, e⟩
    · rw [e]; exact h.fs j h1
    · rw [e]; exact hf
  · rcases getD_snoc (z := zm) hj with ⟨h1, e⟩ | ⟨rfl, e⟩
    · rw [e]; exact h.each j h1
    · rw [e]; exact hg
/-- The field that is always right. -/
def plainF : Fld := ⟨3, 3, -1, eb⟩
theorem mk_plain : MkF plainF := ⟨⟨by decide, by decide, by decide, by decide, by decide, by decide, by decide⟩, by decide, fun _ => by decide⟩
theorem Mk.plain {l : List Fm} {id : Int} (h : Mk l) (hl : l.length < 6) (hid : 3 * (l.length : Int) + 1 ≤ id ∧ id ≤ 3 * (l.length : Int) + 3) : Mk (l ++ [⟨id, [plainF]⟩]) := by
  have hf : FmOk l ⟨id, [plainF]⟩ := by
    refine ⟨by show 1 ≤ id; omega, by show id ≤ 1000000; omega, by simp, by simp, fun k hk => ?_, by simp [ls, lf, plainF]⟩
    have : k = 0 := by simp at hk; omega
    subst this
    show Fx.right (lm l) [] plainF = true
    rw [right_3 rfl]; decide
  refine h.snoc (h.ok.snoc hf (by omega) fun g hg => ?_) hl hid (by simp) fun k hk => ?_
  · obtain ⟨j, hj, rfl⟩ := List.getElem_of_mem hg
    have := (h.ids j hj).2
    simp [List.getD, List.getElem?_eq_getElem hj] at this
    show _ < id
    omega
  · have : k = 0 := by simp at hk; omega
    subst this
    exact mk_plain
theorem Mk.ints {l : List Fm} (h : Mk l) : IntsL l := fun i hi => ⟨by have := h.ids i hi; have := h.few; omega, fun k hk => (h.each i hi k hk).ints⟩

/-- A row of formats of the call's own, each with a row of fields of the call's own. -/
structure OwnM (w : World) (B : Nat) (u : Value) (L : List Fm) (vs : List Value) : Prop where
  row : w.ownsRow B 34 2 u L.length (flatM L vs)
  vsl : vs.length = L.length
  each : ∀ i, i < L.length → w.ownsRow B 56 4 (vs.getD i undef) (L.getD i zm).fs.length (flat (L.getD i zm).fs)
theorem ownsRow_lower {w : World} {B C : Nat} {e : TypeId} {sz : Nat} {v : Value} {n : Nat} {xs : List Value} (h : w.ownsRow B e sz v n xs) (hc : C ≤ B) : w.ownsRow C e sz v n xs := by
  refine ⟨h.1, ?_⟩
  rcases h.2 with hn | ⟨g, cap, cur, rfl, hg, hh, r⟩
  · exact .inl hn
  · exact .inr ⟨g, cap, cur, rfl, by omega, hh, r⟩
theorem OwnM.fms {w : World} {B : Nat} {u : Value} {L : List Fm} {vs : List Value} (h : OwnM w B u L vs) : FmsAt (· < w.heap.size) w u L := by
  rcases h.row.2 with ⟨rfl, h0⟩ | ⟨g, cap, cur, rfl, hg, hh, hl, hm, hsz, ht⟩
  · exact .inl ⟨none, 0, rfl, List.eq_nil_of_length_eq_zero h0⟩
  · rcases Nat.eq_zero_or_pos L.length with h0 | h0
    · exact .inl ⟨_, _, by rw [h0], List.eq_nil_of_length_eq_zero h0⟩
    · have hcell : ∀ j, j < L.length * 2 → w.cell? ⟨g, 0 + j, none⟩ = (flatM L vs)[j]? := fun j hj => by
        rw [cell_of_row w g _ cur _ (0, 0) hh, ← ht, List.getElem?_take, if_pos (by omega)]
        simp
      refine .inr ⟨g, 0, cap, rfl, h0, hl, hm, lt_of_heap hh, lt_of_heap hh, fun i hi => ⟨vs.getD i undef, ?_, ?_, FldsAt.of_own (ownsRow_lower (h.each i hi) (Nat.zero_le _)), fun g' hg' => own_lt (h.each i hi) hg'⟩⟩
      · exact (hcell (i * 2) (by omega)).trans (flatM_get h.vsl hi).1
      · exact (hcell (i * 2 + 1) (by omega)).trans (flatM_get h.vsl hi).2
theorem OwnM.nil (w : World) (B : Nat) : OwnM w B (.slice none 0 0) [] [] := ⟨World.ownsRow_nil _ _ _ _, rfl, fun i h => by simp at h⟩
theorem OwnM.below {w w' : World} {B : Nat} {u : Value} {L : List Fm} {vs : List Value} (h : OwnM w B u L vs) (hb : Below w.heap.size w w') : OwnM w' B u L vs :=
  ⟨ownsRow_below h.row hb, h.vsl, fun i hi => ownsRow_below (h.each i hi) hb⟩
end Go.Proofs.YtcnokccgdiodlaaGreatDoor
