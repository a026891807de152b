/- What package format keeps in memory: blocks, maps of ints, lists of fields and of formats, a table. No condition of its own. (The words on blocks are lemmas that the guide gives for copying.) -/
import Derived.Test.YtcnokccgdiodlaaGreatDoorFmtA
import Derived.Laws.OwnMore
import Derived.Deep.Draws
import Derived.Laws.Rows
import Derived.Maps.OwnOps
import Derived.Maps.OwnSet
import Derived.Maps.AppendAt
namespace Go.Proofs.YtcnokccgdiodlaaGreatDoor
open Go.RowKit Go.Maps Fx

/-! blocks -/
def Blk (w : World) (g : Nat) (t : TypeId) (cs : Array Value) : Prop := w.heap[g]? = some (.cells cs t (0, 0))
section
variable {w w' : World} {g : Nat} {t : TypeId} {cs : Array Value}
theorem Blk.lt (h : Blk w g t cs) : g < w.heap.size := by
  rcases Nat.lt_or_ge g w.heap.size with hlt | hge
  · exact hlt
  · unfold Blk at h; rw [Array.getElem?_eq_none hge] at h; cases h
theorem Blk.cell (h : Blk w g t cs) (i : Nat) : w.cell? ⟨g, i, none⟩ = cs[i]? := cell_of_row w g i cs t (0, 0) h
theorem Blk.frozen (h : Blk w g t cs) (i : Nat) : w.frozen? ⟨g, i, none⟩ = false := by
  unfold Blk at h
  simp [World.frozen?, h]
theorem Blk.new (w : World) (t : TypeId) (cs : Array Value) : Blk (w.alloc (.cells cs t)) w.heap.size t cs := heap_alloc_new w _
theorem Blk.set_ (h : Blk w g t cs) (i : Nat) (u : Value) : Blk (w.setCell ⟨g, i, none⟩ u) g t (cs.setIfInBounds i u) := by
  unfold Blk at h ⊢
  simp [World.setCell, Array.getElem?_modify, h]
end

/-! which blocks stay as they are -/
/-- The blocks of a kind are as they were; no block has gone. -/
structure Kept (P : Nat → Prop) (w w' : World) : Prop where
  os : w'.os = w.os
  tape : w'.tape = w.tape
  output : w'.output = w.output
  size : w.heap.size ≤ w'.heap.size
  block : ∀ k, P k → w'.heap[k]? = w.heap[k]?
section
variable {P Q : Nat → Prop} {a b c w w' : World}
theorem Kept.refl (P : Nat → Prop) (w : World) : Kept P w w := ⟨rfl, rfl, rfl, Nat.le_refl _, fun _ _ => rfl⟩
theorem Kept.trans (h : Kept P a b) (k : Kept P b c) : Kept P a c :=
  ⟨k.os.trans h.os, k.tape.trans h.tape, k.output.trans h.output, Nat.le_trans h.size k.size, fun i hi => (k.block i hi).trans (h.block i hi)⟩
theorem Kept.mono (h : Kept P w w') (hq : ∀ k, Q k → P k) : Kept Q w w' := ⟨h.os, h.tape, h.output, h.size, fun k hk => h.block k (hq k hk)⟩
theorem Kept.of_below {B : Nat} (h : Below B w w') (hp : ∀ k, P k → k < B) : Kept P w w' := ⟨h.os, h.tape, h.output, h.size, fun k hk => h.block k (hp k hk)⟩
theorem Kept.below {B : Nat} (h : Kept P w w') (hp : ∀ k, k < B → P k) : Below B w w' := ⟨h.os, h.tape, h.output, h.size, fun k hk => h.block k (hp k hk)⟩
theorem Kept.alloc (h : Kept P a w) (hp : ∀ k, P k → k < w.heap.size) (o : Obj) : Kept P a (w.alloc o) :=
  h.trans (Kept.of_below ((Below.refl _ _).alloc (Nat.le_refl _) _) hp)
theorem Kept.setCell (h : Kept P a w) {p : Addr} (hp : ¬ P p.block) (u : Value) : Kept P a (w.setCell p u) :=
  h.trans ⟨rfl, rfl, rfl, by simp [World.setCell], fun k hk => Below.heap_setCell _ _ _ _ (fun e => hp (e ▸ hk))⟩
theorem Kept.drew (h : Kept P a w) : Kept P a w.drew := ⟨h.os, h.tape, h.output, h.size, h.block⟩
theorem Kept.grown (h : Kept P a w) {row : Option Nat} (hg : w.grownBy w' row) (hp : ∀ k, P k → k < w.heap.size) (hr : ∀ k, row = some k → ¬ P k) : Kept P a w' :=
  h.trans ⟨hg.os, hg.tape, hg.output, hg.size, fun k hk => hg.block k (hp k hk) (fun e => hr k e.symm hk)⟩
theorem Kept.cell (h : Kept P w w') {p : Addr} (hp : P p.block) : w'.cell? p = w.cell? p := World.cell?_of_block (w := w) (h.block p.block hp)
theorem Kept.frozen (h : Kept P w w') {p : Addr} (hp : P p.block) : w'.frozen? p = w.frozen? p := World.frozen?_of_block (w := w) (h.block p.block hp)
end

/-! maps of ints -/
theorem zeroInt (w : World) : (zeroValue 3).run Tryz.prog w = .ok (.int .i64 0) w := by kernel_rfl
def key (id : Int) : Lit := .int .i64 id
/-- A block is a map that holds of each number what the list holds. -/
structure MapIs (w : World) (mb : Nat) (m : List (Int × Int)) : Prop where
  is : ∃ (n : Nat) (D : DataW Unit), n ≤ m.length ∧ w.ownsMap Tryz.prog 3 (plainElem Tryz.prog 3) mb n D ∧ IsMap D ∧
    ∀ id : Int, -9223372036854775808 ≤ id → id ≤ 9223372036854775807 → D.atKey (key id) (.lit (.int .i64 0)) = .lit (.int .i64 (lkz m id)) ∧ Maps.has D (key id) = knows m id
theorem intKeyed : Keyed Tryz.prog 3 := int_keyed Tryz.underlying3
theorem wfInt {id : Int} (h1 : -9223372036854775808 ≤ id) (h2 : id ≤ 9223372036854775807) : (Lit.int .i64 id).wf = true := WalkArith.wf_i64 ⟨h1, h2⟩
theorem MapIs.look_ {w : World} {mb : Nat} {m : List (Int × Int)} (h : MapIs w mb m) {id : Int} (h1 : -9223372036854775808 ≤ id) (h2 : id ≤ 9223372036854775807) :
    (Instr.lookup 75 (.map (some mb)) (.int .i64 id) false).run Tryz.prog w = .ok (.int .i64 (lkz m id)) w := by
  obtain ⟨n, D, _, ho, _, hD⟩ := h.is
  obtain ⟨c, hrun, hat, _⟩ := ho.lookup_int intKeyed Tryz.underlying75 Tryz.underlying3 (zeroInt w) (keyOf_int_mk Tryz.underlying3 (wfInt h1 h2))
  have := (hD id h1 h2).1
  unfold key at this
  rw [hat] at this
  cases this
  exact hrun
theorem MapIs.look_ok {w : World} {mb : Nat} {m : List (Int × Int)} (h : MapIs w mb m) {id : Int} (h1 : -9223372036854775808 ≤ id) (h2 : id ≤ 9223372036854775807) :
    (Instr.lookup 75 (.map (some mb)) (.int .i64 id) true).run Tryz.prog w = .ok (.tuple #[.int .i64 (lkz m id), .bool (knows m id)]) w := by
  obtain ⟨n, D, _, ho, _, hD⟩ := h.is
  obtain ⟨v, ps, hrun, hv⟩ := ho.look_ok intKeyed Tryz.underlying75 (zeroInt w) (plainElem_int Tryz.underlying3 (by decide)) (keyOf_int_mk Tryz.underlying3 (wfInt h1 h2))
  obtain ⟨c, rfl, hc, _⟩ := plainElem_int_inv Tryz.underlying3 hv
  have h3 := hD id h1 h2
  simp only [key] at h3
  simp only [Prod.mk.injEq] at hc
  rw [hc.1] at h3
  obtain ⟨h3, h4⟩ := h3
  cases h3
  rw [h4] at hrun
  exact hrun
theorem MapIs.lt {w : World} {mb : Nat} {m : List (Int × Int)} (h : MapIs w mb m) : mb < w.heap.size := by
  obtain ⟨n, D, _, ho, _⟩ := h.is
  exact ho.lt
theorem MapIs.of_block {w w' : World} {mb : Nat} {m : List (Int × Int)} (h : MapIs w mb m) (hb : w'.heap[mb]? = w.heap[mb]?) : MapIs w' mb m := by
  obtain ⟨n, D, hn, ⟨es, clock, h1, h2⟩, h3⟩ := h.is
  exact ⟨n, D, hn, ⟨es, clock, hb.trans h1, h2⟩, h3⟩
theorem MapIs.made (w : World) : MapIs (w.alloc (.map #[] 0)) w.heap.size [] :=
  ⟨0, .map [], Nat.le_refl _, World.ownsMap_made w _ _ _, isMap_empty, fun _ _ _ => ⟨rfl, rfl⟩⟩
theorem key_ne {a b : Int} (h : a ≠ b) : key a ≠ key b := fun e => h (by unfold key at e; injection e)
theorem keyLit (id : Int) : WideAt.IsKeyLit (key id) := by unfold WideAt.IsKeyLit key; simp
theorem MapIs.put_ {w : World} {mb : Nat} {m : List (Int × Int)} (h : MapIs w mb m) (hm : m.length < 1000) {id v : Int} (h1 : -9223372036854775808 ≤ id) (h2 : id ≤ 9223372036854775807) (v1 : -9223372036854775808 ≤ v) (v2 : v ≤ 9223372036854775807) :
    ∃ w', (Instr.mapUpdate 75 (.map (some mb)) (.int .i64 id) (.int .i64 v)).run Tryz.prog w = .ok () w' ∧ MapIs w' mb ((id, v) :: m) ∧ w.grownBy w' (some mb) := by
  obtain ⟨n, D, hn, ho, hI, hD⟩ := h.is
  obtain ⟨w', hrun, ho', hg⟩ := ho.update intKeyed Tryz.underlying75 (by unfold maxLen; omega) (keyOf_int_mk Tryz.underlying3 (wfInt h1 h2)) (plainElem_int Tryz.underlying3 (wfInt v1 v2))
  refine ⟨w', hrun, ⟨n + 1, _, by simp; omega, ho', hI.put _ _, fun q q1 q2 => ?_⟩, hg⟩
  have hq := hD q q1 q2
  by_cases e : q = id
  · subst e
    rw [lkz_cons, if_pos rfl]
    have hk : knows ((q, v) :: m) q = true := by unfold knows; rw [lk_cons, if_pos rfl]; rfl
    rw [hk]
    exact ⟨atKey_put_same hI (keyLit q) _ _, has_put_same hI (keyLit q) _⟩
  · rw [lkz_cons, if_neg (fun h => e h.symm)]
    have hk : knows ((id, v) :: m) q = knows m q := by unfold knows; rw [lk_cons, if_neg (fun h => e h.symm)]
    rw [hk]
    exact ⟨(atKey_put_other (key_ne e) _ _).trans hq.1, (has_put_other (key_ne e) _).trans hq.2⟩

/-! lists of fields -/
def fldC (f : Fld) : List Value := [.int .i64 f.kind, .int .i64 f.n, .int .i64 f.frm, .string f.text]
def flat (fs : List Fld) : List Value := fs.flatMap fldC
theorem flat_len (fs : List Fld) : (flat fs).length = fs.length * 4 := by
  unfold flat
  induction fs with
  | nil => rfl
  | cons f t ih => simp [List.flatMap_cons, ih, fldC]; omega
theorem flat_get {fs : List Fld} {i : Nat} (hi : i < fs.length) (k : Nat) (hk : k < 4) : (flat fs)[i * 4 + k]? = (fldC (fs.getD i zf))[k]? := by
  unfold flat
  induction fs generalizing i with
  | nil => simp at hi
  | cons f t ih =>
    rw [List.flatMap_cons]
    cases i with
    | zero => rw [List.getElem?_append_left (by simp [fldC]; omega)]; simp
    | succ i =>
      rw [List.getElem?_append_right (by simp [fldC]; omega)]
      have := ih (i := i) (by simpa using hi)
      simp only [fldC, List.length_cons, List.length_nil] at this ⊢
      rw [show (i + 1) * 4 + k - (0 + 1 + 1 + 1 + 1) = i * 4 + k by omega, this]
      simp
/-- Fields lie at b from place off on. -/
structure FldAt (w : World) (b off : Nat) (f : Fld) : Prop where
  c0 : w.cell? ⟨b, off, none⟩ = some (.int .i64 f.kind)
  c1 : w.cell? ⟨b, off + 1, none⟩ = some (.int .i64 f.n)
  c2 : w.cell? ⟨b, off + 2, none⟩ = some (.int .i64 f.frm)
  c3 : w.cell? ⟨b, off + 3, none⟩ = some (.string f.text)
/-- A slice that reads as these fields. -/
def FldsAt (w : World) (v : Value) (fs : List Fld) : Prop :=
  (∃ a c, v = .slice a 0 c ∧ fs = []) ∨ ∃ b off cap, v = .slice (some ⟨b, off, none⟩) fs.length cap ∧ 1 ≤ fs.length ∧ fs.length ≤ cap ∧ cap ≤ maxLen ∧ b < w.heap.size ∧ ∀ i, i < fs.length → FldAt w b (off + i * 4) (fs.getD i zf)
theorem FldAt.of_block {w w' : World} {b off : Nat} {f : Fld} (h : FldAt w b off f) (hb : w'.heap[b]? = w.heap[b]?) : FldAt w' b off f := by
  have e : ∀ o, w'.cell? ⟨b, o, none⟩ = w.cell? ⟨b, o, none⟩ := fun o => World.cell?_of_block (w := w) (a := ⟨b, o, none⟩) hb
  exact ⟨(e _).trans h.c0, (e _).trans h.c1, (e _).trans h.c2, (e _).trans h.c3⟩
theorem FldsAt.keep {w w' : World} {v : Value} {fs : List Fld} (h : FldsAt w v fs) (hs : w.heap.size ≤ w'.heap.size) (hb : ∀ b, v.ownBlock = some b → w'.heap[b]? = w.heap[b]?) : FldsAt w' v fs := by
  rcases h with h | ⟨b, off, cap, rfl, h1, h2, h3, h4, h5⟩
  · exact .inl h
  · exact .inr ⟨b, off, cap, rfl, h1, h2, h3, by omega, fun i hi => (h5 i hi).of_block (hb b rfl)⟩
theorem FldsAt.below {w w' : World} {v : Value} {fs : List Fld} (h : FldsAt w v fs) (hb : Below w.heap.size w w') : FldsAt w' v fs := by
  rcases h with h | ⟨b, off, cap, rfl, h1, h2, h3, h4, h5⟩
  · exact .inl h
  · exact .inr ⟨b, off, cap, rfl, h1, h2, h3, Nat.lt_of_lt_of_le h4 hb.size, fun i hi => (h5 i hi).of_block (hb.block b h4)⟩
/-- Fields of the call's own. -/
theorem FldsAt.of_own {w : World} {B : Nat} {v : Value} {fs : List Fld} (h : w.ownsRow B 56 4 v fs.length (flat fs)) : FldsAt w v fs := by
  rcases h.2 with ⟨rfl, h0⟩ | ⟨g, cap, cur, rfl, hg, hh, hl, hm, hsz, ht⟩
  · exact .inl ⟨none, 0, rfl, List.eq_nil_of_length_eq_zero h0⟩
  · rcases Nat.eq_zero_or_pos fs.length with h0 | h0
    · exact .inl ⟨_, _, by rw [h0], List.eq_nil_of_length_eq_zero h0⟩
    · have hcell : ∀ i k, i < fs.length → k < 4 → w.cell? ⟨g, 0 + i * 4 + k, none⟩ = (fldC (fs.getD i zf))[k]? := fun i k hi hk => by
        rw [cell_of_row w g _ cur _ (0, 0) hh, ← flat_get hi k hk, ← ht, List.getElem?_take, if_pos (by omega)]
        simp
      refine .inr ⟨g, 0, cap, rfl, h0, hl, hm, (Array.getElem?_eq_some_iff.1 hh).1, fun i hi => ⟨?_, ?_, ?_, ?_⟩⟩
      · exact hcell i 0 hi (by omega)
      · exact hcell i 1 hi (by omega)
      · exact hcell i 2 hi (by omega)
      · exact hcell i 3 hi (by omega)
end Go.Proofs.YtcnokccgdiodlaaGreatDoor
