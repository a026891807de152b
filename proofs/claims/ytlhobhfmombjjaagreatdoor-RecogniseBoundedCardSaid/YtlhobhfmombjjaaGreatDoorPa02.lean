/- What package format keeps in memory: blocks, maps of ints, lists of fields and of formats, a table. No condition of its own. (The words on blocks are lemmas that the guide gives for copying.) errors.As of a refusal at a variable of a refusal's type. Condition: the package's own variable of the type 'error' is laid. (Written after the guide's worked text ToyasAs.) errors.As of a refusal, told by blocks; stopped and attempt: what comes of a function that ends, or is stopped by a refusal. Conditions: the package's own variable of the type 'error' is laid; the function keeps attempt's own blocks. stopped and attempt: what comes of a function that ends, or is stopped by a refusal. Conditions: the package's own variable of the type 'error' is laid; the function keeps attempt's own blocks. Plain facts on recognising: what a stream's bytes say, the parts of a value, the first refusal. No condition of its own. -/
import Derived.Test.YtlhobhfmombjjaaGreatDoorPa01
import Derived.Laws.OwnMore
import Derived.Deep.Draws
import Derived.Laws.Rows
import Derived.Maps.OwnOps
import Derived.Maps.OwnSet
import Derived.Maps.AppendAt
import Derived.LaidEql
import Derived.Stop.Asserts
import Derived.RowKitTokens
import Derived.Laws.CopyRow
import Derived.Tactics
import Derived.Tactics2
import Derived.Defers
import Derived.Recover
import Derived.Laws.Pointers
namespace Go.Proofs.YtlhobhfmombjjaaGreatDoor
section FmtB
open Go.RowKit Go.Maps Fx

/-! blocks -/
def Blk (w : World) (g : Nat) (t : TypeId) (cs : Array Value) : Prop := w.heap[g]? = some (.cells cs t (0, 0))
section
variable {w w' : World} {g : Nat} {t : TypeId} {cs : Array Value}
theorem Blk.lt (h : Blk w g t cs) : g < w.heap.size := by
  rcases Nat.lt_or_ge g w.heap.size with hlt | hge
  · exact hlt
  · unfold Blk at h; rw [Array.getElem?_eq_none hge] at h; cases h
theorem Blk.cell (h : Blk w g t cs) (i : Nat) : w.cell? ⟨g, i, none⟩ = cs[i]? := cell_of_row w g i cs t (0, 0) h
theorem Blk.frozen (h : Blk w g t cs) (i : Nat) : w.frozen? ⟨g, i, none⟩ = false := by
  unfold Blk at h
  simp [World.frozen?, h]
theorem Blk.new (w : World) (t : TypeId) (cs : Array Value) : Blk (w.alloc (.cells cs t)) w.heap.size t cs := heap_alloc_new w _
theorem Blk.set_ (h : Blk w g t cs) (i : Nat) (u : Value) : Blk (w.setCell ⟨g, i, none⟩ u) g t (cs.setIfInBounds i u) := by
  unfold Blk at h ⊢
  simp [World.setCell, Array.getElem?_modify, h]
end

/-! which blocks stay as they are -/
/-- The blocks of a kind are as they were; no block has gone. -/
structure Kept (P : Nat → Prop) (w w' : World) : Prop where
  os : w'.os = w.os
  tape : w'.tape = w.tape
  output : w'.output = w.output
  size : w.heap.size ≤ w'.heap.size
  block : ∀ k, P k → w'.heap[k]? = w.heap[k]?
section
variable {P Q : Nat → Prop} {a b c w w' : World}
theorem Kept.refl (P : Nat → Prop) (w : World) : Kept P w w := ⟨rfl, rfl, rfl, Nat.le_refl _, fun _ _ => rfl⟩
theorem Kept.trans (h : Kept P a b) (k : Kept P b c) : Kept P a c :=
  ⟨k.os.trans h.os, k.tape.trans h.tape, k.output.trans h.output, Nat.le_trans h.size k.size, fun i hi => (k.block i hi).trans (h.block i hi)⟩
theorem Kept.mono (h : Kept P w w') (hq : ∀ k, Q k → P k) : Kept Q w w' := ⟨h.os, h.tape, h.output, h.size, fun k hk => h.block k (hq k hk)⟩
theorem Kept.of_below {B : Nat} (h : Below B w w') (hp : ∀ k, P k → k < B) : Kept P w w' := ⟨h.os, h.tape, h.output, h.size, fun k hk => h.block k (hp k hk)⟩
theorem Kept.below {B : Nat} (h : Kept P w w') (hp : ∀ k, k < B → P k) : Below B w w' := ⟨h.os, h.tape, h.output, h.size, fun k hk => h.block k (hp k hk)⟩
theorem Kept.alloc (h : Kept P a w) (hp : ∀ k, P k → k < w.heap.size) (o : Obj) : Kept P a (w.alloc o) :=
  h.trans (Kept.of_below ((Below.refl _ _).alloc (Nat.le_refl _) _) hp)
theorem Kept.setCell (h : Kept P a w) {p : Addr} (hp : ¬ P p.block) (u : Value) : Kept P a (w.setCell p u) :=
  h.trans ⟨rfl, rfl, rfl, by simp [World.setCell], fun k hk => Below.heap_setCell _ _ _ _ (fun e => hp (e ▸ hk))⟩
theorem Kept.drew (h : Kept P a w) : Kept P a w.drew := ⟨h.os, h.tape, h.output, h.size, h.block⟩
theorem Kept.grown (h : Kept P a w) {row : Option Nat} (hg : w.grownBy w' row) (hp : ∀ k, P k → k < w.heap.size) (hr : ∀ k, row = some k → ¬ P k) : Kept P a w' :=
  h.trans ⟨hg.os, hg.tape, hg.output, hg.size, fun k hk => hg.block k (hp k hk) (fun e => hr k e.symm hk)⟩
theorem Kept.cell (h : Kept P w w') {p : Addr} (hp : P p.block) : w'.cell? p = w.cell? p := World.cell?_of_block (w := w) (h.block p.block hp)
theorem Kept.frozen (h : Kept P w w') {p : Addr} (hp : P p.block) : w'.frozen? p = w.frozen? p := World.frozen?_of_block (w := w) (h.block p.block hp)
end

/-! maps of ints -/
theorem zeroInt (w : World) : (zeroValue 3).run Tryz.prog w = .ok (.int .i64 0) w := by kernel_rfl
def key (id : Int) : Lit := .int .i64 id
/-- A block is a map that holds of each number what the list holds. -/
structure MapIs (w : World) (mb : Nat) (m : List (Int × Int)) : Prop where
  is : ∃ (n : Nat) (D : DataW Unit), n ≤ m.length ∧ w.ownsMap Tryz.prog 3 (plainElem Tryz.prog 3) mb n D ∧ IsMap D ∧
    ∀ id : Int, -9223372036854775808 ≤ id → id ≤ 9223372036854775807 → D.atKey (key id) (.lit (.int .i64 0)) = .lit (.int .i64 (lkz m id)) ∧ Maps.has D (key id) = knows m id
theorem intKeyed : Keyed Tryz.prog 3 := int_keyed Tryz.underlying3
theorem wfInt {id : Int} (h1 : -9223372036854775808 ≤ id) (h2 : id ≤ 9223372036854775807) : (Lit.int .i64 id).wf = true := WalkArith.wf_i64 ⟨h1, h2⟩
theorem MapIs.look_ {w : World} {mb : Nat} {m : List (Int × Int)} (h : MapIs w mb m) {id : Int} (h1 : -9223372036854775808 ≤ id) (h2 : id ≤ 9223372036854775807) :
    (Instr.lookup 187 (.map (some mb)) (.int .i64 id) false).run Tryz.prog w = .ok (.int .i64 (lkz m id)) w := by
  obtain ⟨n, D, _, ho, _, hD⟩ := h.is
  obtain ⟨c, hrun, hat, _⟩ := ho.lookup_int intKeyed Tryz.underlying187 Tryz.underlying3 (zeroInt w) (keyOf_int_mk Tryz.underlying3 (wfInt h1 h2))
  have := (hD id h1 h2).1
  unfold key at this
  rw [hat] at this
  cases this
  exact hrun
theorem MapIs.look_ok {w : World} {mb : Nat} {m : List (Int × Int)} (h : MapIs w mb m) {id : Int} (h1 : -9223372036854775808 ≤ id) (h2 : id ≤ 9223372036854775807) :
    (Instr.lookup 187 (.map (some mb)) (.int .i64 id) true).run Tryz.prog w = .ok (.tuple #[.int .i64 (lkz m id), .bool (knows m id)]) w := by
  obtain ⟨n, D, _, ho, _, hD⟩ := h.is
  obtain ⟨v, ps, hrun, hv⟩ := ho.look_ok intKeyed Tryz.underlying187 (zeroInt w) (plainElem_int Tryz.underlying3 (by decide)) (keyOf_int_mk Tryz.underlying3 (wfInt h1 h2))
  obtain ⟨c, rfl, hc, _⟩ := plainElem_int_inv Tryz.underlying3 hv
  have h3 := hD id h1 h2
  simp only [key] at h3
  simp only [Prod.mk.injEq] at hc
  rw [hc.1] at h3
  obtain ⟨h3, h4⟩ := h3
  cases h3
  rw [h4] at hrun
  exact hrun
theorem MapIs.lt {w : World} {mb : Nat} {m : List (Int × Int)} (h : MapIs w mb m) : mb < w.heap.size := by
  obtain ⟨n, D, _, ho, _⟩ := h.is
  exact ho.lt
theorem MapIs.of_block {w w' : World} {mb : Nat} {m : List (Int × Int)} (h : MapIs w mb m) (hb : w'.heap[mb]? = w.heap[mb]?) : MapIs w' mb m := by
  obtain ⟨n, D, hn, ⟨es, clock, h1, h2⟩, h3⟩ := h.is
  exact ⟨n, D, hn, ⟨es, clock, hb.trans h1, h2⟩, h3⟩
theorem MapIs.made (w : World) : MapIs (w.alloc (.map #[] 0)) w.heap.size [] :=
  ⟨0, .map [], Nat.le_refl _, World.ownsMap_made w _ _ _, isMap_empty, fun _ _ _ => ⟨rfl, rfl⟩⟩
theorem key_ne {a b : Int} (h : a ≠ b) : key a ≠ key b := fun e => h (by unfold key at e; injection e)
theorem keyLit (id : Int) : WideAt.IsKeyLit (key id) := by unfold WideAt.IsKeyLit key; simp
theorem MapIs.put_ {w : World} {mb : Nat} {m : List (Int × Int)} (h : MapIs w mb m) (hm : m.length < 1000) {id v : Int} (h1 : -9223372036854775808 ≤ id) (h2 : id ≤ 9223372036854775807) (v1 : -9223372036854775808 ≤ v) (v2 : v ≤ 9223372036854775807) :
    ∃ w', (Instr.mapUpdate 187 (.map (some mb)) (.int .i64 id) (.int .i64 v)).run Tryz.prog w = .ok () w' ∧ MapIs w' mb ((id, v) :: m) ∧ w.grownBy w' (some mb) := by
  obtain ⟨n, D, hn, ho, hI, hD⟩ := h.is
  obtain ⟨w', hrun, ho', hg⟩ := ho.update intKeyed Tryz.underlying187 (by unfold maxLen; omega) (keyOf_int_mk Tryz.underlying3 (wfInt h1 h2)) (plainElem_int Tryz.underlying3 (wfInt v1 v2))
  refine ⟨w', hrun, ⟨n + 1, _, by simp; omega, ho', hI.put _ _, fun q q1 q2 => ?_⟩, hg⟩
  have hq := hD q q1 q2
  by_cases e : q = id
  · subst e
    rw [lkz_cons, if_pos rfl]
    have hk : knows ((q, v) :: m) q = true := by unfold knows; rw [lk_cons, if_pos rfl]; rfl
    rw [hk]
    exact ⟨atKey_put_same hI (keyLit q) _ _, has_put_same hI (keyLit q) _⟩
  · rw [lkz_cons, if_neg (fun h => e h.symm)]
    have hk : knows ((id, v) :: m) q = knows m q := by unfold knows; rw [lk_cons, if_neg (fun h => e h.symm)]
    rw [hk]
    exact ⟨(atKey_put_other (key_ne e) _ _).trans hq.1, (has_put_other (key_ne e) _).trans hq.2⟩

/-! lists of fields -/
def fldC (f : Fld) : List Value := [.int .i64 f.kind, .int .i64 f.n, .int .i64 f.frm, .string f.text]
def flat (fs : List Fld) : List Value := fs.flatMap fldC
theorem flat_len (fs : List Fld) : (flat fs).length = fs.length * 4 := by
  unfold flat
  induction fs with
  | nil => rfl
  | cons f t ih => simp [List.flatMap_cons, ih, fldC]; omega
theorem flat_get {fs : List Fld} {i : Nat} (hi : i < fs.length) (k : Nat) (hk : k < 4) : (flat fs)[i * 4 + k]? = (fldC (fs.getD i zf))[k]? := by
  unfold flat
  induction fs generalizing i with
  | nil => simp at hi
  | cons f t ih =>
    rw [List.flatMap_cons]
    cases i with
    | zero => rw [List.getElem?_append_left (by simp [fldC]; omega)]; simp
    | succ i =>
      rw [List.getElem?_append_right (by simp [fldC]; omega)]
      have := ih (i := i) (by simpa using hi)
      simp only [fldC, List.length_cons, List.length_nil] at this ⊢
      rw [show (i + 1) * 4 + k - (0 + 1 + 1 + 1 + 1) = i * 4 + k by omega, this]
      simp
/-- Fields lie at b from place off on. -/
structure FldAt (w : World) (b off : Nat) (f : Fld) : Prop where
  c0 : w.cell? ⟨b, off, none⟩ = some (.int .i64 f.kind)
  c1 : w.cell? ⟨b, off + 1, none⟩ = some (.int .i64 f.n)
  c2 : w.cell? ⟨b, off + 2, none⟩ = some (.int .i64 f.frm)
  c3 : w.cell? ⟨b, off + 3, none⟩ = some (.string f.text)
/-- A slice that reads as these fields. -/
def FldsAt (w : World) (v : Value) (fs : List Fld) : Prop :=
  (∃ a c, v = .slice a 0 c ∧ fs = []) ∨ ∃ b off cap, v = .slice (some ⟨b, off, none⟩) fs.length cap ∧ 1 ≤ fs.length ∧ fs.length ≤ cap ∧ cap ≤ maxLen ∧ b < w.heap.size ∧ ∀ i, i < fs.length → FldAt w b (off + i * 4) (fs.getD i zf)
theorem FldAt.of_block {w w' : World} {b off : Nat} {f : Fld} (h : FldAt w b off f) (hb : w'.heap[b]? = w.heap[b]?) : FldAt w' b off f := by
  have e : ∀ o, w'.cell? ⟨b, o, none⟩ = w.cell? ⟨b, o, none⟩ := fun o => World.cell?_of_block (w := w) (a := ⟨b, o, none⟩) hb
  exact ⟨(e _).trans h.c0, (e _).trans h.c1, (e _).trans h.c2, (e _).trans h.c3⟩
theorem FldsAt.keep {w w' : World} {v : Value} {fs : List Fld} (h : FldsAt w v fs) (hs : w.heap.size ≤ w'.heap.size) (hb : ∀ b, v.ownBlock = some b → w'.heap[b]? = w.heap[b]?) : FldsAt w' v fs := by
  rcases h with h | ⟨b, off, cap, rfl, h1, h2, h3, h4, h5⟩
  · exact .inl h
  · exact .inr ⟨b, off, cap, rfl, h1, h2, h3, by omega, fun i hi => (h5 i hi).of_block (hb b rfl)⟩
theorem FldsAt.below {w w' : World} {v : Value} {fs : List Fld} (h : FldsAt w v fs) (hb : Below w.heap.size w w') : FldsAt w' v fs := by
  rcases h with h | ⟨b, off, cap, rfl, h1, h2, h3, h4, h5⟩
  · exact .inl h
  · exact .inr ⟨b, off, cap, rfl, h1, h2, h3, Nat.lt_of_lt_of_le h4 hb.size, fun i hi => (h5 i hi).of_block (hb.block b h4)⟩
/-- Fields of the call's own. -/
theorem FldsAt.of_own {w : World} {B : Nat} {v : Value} {fs : List Fld} (h : w.ownsRow B 56 4 v fs.length (flat fs)) : FldsAt w v fs := by
  rcases h.2 with ⟨rfl, h0⟩ | ⟨g, cap, cur, rfl, hg, hh, hl, hm, hsz, ht⟩
  · exact .inl ⟨none, 0, rfl, List.eq_nil_of_length_eq_zero h0⟩
  · rcases Nat.eq_zero_or_pos fs.length with h0 | h0
    · exact .inl ⟨_, _, by rw [h0], List.eq_nil_of_length_eq_zero h0⟩
    · have hcell : ∀ i k, i < fs.length → k < 4 → w.cell? ⟨g, 0 + i * 4 + k, none⟩ = (fldC (fs.getD i zf))[k]? := fun i k hi hk => by
        rw [cell_of_row w g _ cur _ (0, 0) hh, ← flat_get hi k hk, ← ht, List.getElem?_take, if_pos (by omega)]
        simp
      refine .inr ⟨g, 0, cap, rfl, h0, hl, hm, (Array.getElem?_eq_some_iff.1 hh).1, fun i hi => ⟨?_, ?_, ?_, ?_⟩⟩
      · exact hcell i 0 hi (by omega)
      · exact hcell i 1 hi (by omega)
      · exact hcell i 2 hi (by omega)
      · exact hcell i 3 hi (by omega)
end FmtB
section RecA
open Go.RowKit Go.Extern.Stop Go.Stop Go.Extern

/-- The package's own variable of the type 'error'. -/
def ErrTy (w : World) : Prop := w.cell? ⟨0, 0, none⟩ = some (.iface 155 (.agg #[.pointer (some ⟨7, 101, none⟩)]))

theorem as_valueOfP (t : Addr) (w : World) : (ReflectliteValue.unpack (.iface 106 (.pointer (some t)))).run Tryz.prog w
    = .ok (.agg #[.pointer (some ⟨7, 106, none⟩), .pointer (some ⟨w.heap.size, 0, none⟩), .int .u64 150]) (w.alloc (.cells #[.pointer (some t)] 106)) := by kernel_rfl
theorem as_typeP (a : Addr) (w : World) : (ReflectliteValue.methodAny (ReflectliteValue.valueError "reflectlite.Value.Type" 0) (fun t _ _ _ => ReflectliteType.toType t) #[.agg #[.pointer (some ⟨7, 106, none⟩), .pointer (some a), .int .u64 150]]).run Tryz.prog w
    = .ok (.iface 155 (.agg #[.pointer (some ⟨7, 106, none⟩)])) w := by kernel_rfl
theorem as_methodKind (k : Nat) (h : Value) (w : World) : (Go.method (k + 1) 155 (.agg #[h]) "Kind").run Tryz.prog w = .ok (193, h) w := by kernel_rfl
theorem as_kindP (w : World) : ((ReflectliteType.abiMethod fun t => (fun a : Nat => Value.int IntKind.u8 (a : Int)) <$> Rtype.kind t) #[.pointer (some ⟨7, 106, none⟩)]).run Tryz.prog w = .ok (.int .u8 22) w := by kernel_rfl
theorem as_kindR (w : World) : ((ReflectliteType.abiMethod fun t => (fun a : Nat => Value.int IntKind.u8 (a : Int)) <$> Rtype.kind t) #[.pointer (some ⟨7, 104, none⟩)]).run Tryz.prog w = .ok (.int .u8 25) w := by kernel_rfl
theorem as_rlm (z : Sem Value) (f : TypeId → Addr → Nat → Nat → Sem Value) (v : Value) :
    ReflectliteValue.method z f #[v] = (do match ← ReflectliteValue.parts v with | none => z | some (t, a, fl) => f t a fl (fl % 32)) := rfl
theorem as_partsP (a : Addr) (w : World) : (ReflectliteValue.parts (.agg #[.pointer (some ⟨7, 106, none⟩), .pointer (some a), .int .u64 150])).run Tryz.prog w = .ok (some (106, a, 150)) w := by kernel_rfl
theorem as_isNil (a p : Addr) (W : World) (ha : W.cell? a = some (.pointer (some p))) :
    (ReflectliteValue.method (ReflectliteValue.valueError "reflectlite.Value.IsNil" 0) ReflectliteValue.isNil #[.agg #[.pointer (some ⟨7, 106, none⟩), .pointer (some a), .int .u64 150]]).run Tryz.prog W = .ok (.bool false) W := by
  rw [as_rlm]
  simp only [Sem.run_bind, as_partsP, Result.andThen]
  simp [ReflectliteValue.isNil, loadVar, isAgg, underlying, Tryz.underlying106, ha, Result.andThen]
theorem as_methodElem (k : Nat) (h : Value) (w : World) : (Go.method (k + 1) 155 (.agg #[h]) "Elem").run Tryz.prog w = .ok (203, .agg #[h]) w := by kernel_rfl
theorem as_methodImplements (k : Nat) (h : Value) (w : World) : (Go.method (k + 1) 155 (.agg #[h]) "Implements").run Tryz.prog w = .ok (204, .agg #[h]) w := by kernel_rfl
theorem as_methodAssignableTo (k : Nat) (h : Value) (w : World) : (Go.method (k + 1) 155 (.agg #[h]) "AssignableTo").run Tryz.prog w = .ok (201, .agg #[h]) w := by kernel_rfl
theorem as_elemP (w : World) : (ReflectliteType.method ReflectliteType.elem #[(.agg #[.pointer (some ⟨7, 106, none⟩)])]).run Tryz.prog w = .ok (.iface 155 (.agg #[.pointer (some ⟨7, 104, none⟩)])) w := by kernel_rfl
theorem as_implements (w : World) : (ReflectliteType.relation "Implements" ReflectliteType.implements_ #[(.agg #[.pointer (some ⟨7, 104, none⟩)]), .iface 155 (.agg #[.pointer (some ⟨7, 101, none⟩)])]).run Tryz.prog w = .ok (.bool true) w := by kernel_rfl
theorem as_typeOf (v : Value) (w : World) : (ReflectliteType.typeOf #[.iface 104 v]).run Tryz.prog w = .ok (.iface 155 (.agg #[.pointer (some ⟨7, 104, none⟩)])) w := by kernel_rfl
theorem as_assignable (w : World) : (ReflectliteType.relation "AssignableTo" ReflectliteType.assignableTo #[(.agg #[.pointer (some ⟨7, 104, none⟩)]), .iface 155 (.agg #[.pointer (some ⟨7, 104, none⟩)])]).run Tryz.prog w = .ok (.bool true) w := by kernel_rfl
theorem as_valueOfR (a b c d : Int) (w : World) : (ReflectliteValue.unpack (.iface 104 (.agg #[.int .i64 a, .int .i64 b, .int .i64 c, .int .i64 d]))).run Tryz.prog w
    = .ok (.agg #[.pointer (some ⟨7, 104, none⟩), .pointer (some ⟨w.heap.size, 0, none⟩), .int .u64 153]) (w.alloc (.cells #[.int .i64 a, .int .i64 b, .int .i64 c, .int .i64 d] 104)) := by kernel_rfl
theorem as_elemOf (w : World) : (Rtype.elem? 106).run Tryz.prog w = .ok (some 104) w := by kernel_rfl
theorem as_mk (p : Addr) (w : World) : (ReflectliteValue.mk 104 p ReflectliteValue.flagAddr).run Tryz.prog w = .ok (.agg #[.pointer (some ⟨7, 104, none⟩), .pointer (some p), .int .u64 409]) w := by kernel_rfl
theorem as_elemV (a p : Addr) (W : World) (ha : W.cell? a = some (.pointer (some p))) :
    (ReflectliteValue.method (ReflectliteValue.valueError "reflectlite.Value.Elem" 0) ReflectliteValue.elem #[.agg #[.pointer (some ⟨7, 106, none⟩), .pointer (some a), .int .u64 150]]).run Tryz.prog W
      = .ok (.agg #[.pointer (some ⟨7, 104, none⟩), .pointer (some p), .int .u64 409]) W := by
  rw [as_rlm]
  simp only [Sem.run_bind, as_partsP, Result.andThen]
  simp [ReflectliteValue.elem, loadVar, isAgg, underlying, Tryz.underlying106, ha, Result.andThen, as_elemOf, as_mk]
theorem as_rls (v x : Value) : ReflectliteValue.set #[v, x] = (do
    let (some (dst, a, fl), some (src, b, _)) := (← ReflectliteValue.parts v, ← ReflectliteValue.parts x)
      | unsupported (.noEntry "extern/(internal/reflectlite.Value).Set.zeroValue")
    if fl / ReflectliteValue.flagAddr % 2 == 0 then unsupported (.noEntry "extern/(internal/reflectlite.Value).Set.unaddressable")
    let val ← loadVar src b
    if ← Rtype.directlyAssignable dst src then storeVar dst a val
    else if ← Rtype.implements dst src then
      if (← Rtype.kind src) == 20 then
        match val with
        | .nilIface => unsupported (.noEntry "extern/reflectlite: a nil value of one interface type handed on as a value of another")
        | _ => storeVar dst a val
      else storeVar dst a (.iface src val)
    else panicString ("reflectlite.Set: value of type " ++ (← Rtype.spelt src) ++ " is not assignable to type " ++ (← Rtype.spelt dst))
    pure (.tuple #[])) := rfl
theorem as_partsA (a : Addr) (w : World) : (ReflectliteValue.parts (.agg #[.pointer (some ⟨7, 104, none⟩), .pointer (some a), .int .u64 409])).run Tryz.prog w = .ok (some (104, a, 409)) w := by kernel_rfl
theorem as_partsR (a : Addr) (w : World) : (ReflectliteValue.parts (.agg #[.pointer (some ⟨7, 104, none⟩), .pointer (some a), .int .u64 153])).run Tryz.prog w = .ok (some (104, a, 153)) w := by kernel_rfl
theorem as_direct (w : World) : (Rtype.directlyAssignable 104 104).run Tryz.prog w = .ok true w := by kernel_rfl
theorem as_size (w : World) : (sizeOf 104).run Tryz.prog w = .ok 4 w := by kernel_rfl
end RecA
section RecB
open Go.RowKit Go.Extern.Stop Go.Stop Go.Extern

theorem info_refusal : (Tryz.prog.info? 104).map (·.size) = some 4 := by kernel_rfl
/-- (Value).Set: the variable gets what the Value's own variable holds. -/
theorem as_set (g h : Nat) (a b c d x0 x1 x2 x3 : Value) (W : World) (hg : Blk W g 104 #[x0, x1, x2, x3]) (hh : Blk W h 104 #[a, b, c, d])
    (o : ∀ v ∈ [a, b, c, d], v.oneCell' = true) :
    (ReflectliteValue.set #[.agg #[.pointer (some ⟨7, 104, none⟩), .pointer (some ⟨g, 0, none⟩), .int .u64 409], .agg #[.pointer (some ⟨7, 104, none⟩), .pointer (some ⟨h, 0, none⟩), .int .u64 153]]).run Tryz.prog W
      = .ok (.tuple #[]) (W.setRow g #[a, b, c, d]) := by
  have h1 := run_loadVar_row (P := Tryz.prog) W h 104 104 #[a, b, c, d] (0, 0) _ hh Tryz.underlying104 rfl info_refusal
  have h2 := run_storeCells_at Tryz.prog g 0 104 [a, b, c, d] 0 _ W hg (by simp) o
  rw [as_rls]
  simp only [Sem.run_bind, as_partsA, as_partsR, Result.andThen]
  simp [ReflectliteValue.flagAddr, h1, as_direct, storeVar, Value.cells, h2, Result.andThen]

theorem Blk.lt_of {w : World} {g : Nat} {t : TypeId} {cs : Array Value} (h : Blk w g t cs) : g < w.heap.size := h.lt
theorem Blk.alloc_ {w : World} {g : Nat} {t : TypeId} {cs : Array Value} (h : Blk w g t cs) (o : Obj) : Blk (w.alloc o) g t cs := by
  unfold Blk at h ⊢
  rw [(MapKept.heap_alloc w o).2 g (by
    rcases Nat.lt_or_ge g w.heap.size with h1 | h1
    · exact h1
    · rw [Array.getElem?_eq_none h1] at h; cases h)]
  exact h

set_option maxHeartbeats 4000000 in
set_option maxRecDepth 20000 in
/-- errors.As(a refusal, the address of a refusal). -/
theorem as_hit (g : Nat) (a b c d : Int) (x0 x1 x2 x3 : Value) (w : World) (hT : ErrTy w) (hg : Blk w g 104 #[x0, x1, x2, x3]) :
    Calls Tryz.prog 62 #[.iface 104 (.agg #[.int .i64 a, .int .i64 b, .int .i64 c, .int .i64 d]), .iface 106 (.pointer (some ⟨g, 0, none⟩))] w fun ev w' => ev = .returned (.bool true) ∧
      Blk w' g 104 #[.int .i64 a, .int .i64 b, .int .i64 c, .int .i64 d] ∧ Kept (fun k => k < w.heap.size ∧ k ≠ g) w w' := by
  have hlt := hg.lt
  have hkeep : ∀ (o1 o2 o3 o4 : Obj), Blk (((((w.alloc o1).alloc o2).alloc o3).alloc o4).setRow g #[.int .i64 a, .int .i64 b, .int .i64 c, .int .i64 d]) g 104 #[.int .i64 a, .int .i64 b, .int .i64 c, .int .i64 d] ∧
      Kept (fun k => k < w.heap.size ∧ k ≠ g) w (((((w.alloc o1).alloc o2).alloc o3).alloc o4).setRow g #[.int .i64 a, .int .i64 b, .int .i64 c, .int .i64 d]) := fun o1 o2 o3 o4 => by
    refine ⟨setRow_heap _ _ _ _ _ _ ((((hg.alloc_ o1).alloc_ o2).alloc_ o3).alloc_ o4), ?_⟩
    have hk : Kept (fun k => k < w.heap.size ∧ k ≠ g) w ((((w.alloc o1).alloc o2).alloc o3).alloc o4) :=
      ((((Kept.refl _ w).alloc (fun k h => h.1) o1).alloc (fun k h => by simp; omega) o2).alloc (fun k h => by simp; omega) o3).alloc (fun k h => by simp; omega) o4
    exact ⟨hk.os, hk.tape, hk.output, by simp; omega, fun k h => (setRow_other _ _ _ _ h.2).trans (hk.block k h)⟩
  have h6 := @run_callFunc_extern Tryz.prog 88 _ (fun args => ReflectliteValue.unpack (args.getD 0 (.tuple #[]))) Tryz.func88 (by kernel_rfl) (by kernel_rfl) (by kernel_rfl) (by kernel_rfl)
  have h7 := @run_callFunc_extern Tryz.prog 89 _ (ReflectliteValue.methodAny (ReflectliteValue.valueError "reflectlite.Value.Type" 0) (fun t _ _ _ => ReflectliteType.toType t)) Tryz.func89 (by kernel_rfl) (by kernel_rfl) (by kernel_rfl) (by kernel_rfl)
  have h8 := @run_callFunc_extern Tryz.prog 90 _ (ReflectliteValue.method (ReflectliteValue.valueError "reflectlite.Value.IsNil" 0) ReflectliteValue.isNil) Tryz.func90 (by kernel_rfl) (by kernel_rfl) (by kernel_rfl) (by kernel_rfl)
  have h27 := @run_callFunc_extern Tryz.prog 193 _ (ReflectliteType.abiMethod fun t => do pure (.int .u8 (← Rtype.kind t))) Tryz.func193 (by kernel_rfl) (by kernel_rfl) (by kernel_rfl) (by kernel_rfl)
  have h37 := @run_callFunc_extern Tryz.prog 203 _ (ReflectliteType.method ReflectliteType.elem) Tryz.func203 (by kernel_rfl) (by kernel_rfl) (by kernel_rfl) (by kernel_rfl)
  have h38 := @run_callFunc_extern Tryz.prog 204 _ (ReflectliteType.relation "Implements" ReflectliteType.implements_) Tryz.func204 (by kernel_rfl) (by kernel_rfl) (by kernel_rfl) (by kernel_rfl)
  have h10 := @run_callFunc_extern Tryz.prog 104 _ ReflectliteType.typeOf Tryz.func104 (by kernel_rfl) (by kernel_rfl) (by kernel_rfl) (by kernel_rfl)
  have h35 := @run_callFunc_extern Tryz.prog 201 _ (ReflectliteType.relation "AssignableTo" ReflectliteType.assignableTo) Tryz.func201 (by kernel_rfl) (by kernel_rfl) (by kernel_rfl) (by kernel_rfl)
  have h11 := @run_callFunc_extern Tryz.prog 105 _ (ReflectliteValue.method (ReflectliteValue.valueError "reflectlite.Value.Elem" 0) ReflectliteValue.elem) Tryz.func105 (by kernel_rfl) (by kernel_rfl) (by kernel_rfl) (by kernel_rfl)
  have h12 := @run_callFunc_extern Tryz.prog 106 _ ReflectliteValue.set Tryz.func106 (by kernel_rfl) (by kernel_rfl) (by kernel_rfl) (by kernel_rfl)
  have tO := as_typeOf
  have mA := as_methodAssignableTo
  have a25 := as_assignable
  have v25 := as_valueOfR
  have f6 := as_valueOfP
  have f7 := as_typeP
  have mK := as_methodKind
  have mE := as_methodElem
  have mI := as_methodImplements
  have k27 := as_kindP
  have k25 := as_kindR
  have e27 := as_elemP
  have i25 := as_implements
  obtain ⟨o1, ho1⟩ : ∃ o1, o1 = Obj.cells #[.pointer (some ⟨g, 0, none⟩)] 106 := ⟨_, rfl⟩
  obtain ⟨o2, ho2⟩ : ∃ o2, o2 = Obj.cells #[.pointer (some ⟨7, 106, none⟩), .pointer (some ⟨w.heap.size, 0, none⟩), .int .u64 150] 132 := ⟨_, rfl⟩
  obtain ⟨o4, ho4⟩ : ∃ o4, o4 = Obj.cells #[.int .i64 a, .int .i64 b, .int .i64 c, .int .i64 d] 104 := ⟨_, rfl⟩
  have hlt0 : 0 < w.heap.size := World.block_lt_of_cell? (h := hT)
  have hg2 : ((w.alloc (.cells #[.pointer (some ⟨g, 0, none⟩)] 106)).alloc (.cells #[.pointer (some ⟨7, 106, none⟩), .pointer (some ⟨w.heap.size, 0, none⟩), .int .u64 150] 132)).cell? ⟨0, 0, none⟩ = some (.iface 155 (.agg #[.pointer (some ⟨7, 101, none⟩)])) := by
    rw [World.cell?_alloc_lt _ _ ⟨0, 0, none⟩ (by simp), World.cell?_alloc_lt _ _ ⟨0, 0, none⟩ hlt0]; exact hT
  have n8 := as_isNil ⟨w.heap.size, 0, none⟩ ⟨g, 0, none⟩ ((w.alloc (.cells #[.pointer (some ⟨g, 0, none⟩)] 106)).alloc (.cells #[.pointer (some ⟨7, 106, none⟩), .pointer (some ⟨w.heap.size, 0, none⟩), .int .u64 150] 132)) (by simp)
  have el := as_elemV ⟨w.heap.size, 0, none⟩ ⟨g, 0, none⟩ (((w.alloc (.cells #[.pointer (some ⟨g, 0, none⟩)] 106)).alloc (.cells #[.pointer (some ⟨7, 106, none⟩), .pointer (some ⟨w.heap.size, 0, none⟩), .int .u64 150] 132)).alloc (.cells #[.pointer (some ⟨7, 106, none⟩), .pointer (some ⟨w.heap.size, 0, none⟩), .int .u64 150] 132)) (by rw [World.cell?_alloc_lt _ _ ⟨w.heap.size, 0, none⟩ (by simp; omega)]; simp)
  have st := as_set g (w.heap.size + 1 + 1 + 1) (.int .i64 a) (.int .i64 b) (.int .i64 c) (.int .i64 d) x0 x1 x2 x3 ((((w.alloc (.cells #[.pointer (some ⟨g, 0, none⟩)] 106)).alloc (.cells #[.pointer (some ⟨7, 106, none⟩), .pointer (some ⟨w.heap.size, 0, none⟩), .int .u64 150] 132)).alloc (.cells #[.pointer (some ⟨7, 106, none⟩), .pointer (some ⟨w.heap.size, 0, none⟩), .int .u64 150] 132)).alloc (.cells #[.int .i64 a, .int .i64 b, .int .i64 c, .int .i64 d] 104))
    ((((hg.alloc_ _).alloc_ _).alloc_ _).alloc_ _)
    (by have := Blk.new (((w.alloc (.cells #[.pointer (some ⟨g, 0, none⟩)] 106)).alloc (.cells #[.pointer (some ⟨7, 106, none⟩), .pointer (some ⟨w.heap.size, 0, none⟩), .int .u64 150] 132)).alloc (.cells #[.pointer (some ⟨7, 106, none⟩), .pointer (some ⟨w.heap.size, 0, none⟩), .int .u64 150] 132)) 104 #[.int .i64 a, .int .i64 b, .int .i64 c, .int .i64 d]
        simpa using this) (by simp [Value.oneCell'])
  have HK := Lib.hid hkeep
  clear hkeep hg hT
  go_enter Tryz.func62, Tryz.ntmps62
  go_wp2
  refine wp_loop_rounds 1 ?_
  rw [rounds_succ]
  go_wp2
  go_ret
  exact ⟨rfl, HK.out _ _ _ _⟩
end RecB
section RecC
open Go.RowKit Go.Extern.Stop Go.Stop Go.Extern

theorem ta_refusal (v : Value) (w : World) : (Instr.typeAssert (.iface 104 v) 20 101 true).run Tryz.prog w = .ok (.tuple #[.iface 104 v, .bool true]) w := by kernel_rfl
theorem ta_nil (w : World) : (Instr.typeAssert .nilIface 20 101 true).run Tryz.prog w = .ok (.tuple #[.nilIface, .bool false]) w := by kernel_rfl

theorem stop_panicking (p : Addr) (x pv : Value) (older : List PanicEntry) (w : World) (hc : w.cell? p = some x) (hz : w.frozen? p = false) :
    CallsD Tryz.prog 87 #[.pointer (some p)] (.panicking ({ v := .iface 104 pv, recovered := false } :: older)) w fun e u' w' =>
      e = .returned (.tuple #[]) ∧ u' = .panicking ({ v := .iface 104 pv, recovered := true } :: older) ∧ w' = w.setCell p (.iface 104 pv) := by
  have hT := ta_refusal
  refine callsD_of_wpS Tryz.func87 rfl fun c₀ cs hu => ?_
  apply wpS_seq
  apply wpS_region
  simp [wpOpsS, go_sem, recoverD, hu, hT, Tryz.ntmps87, Exit.thenS]
  apply wpS_seq
  apply wpS_region
  simp [wpOpsS, go_sem, Exit.thenS]
  refine wpS_cond (t := true) (by simp [Act.eval, Array.replicate]) ?_
  simp only [if_true]
  apply wpS_region
  simp [wpOpsS, go_sem, hc, hz, bodyPostS, results, Tryz.results87]

theorem stop_idle (p : Addr) (w : World) :
    CallsD Tryz.prog 87 #[.pointer (some p)] .returning w fun e u' w' => e = .returned (.tuple #[]) ∧ u' = .returning ∧ w' = w := by
  have hT := ta_nil
  refine callsD_of_wpS Tryz.func87 rfl fun c₀ cs hu => ?_
  apply wpS_seq
  apply wpS_region
  simp [wpOpsS, go_sem, recoverD, hu, hT, Tryz.ntmps87, Exit.thenS]
  apply wpS_seq
  apply wpS_region
  simp [wpOpsS, go_sem, Exit.thenS]
  refine wpS_cond (t := false) (by simp [Act.eval, Array.replicate]) ?_
  simp only [Bool.false_eq_true, if_false]
  refine wpS_of_wp (wp_skip ?_)
  cases c₀
  simp_all [bodyPostS, results, Tryz.results87]

/-- What stopped hands a function. -/
abbrev errW (w : World) : World := w.alloc (.cells #[.nilIface] 101)
/-- How a function ends: or it is stopped by a refusal. -/
def Ends (Q : World → Prop) (R : Int → Int → Int → Int → World → Prop) (e : Ending) (w : World) : Prop :=
  (e = .returned (.tuple #[]) ∧ Q w) ∨ ∃ a b c d, e = .panicked [{ v := .iface 104 (.agg #[.int .i64 a, .int .i64 b, .int .i64 c, .int .i64 d]), recovered := false }] ∧ R a b c d w

set_option maxRecDepth 20000 in
theorem stopped_any (fn : FuncId) (cap : Array Value) (w : World) (Q : World → Prop) (R : Int → Int → Int → Int → World → Prop) (hcall : Enters fn)
    (hf : Calls Tryz.prog fn cap (errW w) fun e w2 => Ends Q R e w2 ∧ w2.heap[w.heap.size]? = some (.cells #[.nilIface] 101 (0, 0))) :
    Calls Tryz.prog 61 #[.func (.func fn) #[] cap] w fun e w' =>
      (e = .returned .nilIface ∧ ∃ w2, Q w2 ∧ w' = w2.setCell ⟨w.heap.size, 0, none⟩ .nilIface) ∨
      ∃ a b c d, e = .returned (.iface 104 (.agg #[.int .i64 a, .int .i64 b, .int .i64 c, .int .i64 d])) ∧ ∃ w2, R a b c d w2 ∧ w' = w2.setCell ⟨w.heap.size, 0, none⟩ (.iface 104 (.agg #[.int .i64 a, .int .i64 b, .int .i64 c, .int .i64 d])) := by
  have HF := Lib.hid hf
  clear hf
  unfold Enters at hcall
  have hmf : ∀ (fn : Fn) (first cap : Array Value) (w : World), (Instr.makeFunc fn first cap).run Tryz.prog w = .ok (.func fn first cap) w := fun _ _ _ _ => rfl
  go_enter_defers Tryz.func61, Tryz.ntmps61
  go_wp2_with fail
  refine HF.out.mono ?_
  rintro e w2 ⟨hE, hb⟩
  have hc : w2.cell? ⟨w.heap.size, 0, none⟩ = some .nilIface := cell_of_row w2 w.heap.size 0 #[.nilIface] _ _ hb
  have hz : w2.frozen? ⟨w.heap.size, 0, none⟩ = false := by simp [World.frozen?, hb]
  clear hb
  rcases hE with ⟨rfl, hQ⟩ | ⟨a, b, c, d, rfl, hR⟩
  · have HQ := Lib.hid hQ
    clear hQ
    go_wp2_with fail
    refine leaves_cons (f := 87) (args := #[.pointer (some ⟨w.heap.size, 0, none⟩)]) (by simp) (by simp [go_sem]) ?_
    refine (stop_idle ⟨w.heap.size, 0, none⟩ _).mono ?_
    rintro e u' w'' ⟨rfl, rfl, rfl⟩
    simp [Leaves, settle, results, Tryz.results61, go_sem, hc]
    exact ⟨w2, HQ.out, rfl⟩
  · have HR := Lib.hid hR
    clear hR
    go_wp2_with fail
    refine leaves_cons (f := 87) (args := #[.pointer (some ⟨w.heap.size, 0, none⟩)]) (by simp) (by simp [go_sem]) ?_
    refine (stop_panicking ⟨w.heap.size, 0, none⟩ _ _ _ _ hc hz).mono ?_
    rintro e u' w'' ⟨rfl, rfl, rfl⟩
    simp [Leaves, settle, results, Tryz.results61, go_sem, hc]
    exact ⟨a, b, c, d, ⟨rfl, rfl, rfl, rfl⟩, w2, HR.out, rfl⟩

/-- What attempt hands a function: its result's variable, stopped's variable. -/
abbrev attW (w : World) : World := errW (w.alloc (.cells #[.int .i64 0, .int .i64 0, .int .i64 0, .int .i64 0] 40))
/-- The blocks of attempt's own. -/
def attK (w : World) (k : Nat) : Prop := k = w.heap.size ∨ k = w.heap.size + 1
/-- What comes of attempt. -/
def Attempted (w : World) (Q : World → Prop) (R : Int → Int → Int → Int → World → Prop) (e : Ending) (w' : World) : Prop :=
  (e = .returned (.tuple #[.agg #[.int .i64 0, .int .i64 0, .int .i64 0, .int .i64 0], .int .i64 0]) ∧ ∃ w2, Q w2 ∧ Kept (fun k => k < w2.heap.size ∧ ¬ attK w k) w2 w') ∨
  ∃ a b c d, e = .returned (.tuple #[.agg #[.int .i64 a, .int .i64 b, .int .i64 c, .int .i64 d], .int .i64 50]) ∧ ∃ w2, R a b c d w2 ∧ Kept (fun k => k < w2.heap.size ∧ ¬ attK w k) w2 w'

set_option maxRecDepth 20000 in
theorem attempt_any (fn : FuncId) (cap : Array Value) (w : World) (Q : World → Prop) (R : Int → Int → Int → Int → World → Prop) (hcall : Enters fn) (hT : ErrTy w)
    (hf : Calls Tryz.prog fn cap (attW w) fun e w2 => Ends Q R e w2 ∧ Kept (fun k => k < w.heap.size ∧ k = 0 ∨ attK w k) (attW w) w2) :
    Calls Tryz.prog 37 #[.func (.func fn) #[] cap] w fun e w' => Attempted w Q R e w' := by
  have hlt0 : 0 < w.heap.size := World.block_lt_of_cell? (h := hT)
  have hS := stopped_any fn cap (w.alloc (.cells #[.int .i64 0, .int .i64 0, .int .i64 0, .int .i64 0] 40))
    (fun w2 => Q w2 ∧ Kept (fun k => k < w.heap.size ∧ k = 0 ∨ attK w k) (attW w) w2)
    (fun a b c d w2 => R a b c d w2 ∧ Kept (fun k => k < w.heap.size ∧ k = 0 ∨ attK w k) (attW w) w2) hcall
    (hf.mono fun e w2 ⟨h1, h2⟩ => ⟨by
      rcases h1 with ⟨e1, q⟩ | ⟨a, b, c, d, e1, q⟩
      · exact .inl ⟨e1, q, h2⟩
      · exact .inr ⟨a, b, c, d, e1, q, h2⟩, by
      have := h2.block (w.heap.size + 1) (.inr (.inr rfl))
      rw [show (w.alloc (.cells #[.int .i64 0, .int .i64 0, .int .i64 0, .int .i64 0] 40)).heap.size = w.heap.size + 1 by simp, this]
      have hn := heap_alloc_new (w.alloc (.cells #[.int .i64 0, .int .i64 0, .int .i64 0, .int .i64 0] 40)) (.cells #[.nilIface] 101)
      simpa using hn⟩)
  have HS := Lib.hid hS
  have HT := Lib.hid hT
  clear hf hS hT hcall
  go_enter Tryz.func37, Tryz.ntmps37
  go_wp2_with fail
  refine HS.out.mono ?_
  rintro e w1 h
  have hsz : (w.alloc (.cells #[.int .i64 0, .int .i64 0, .int .i64 0, .int .i64 0] 40)).heap.size = w.heap.size + 1 := by simp
  rw [hsz] at h
  have hn0 : (attW w).heap[w.heap.size]? = some (.cells #[.int .i64 0, .int .i64 0, .int .i64 0, .int .i64 0] 40 (0, 0)) := by
    show ((w.alloc _).alloc _).heap[w.heap.size]? = _
    rw [(MapKept.heap_alloc (w.alloc (.cells #[.int .i64 0, .int .i64 0, .int .i64 0, .int .i64 0] 40)) (.cells #[.nilIface] 101)).2 w.heap.size (by simp)]
    exact heap_alloc_new w _
  rcases h with ⟨rfl, w2, ⟨hQ, hK⟩, hw⟩ | ⟨a, b, c, d, rfl, w2, ⟨hR, hK⟩, hw⟩
  · have hb0 : Blk w2 w.heap.size 40 #[.int .i64 0, .int .i64 0, .int .i64 0, .int .i64 0] := (hK.block w.heap.size (.inr (.inl rfl))).trans hn0
    have hb : Blk w1 w.heap.size 40 #[.int .i64 0, .int .i64 0, .int .i64 0, .int .i64 0] := by
      rw [hw]; exact (Below.heap_setCell _ _ _ _ (by simp)).trans hb0
    have hk : Kept (fun k => k < w2.heap.size ∧ ¬ attK w k) w2 w1 := by
      rw [hw]; exact (Kept.refl _ _).setCell (p := ⟨w.heap.size + 1, 0, none⟩) (fun h => h.2 (.inr rfl)) _
    have HQ := Lib.hid (And.intro hQ hk)
    have c0 := hb.cell 0
    have c1 := hb.cell 1
    have c2 := hb.cell 2
    have c3 := hb.cell 3
    have z0 := hb.frozen 0
    have z1 := hb.frozen 1
    have z2 := hb.frozen 2
    have z3 := hb.frozen 3
    simp only [List.getElem?_toArray, List.getElem?_cons_zero, List.getElem?_cons_succ] at c0 c1 c2 c3
    have hlt := hb.lt
    clear hQ hk hK hb0 hb hn0 hsz hw
    go_wp2_with fail
    refine bodyPost_ret (v := .tuple #[.agg #[.int .i64 0, .int .i64 0, .int .i64 0, .int .i64 0], .int .i64 0]) (by simp [results, Tryz.results37, go_sem, c0, c1, c2, c3]) rfl (.inl ⟨rfl, w2, HQ.out.1, ?_⟩)
    exact (((HQ.out.2.setCell (fun h => h.2 (.inl rfl)) _).setCell (fun h => h.2 (.inl rfl)) _).setCell (fun h => h.2 (.inl rfl)) _).setCell (fun h => h.2 (.inl rfl)) _
  · have hb0 : Blk w2 w.heap.size 40 #[.int .i64 0, .int .i64 0, .int .i64 0, .int .i64 0] := (hK.block w.heap.size (.inr (.inl rfl))).trans hn0
    have hb : Blk w1 w.heap.size 40 #[.int .i64 0, .int .i64 0, .int .i64 0, .int .i64 0] := by
      rw [hw]; exact (Below.heap_setCell _ _ _ _ (by simp)).trans hb0
    have hk : Kept (fun k => k < w2.heap.size ∧ ¬ attK w k) w2 w1 := by
      rw [hw]; exact (Kept.refl _ _).setCell (p := ⟨w.heap.size + 1, 0, none⟩) (fun h => h.2 (.inr rfl)) _
    have hT1 : ErrTy w1 := by
      have e1 : w1.heap[0]? = w.heap[0]? := by
        rw [hw, Below.heap_setCell _ _ _ _ (show 0 ≠ w.heap.size + 1 by omega), hK.block 0 (.inl ⟨hlt0, rfl⟩)]
        show ((w.alloc _).alloc _).heap[0]? = _
        rw [(MapKept.heap_alloc (w.alloc (.cells #[.int .i64 0, .int .i64 0, .int .i64 0, .int .i64 0] 40)) (.cells #[.nilIface] 101)).2 0 (by simp),
          (MapKept.heap_alloc w (.cells #[.int .i64 0, .int .i64 0, .int .i64 0, .int .i64 0] 40)).2 0 hlt0]
      exact (World.cell?_of_block (w := w) (a := ⟨0, 0, none⟩) e1).trans HT.out
    have hlt1 := hb.lt
    have HQ := Lib.hid (And.intro hR (And.intro hk (And.intro hT1 hb)))
    clear hR hk hK hb0 hb hn0 hsz hw hT1
    go_wp2_with fail
    have hT2 : ErrTy (w1.alloc (.cells #[.int .i64 0, .int .i64 0, .int .i64 0, .int .i64 0] 104)) := by
      have h := HQ.out.2.2.1
      exact (World.cell?_alloc_lt _ _ ⟨0, 0, none⟩ (World.block_lt_of_cell? (h := h))).trans h
    refine (as_hit w1.heap.size a b c d _ _ _ _ _ hT2 (Blk.new w1 _ _)).mono ?_
    rintro e w3 ⟨rfl, hn, hk3⟩
    have hb3 : Blk w3 w.heap.size 40 #[.int .i64 0, .int .i64 0, .int .i64 0, .int .i64 0] :=
      (hk3.block w.heap.size ⟨by simp; omega, by omega⟩).trans (HQ.out.2.2.2.alloc_ _)
    have hk4 : Kept (fun k => k < w2.heap.size ∧ ¬ attK w k) w2 w3 := by
      have hs := HQ.out.2.1.size
      have := (HQ.out.2.1.alloc (fun k h => by omega) (.cells #[.int .i64 0, .int .i64 0, .int .i64 0, .int .i64 0] 104))
      exact this.trans (hk3.mono fun k h => ⟨by simp; omega, by omega⟩)
    have HR := Lib.hid (And.intro HQ.out.1 hk4)
    have c0 := hn.cell 0
    have c1 := hn.cell 1
    have c2 := hn.cell 2
    have c3 := hn.cell 3
    simp only [List.getElem?_toArray, List.getElem?_cons_zero, List.getElem?_cons_succ] at c0 c1 c2 c3
    have d0 := hb3.cell 0
    have d1 := hb3.cell 1
    have d2 := hb3.cell 2
    have d3 := hb3.cell 3
    simp only [List.getElem?_toArray, List.getElem?_cons_zero, List.getElem?_cons_succ] at d0 d1 d2 d3
    have z0 := hb3.frozen 0
    have z1 := hb3.frozen 1
    have z2 := hb3.frozen 2
    have z3 := hb3.frozen 3
    clear hn hk3 hb3 hk4 HQ hT2
    go_wp2_with fail
    refine bodyPost_ret (v := .tuple #[.agg #[.int .i64 a, .int .i64 b, .int .i64 c, .int .i64 d], .int .i64 50]) (by simp [results, Tryz.results37, go_sem, d0, d1, d2, d3]) rfl (.inr ⟨a, b, c, d, rfl, w2, HR.out.1, ?_⟩)
    exact (((HR.out.2.setCell (fun h => h.2 (.inl rfl)) _).setCell (fun h => h.2 (.inl rfl)) _).setCell (fun h => h.2 (.inl rfl)) _).setCell (fun h => h.2 (.inl rfl)) _
end RecC
section RecPlain
namespace Rec
open Fx

/-- A part of a stream. -/
structure Pt where
  depth : Int
  format : Int
  field : Int
  start : Int
  stop : Int
  number : Int
  deriving DecidableEq
/-- A refusal. -/
structure Rf where
  offset : Int
  format : Int
  field : Int
  reason : Int
  deriving DecidableEq
def zRf : Rf := ⟨0, 0, 0, 0⟩

/-- The number that is written in bytes, the highest one first. -/
def numL (l : List UInt8) : Int := l.foldl (fun n b => 256 * n + (b.toNat : Int)) 0
def num (s : ByteArray) : Int := numL s.data.toList
/-- The sum of bytes. -/
def sumL (l : List UInt8) : Int := (l.map fun b => (b.toNat : Int)).sum
/-- The sum of the first n bytes of a stream. -/
def sumTo (s : ByteArray) (n : Nat) : Int := sumL (s.data.toList.take n)
def pow (n : Int) : Int := 256 ^ n.toNat

/-- What comes of recognising: where it ends and the parts, or the refusal. -/
abbrev Sub := Int → Int → Nat → Nat → Nat → Except Rf (Nat × List Pt)
/-- Values of a format, one behind the other. -/
def reps (sub : Sub) (id depth : Int) (limit at_ cnt : Nat) : Nat → Except Rf (Nat × List Pt)
  | 0 => .ok (at_, [])
  | n + 1 =>
    match reps sub id depth limit at_ cnt n with
    | .error r => .error r
    | .ok (e, ps) =>
      match sub id depth e limit (cnt + ps.length) with
      | .error r => .error r
      | .ok (e', qs) => .ok (e', ps ++ qs)
/-- How many bytes the numbers before say. -/
def told (f : Fld) (nums : List Int) : Nat := (nums.getD f.frm.toNat 0).toNat
/-- A field with n bytes, if they are there. -/
def short (id : Int) (k : Nat) (at_ limit n : Nat) (x : Except Rf (Nat × Int × List Pt)) : Except Rf (Nat × Int × List Pt) :=
  if limit < at_ + n then .error ⟨at_, id, k, 1⟩ else x
def unlessB (b : Bool) (r : Rf) (x : Except Rf (Nat × Int × List Pt)) : Except Rf (Nat × Int × List Pt) := if b then x else .error r
/-- What a value in a field with a limit comes to. -/
def boxed (id : Int) (k : Nat) (limit : Nat) : Except Rf (Nat × List Pt) → Except Rf (Nat × Int × List Pt)
  | .error r => .error r
  | .ok (e, ps) => if e < limit then .error ⟨e, id, k, 4⟩ else .ok (e, 0, ps)
def listed (count : Nat) : Except Rf (Nat × List Pt) → Except Rf (Nat × Int × List Pt)
  | .error r => .error r
  | .ok (e, ps) => .ok (e, (count : Int), ps)
/-- What a field comes to, by its kind: where it ends, its number, the parts in it. -/
def kind (s : ByteArray) (sub : Sub) (id depth : Int) (start limit : Nat) (k : Nat) (f : Fld) (nums : List Int) (at_ cnt : Nat) : Except Rf (Nat × Int × List Pt) :=
  if f.kind = 1 then short id k at_ limit f.text.size (unlessB (decide (s.extract at_ (at_ + f.text.size) = f.text)) ⟨at_, id, k, 2⟩ (.ok (at_ + f.text.size, 0, [])))
  else if f.kind = 2 then short id k at_ limit f.n.toNat (.ok (at_ + f.n.toNat, num (s.extract at_ (at_ + f.n.toNat)), []))
  else if f.kind = 3 then
    (if f.frm = -1 then short id k at_ limit f.n.toNat (.ok (at_ + f.n.toNat, 0, [])) else short id k at_ limit (told f nums) (.ok (at_ + told f nums, 0, [])))
  else if f.kind = 4 then listed (told f nums) (reps sub f.n (depth + 1) limit at_ cnt (told f nums))
  else if f.kind = 5 then short id k at_ limit (told f nums) (boxed id k (at_ + told f nums) (sub f.n (depth + 1) at_ (at_ + told f nums) cnt))
  else short id k at_ limit f.n.toNat (unlessB (decide (num (s.extract at_ (at_ + f.n.toNat)) = (sumTo s at_ - sumTo s start) % pow f.n)) ⟨at_, id, k, 3⟩
    (.ok (at_ + f.n.toNat, num (s.extract at_ (at_ + f.n.toNat)), [])))
/-- The next field: at most 5000 parts. -/
def next (s : ByteArray) (sub : Sub) (id depth : Int) (start limit : Nat) (k : Nat) (f : Fld) (nums : List Int) (at_ cnt : Nat) : Except Rf (Nat × Int × List Pt) :=
  if 5000 ≤ cnt then .error ⟨at_, id, k, 5⟩ else kind s sub id depth start limit k f nums at_ (cnt + 1)
/-- The first k fields of a value: where they end, their numbers, the parts. -/
def flds (s : ByteArray) (sub : Sub) (id depth : Int) (start limit cnt : Nat) (fs : List Fld) : Nat → Except Rf (Nat × List Int × List Pt)
  | 0 => .ok (start, [], [])
  | k + 1 =>
    match flds s sub id depth start limit cnt fs k with
    | .error r => .error r
    | .ok (at_, nums, ps) =>
      match next s sub id depth start limit k (fs.getD k zf) nums at_ (cnt + ps.length) with
      | .error r => .error r
      | .ok (e, n, qs) => .ok (e, nums ++ [n], ps ++ (⟨depth, id, k, at_, e, n⟩ :: qs))
def ends : Except Rf (Nat × List Int × List Pt) → Except Rf (Nat × List Pt)
  | .error r => .error r
  | .ok (at_, _, ps) => .ok (at_, ps)
/-- The fields of the format with an ID. -/
def fieldsOf (L : List Fm) (id : Int) : List Fld := ((L.find? fun f => decide (f.id = id)).getD zm).fs
def has (L : List Fm) (id : Int) : Bool := L.any fun f => decide (f.id = id)
/-- A value. -/
def val (L : List Fm) (s : ByteArray) : Nat → Sub
  | 0 => fun _ _ _ _ _ => .error zRf
  | n + 1 => fun id depth start limit cnt => ends (flds s (val L s n) id depth start limit cnt (fieldsOf L id) (fieldsOf L id).length)
/-- The whole stream. -/
def whole (L : List Fm) (s : ByteArray) (id : Int) : Except Rf (List Pt) :=
  if has L id then
    match val L s 61 id 0 0 s.size 0 with
    | .error r => .error r
    | .ok (e, ps) => if e < s.size then .error ⟨e, id, (fieldsOf L id).length, 4⟩ else .ok ps
  else .error zRf
/-- What Match tells. -/
def mtch (L : List Fm) (id : Int) (s : ByteArray) : Except Rf (List Pt) :=
  if vd L = true ∧ s.size ≤ 65536 then whole L s id else .error zRf

/-! errors stay -/
theorem reps_error {sub : Sub} {id depth : Int} {limit at_ cnt k : Nat} {r : Rf} (h : reps sub id depth limit at_ cnt k = .error r) (d : Nat) : reps sub id depth limit at_ cnt (k + d) = .error r := by
  induction d with
  | zero => exact h
  | succ d ih => rw [← Nat.add_assoc, reps, ih]
theorem reps_le {sub : Sub} {id depth : Int} {limit at_ cnt k m : Nat} {r : Rf} (h : reps sub id depth limit at_ cnt k = .error r) (hk : k ≤ m) : reps sub id depth limit at_ cnt m = .error r := by
  have := reps_error h (m - k)
  rwa [show k + (m - k) = m by omega] at this
theorem flds_le {s : ByteArray} {sub : Sub} {id depth : Int} {start limit cnt k m : Nat} {fs : List Fld} {r : Rf} (h : flds s sub id depth start limit cnt fs k = .error r) (hk : k ≤ m) : flds s sub id depth start limit cnt fs m = .error r := by
  obtain ⟨d, rfl⟩ : ∃ d, m = k + d := ⟨m - k, by omega⟩
  clear hk
  induction d with
  | zero => exact h
  | succ d ih => rw [← Nat.add_assoc, flds, ih]
/-! where a value ends -/
theorem short_ok {id : Int} {k a l n : Nat} {x : Except Rf (Nat × Int × List Pt)} {y : Nat × Int × List Pt} (h : short id k a l n x = .ok y) : a + n ≤ l ∧ x = .ok y := by
  unfold short at h
  split at h
  · cases h
  · exact ⟨by omega, h⟩
theorem unless_ok {b : Bool} {r : Rf} {x : Except Rf (Nat × Int × List Pt)} {y : Nat × Int × List Pt} (h : unlessB b r x = .ok y) : b = true ∧ x = .ok y := by
  unfold unlessB at h
  split at h
  · rename_i hb; exact ⟨hb, h⟩
  · cases h
theorem listed_ok {c : Nat} {x : Except Rf (Nat × List Pt)} {y : Nat × Int × List Pt} (h : listed c x = .ok y) : x = .ok (y.1, y.2.2) ∧ y.2.1 = (c : Int) := by
  unfold listed at h
  split at h
  · cases h
  · cases h; exact ⟨rfl, rfl⟩
theorem boxed_ok {id : Int} {k l : Nat} {x : Except Rf (Nat × List Pt)} {y : Nat × Int × List Pt} (h : boxed id k l x = .ok y) : x = .ok (y.1, y.2.2) ∧ y.2.1 = 0 ∧ l ≤ y.1 := by
  unfold boxed at h
  split at h
  · cases h
  · split at h
    · cases h
    · cases h; exact ⟨rfl, rfl, by omega⟩
/-- A value ends within its limit. -/
def Within (sub : Sub) : Prop := ∀ id depth at_ limit cnt e ps, sub id depth at_ limit cnt = .ok (e, ps) → at_ ≤ limit → at_ ≤ e ∧ e ≤ limit
theorem reps_in {sub : Sub} (hs : Within sub) {id depth : Int} {limit at_ cnt : Nat} (ha : at_ ≤ limit) : ∀ {n e : Nat} {ps : List Pt}, reps sub id depth limit at_ cnt n = .ok (e, ps) → at_ ≤ e ∧ e ≤ limit
  | 0, e, ps, h => by
    unfold reps at h
    cases h
    exact ⟨Nat.le_refl _, ha⟩
  | n + 1, e, ps, h => by
    unfold reps at h
    split at h
    · cases h
    · rename_i e1 ps1 h1
      have i1 := reps_in hs ha h1
      split at h
      · cases h
      · rename_i e2 qs h2
        cases h
        have i2 := hs _ _ _ _ _ _ _ h2 i1.2
        omega
theorem kind_in {s : ByteArray} {sub : Sub} (hs : Within sub) {id depth : Int} {start limit k at_ cnt : Nat} {f : Fld} {nums : List Int} {y : Nat × Int × List Pt} (ha : at_ ≤ limit) (h : kind s sub id depth start limit k f nums at_ cnt = .ok y) : at_ ≤ y.1 ∧ y.1 ≤ limit := by
  unfold kind at h
  split at h
  · obtain ⟨h1, h2⟩ := short_ok h
    obtain ⟨_, h3⟩ := unless_ok h2
    cases h3
    exact ⟨by simp, h1⟩
  · split at h
    · obtain ⟨h1, h2⟩ := short_ok h
      cases h2
      exact ⟨by simp, h1⟩
    · split at h
      · split at h
        · obtain ⟨h1, h2⟩ := short_ok h
          cases h2
          exact ⟨by simp, h1⟩
        · obtain ⟨h1, h2⟩ := short_ok h
          cases h2
          exact ⟨by simp, h1⟩
      · split at h
        · exact reps_in hs ha (listed_ok h).1
        · split at h
          · obtain ⟨h1, h2⟩ := short_ok h
            obtain ⟨h3, _, h4⟩ := boxed_ok h2
            have := hs _ _ _ _ _ _ _ h3 (by omega)
            omega
          · obtain ⟨h1, h2⟩ := short_ok h
            obtain ⟨_, h3⟩ := unless_ok h2
            cases h3
            exact ⟨by simp, h1⟩
theorem next_in {s : ByteArray} {sub : Sub} (hs : Within sub) {id depth : Int} {start limit k at_ cnt : Nat} {f : Fld} {nums : List Int} {y : Nat × Int × List Pt} (ha : at_ ≤ limit) (h : next s sub id depth start limit k f nums at_ cnt = .ok y) : cnt < 5000 ∧ at_ ≤ y.1 ∧ y.1 ≤ limit := by
  unfold next at h
  split at h
  · cases h
  · exact ⟨by omega, kind_in hs ha h⟩
theorem flds_in {s : ByteArray} {sub : Sub} (hs : Within sub) {id depth : Int} {start limit cnt : Nat} {fs : List Fld} (ha : start ≤ limit) : ∀ {k e : Nat} {nums : List Int} {ps : List Pt}, flds s sub id depth start limit cnt fs k = .ok (e, nums, ps) → start ≤ e ∧ e ≤ limit ∧ nums.length = k
  | 0, e, nums, ps, h => by
    unfold flds at h
    cases h
    exact ⟨Nat.le_refl _, ha, rfl⟩
  | k + 1, e, nums, ps, h => by
    unfold flds at h
    split at h
    · cases h
    · rename_i at1 nums1 ps1 h1
      obtain ⟨i1, i2, i3⟩ := flds_in hs ha h1
      split at h
      · cases h
      · rename_i e2 n qs h2
        cases h
        have i4 := next_in hs i2 h2
        exact ⟨Nat.le_trans i1 i4.2.1, i4.2.2, by simp [i3]⟩
theorem ends_ok {x : Except Rf (Nat × List Int × List Pt)} {e : Nat} {ps : List Pt} (h : ends x = .ok (e, ps)) : ∃ nums, x = .ok (e, nums, ps) := by
  unfold ends at h
  split at h
  · cases h
  · cases h; exact ⟨_, rfl⟩
theorem val_in (L : List Fm) (s : ByteArray) : ∀ n, Within (val L s n)
  | 0 => fun _ _ _ _ _ _ _ h _ => by unfold val at h; cases h
  | n + 1 => fun id depth at_ limit cnt e ps h ha => by
    unfold val at h
    obtain ⟨nums, h1⟩ := ends_ok h
    have := flds_in (val_in L s n) ha h1
    exact ⟨this.1, this.2.1⟩
/-! numbers that are not there yet are nought -/
theorem told_pad (f : Fld) (nums : List Int) (m : Nat) : told f (nums ++ List.replicate m 0) = told f nums := by
  unfold told
  congr 1
  simp only [List.getD_eq_getElem?_getD, List.getElem?_append]
  split
  · rfl
  · rename_i h
    have e : nums[f.frm.toNat]? = none := List.getElem?_eq_none (by omega)
    rw [e, List.getElem?_replicate]
    split <;> rfl
theorem kind_pad (s : ByteArray) (sub : Sub) (id depth : Int) (start limit k : Nat) (f : Fld) (nums : List Int) (at_ cnt m : Nat) : kind s sub id depth start limit k f (nums ++ List.replicate m 0) at_ cnt = kind s sub id depth start limit k f nums at_ cnt := by
  unfold kind
  rw [told_pad]

/-! where a format stands -/
/-- The formats with the IDs that are used lie before. -/
def At (L : List Fm) (id : Int) (i : Nat) : Prop := i < L.length ∧ (L.getD i zm).id = id
theorem asc_lt {L : List Fm} (h : ∀ i, i + 1 < L.length → (L.getD i zm).id < (L.getD (i + 1) zm).id) {i j : Nat} (hij : i < j) (hj : j < L.length) : (L.getD i zm).id < (L.getD j zm).id := by
  induction j with
  | zero => omega
  | succ j ih =>
    rcases Nat.lt_or_ge i j with h1 | h1
    · exact Int.lt_trans (ih h1 (by omega)) (h j hj)
    · obtain rfl : i = j := by omega
      exact h i hj
theorem find_at {L : List Fm} (h : Ok L) {id : Int} {i : Nat} (ha : At L id i) : (L.find? fun f => decide (f.id = id)) = some (L.getD i zm) := by
  rw [List.find?_eq_some_iff_getElem]
  refine ⟨by simpa using ha.2, i, ha.1, by simp [List.getD, ha.1], fun j hj => ?_⟩
  have := asc_lt h.asc hj ha.1
  have e : (L.getD j zm).id = (L[j]'(Nat.lt_trans hj ha.1)).id := by simp [List.getD, Nat.lt_trans hj ha.1]
  have h2 := ha.2
  simp only [Bool.not_eq_true', decide_eq_false_iff_not]
  omega
theorem fieldsOf_at {L : List Fm} (h : Ok L) {id : Int} {i : Nat} (ha : At L id i) : fieldsOf L id = (L.getD i zm).fs := by
  unfold fieldsOf; rw [find_at h ha]; rfl
theorem has_iff {L : List Fm} {id : Int} : has L id = true ↔ ∃ i, At L id i := by
  unfold has At
  rw [List.any_eq_true]
  constructor
  · rintro ⟨f, hf, he⟩
    obtain ⟨i, hi, e⟩ := List.getElem_of_mem hf
    refine ⟨i, hi, ?_⟩
    simp only [decide_eq_true_eq] at he
    simp [List.getD, hi, e, he]
  · rintro ⟨i, hi, e⟩
    refine ⟨L[i], List.getElem_mem _, ?_⟩
    simp [List.getD, hi] at e
    simpa using e
end Rec
end RecPlain
end Go.Proofs.YtlhobhfmombjjaaGreatDoor
