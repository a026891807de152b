/- Rows of formats that are copied and grown: what an append of several formats leaves. No condition of its own. The law RecogniseBounded: it returns true. Conditions: two ints; the variables of the errors are laid. -/
import Derived.Test.YtlhobhfmombjjaaGreatDoorPa22
namespace Go.Proofs.YtlhobhfmombjjaaGreatDoor
section RefRow
open Go.RowKit Fx

/-- A row of formats of the call's own, whose fields can be read. -/
structure RowM (w : World) (u : Value) (L : List Fm) (vs : List Value) : Prop where
  row : w.ownsRow 0 52 2 u L.length (flatM L vs)
  vsl : vs.length = L.length
  each : ∀ i, i < L.length → FldsAt w (vs.getD i undef) (L.getD i zm).fs ∧ ∀ g, (vs.getD i undef).ownBlock = some g → g < w.heap.size ∧ u.ownBlock ≠ some g
theorem RowM.fms {w : World} {u : Value} {L : List Fm} {vs : List Value} (h : RowM w u L vs) : FmsAt (· < w.heap.size) w u L := by
  rcases h.row.2 with ⟨rfl, h0⟩ | ⟨g, cap, cur, rfl, hg, hh, hl, hm, hsz, ht⟩
  · exact .inl ⟨none, 0, rfl, List.eq_nil_of_length_eq_zero h0⟩
  · rcases Nat.eq_zero_or_pos L.length with h0 | h0
    · exact .inl ⟨_, _, by rw [h0], List.eq_nil_of_length_eq_zero h0⟩
    · have hcell : ∀ j, j < L.length * 2 → w.cell? ⟨g, 0 + j, none⟩ = (flatM L vs)[j]? := fun j hj => by
        rw [cell_of_row w g _ cur _ (0, 0) hh, ← ht, List.getElem?_take, if_pos (by omega)]
        simp
      refine .inr ⟨g, 0, cap, rfl, h0, hl, hm, lt_of_heap hh, lt_of_heap hh, fun i hi => ⟨vs.getD i undef, ?_, ?_, (h.each i hi).1, fun g' hg' => ((h.each i hi).2 g' hg').1⟩⟩
      · exact (hcell (i * 2) (by omega)).trans (flatM_get h.vsl hi).1
      · exact (hcell (i * 2 + 1) (by omega)).trans (flatM_get h.vsl hi).2
theorem RowM.below {w w' : World} {u : Value} {L : List Fm} {vs : List Value} (h : RowM w u L vs) (hb : Below w.heap.size w w') : RowM w' u L vs :=
  ⟨ownsRow_below h.row hb, h.vsl, fun i hi => ⟨(h.each i hi).1.below hb, fun g hg => ⟨Nat.lt_of_lt_of_le ((h.each i hi).2 g hg).1 hb.size, ((h.each i hi).2 g hg).2⟩⟩⟩
theorem RowM.ints_ {w : World} {u : Value} {L : List Fm} {vs : List Value} (_ : RowM w u L vs) (h : IntsL L) : IntsL L := h
/-- What can be read as formats has cells. -/
theorem fms_cells {w : World} {b off n c : Nat} {L : List Fm} (h : FmsAt (· < w.heap.size) w (.slice (some ⟨b, off, none⟩) n c) L) (h1 : 1 ≤ L.length) :
    ∃ vs : List Value, vs.length = L.length ∧ (∀ (j : Nat) (u : Value), (flatM L vs)[j]? = some u → w.cell? (Addr.add ⟨b, off, none⟩ j) = some u) ∧ (∀ u ∈ flatM L vs, u.oneCell' = true) ∧ ∀ i, i < L.length → FldsAt w (vs.getD i undef) (L.getD i zm).fs ∧ ∀ g, (vs.getD i undef).ownBlock = some g → g < w.heap.size := by
  obtain ⟨b', off', e, _, _, _, _, _, hf⟩ := h.at_ h1
  cases e
  have key : ∀ k, k ≤ L.length → ∃ vs : List Value, vs.length = k ∧ ∀ i, i < k → FmAt (· < w.heap.size) w b (off + i * 2) (L.getD i zm) (vs.getD i undef) := by
    intro k
    induction k with
    | zero => exact fun _ => ⟨[], rfl, fun i hi => by omega⟩
    | succ k ih =>
      intro hk
      obtain ⟨vs, e1, e2⟩ := ih (by omega)
      obtain ⟨u, hu⟩ := hf k (by omega)
      refine ⟨vs ++ [u], by simp [e1], fun i hi => ?_⟩
      rcases Nat.lt_succ_iff_lt_or_eq.1 hi with h2 | rfl
      · rw [getD_snoc_lt (by omega)]; exact e2 i h2
      · rw [← e1, getD_snoc_eq, e1]; exact hu
  obtain ⟨vs, e1, e2⟩ := key L.length (Nat.le_refl _)
  have hlen : (flatM L vs).length = L.length * 2 := flatM_len e1
  have hsl : ∀ i, i < L.length → ∃ a c, vs.getD i undef = .slice a (L.getD i zm).fs.length c := fun i hi => by
    obtain ⟨a, c, e, _⟩ := (e2 i hi).fs.slice_
    exact ⟨a, c, e⟩
  have hpair : ∀ j, j < L.length * 2 → ∃ u, (flatM L vs)[j]? = some u ∧ w.cell? (Addr.add ⟨b, off, none⟩ j) = some u ∧ u.oneCell' = true := fun j hj => by
    have hadd : Addr.add ⟨b, off, none⟩ j = ⟨b, off + j, none⟩ := by unfold Addr.add; split <;> simp_all
    rw [hadd]
    have hi : j / 2 < L.length := by omega
    obtain ⟨f1, f2⟩ := flatM_get e1 hi
    have hF := e2 (j / 2) hi
    rcases Nat.mod_two_eq_zero_or_one j with h2 | h2
    · have ej : j = j / 2 * 2 := by omega
      rw [ej]
      exact ⟨_, f1, hF.c0, rfl⟩
    · have ej : j = j / 2 * 2 + 1 := by omega
      obtain ⟨a, c, hs⟩ := hsl (j / 2) hi
      rw [ej]
      exact ⟨_, f2, by rw [← Nat.add_assoc]; exact hF.c1, by rw [hs]; rfl⟩
  refine ⟨vs, e1, fun j u hu => ?_, fun u hu => ?_, fun i hi => ⟨(e2 i hi).fs, (e2 i hi).own⟩⟩
  · have hj : j < L.length * 2 := by
      rcases Nat.lt_or_ge j (L.length * 2) with h2 | h2
      · exact h2
      · rw [List.getElem?_eq_none (by omega)] at hu; cases hu
    obtain ⟨u', a, b, _⟩ := hpair j hj
    rw [a] at hu
    cases hu
    exact b
  · obtain ⟨j, hj, rfl⟩ := List.getElem_of_mem hu
    obtain ⟨u', a, _, b⟩ := hpair j (by omega)
    rw [List.getElem?_eq_getElem hj] at a
    cases a
    exact b

theorem run_append_fms (w : World) (ty : TypeId) (v : Value) (n : Nat) (xs : List Value) (hown : w.ownsRow 0 52 2 v n xs) (a : Addr) (m c : Nat) (news : List Value) (hl : news.length = m * 2) (hnews : ∀ (j : Nat) (u : Value), news[j]? = some u → w.cell? (a.add j) = some u) (h1 : ∀ u ∈ news, u.oneCell' = true) (hnm : n + m ≤ 1000) :
    ∃ v' w', (Builtin.append_ #[23, 23] ty #[v, .slice (some a) m c]).run Tryz.prog w = .ok v' w' ∧ Grew w w' 0 52 2 v v' (n + m) (xs ++ news) := by
  obtain ⟨i0, hi, hz0, hz1, hz2⟩ := info_parts infoFmt
  obtain ⟨v', w', e1, e2, e3, _, e5⟩ := run_append_own_at (P := Tryz.prog) w 0 23 ty 52 i0 _ 2 32 Tryz.underlying23 hi hz0 hz1 hz2 rfl (by decide) v n xs hown a m c news hl hnews h1 (by unfold maxLen; omega) (by omega) (Nat.zero_le _)
  exact ⟨v', w', e1, e2, e3, e5⟩
theorem wpList_append_fms {ops : Array Oper} {rest : List Oper} {o : Oper} {a : Act} {w : World} {Q : Exit → Act → World → Prop}
    (hg : o.guard = none) (s x : Operand) (hop : o.op = Op.call { callee := Callee.builtin Builtin.append, args := #[s, x], argTypes := #[23, 23] })
    (v : Value) (n : Nat) (xs : List Value) (hs : a.eval s = v) (hown : w.ownsRow 0 52 2 v n xs) (ad : Addr) (m c : Nat) (news : List Value) (hx : a.eval x = .slice (some ad) m c)
    (hl : news.length = m * 2) (hnews : ∀ (j : Nat) (u : Value), news[j]? = some u → w.cell? (ad.add j) = some u) (h1 : ∀ u ∈ news, u.oneCell' = true) (hnm : n + m ≤ 1000)
    (hK : ∀ v' w', Grew w w' 0 52 2 v v' (n + m) (xs ++ news) → wpList Tryz.prog ops Q rest (a.put o.dst v') w') : wpList Tryz.prog ops Q (o :: rest) a w :=
  wpList_plain hg fun _ hK' => by
    obtain ⟨v', w', hr, h2⟩ := run_append_fms w o.type v n xs hown ad m c news hl hnews h1 hnm
    unfold Oper.wp
    simp [execOp, hop, resolve, invoke, builtin, hs, hx, hr, Result.andThen]
    exact hK' _ _ (hK _ _ h2)
theorem step_append_fms {ops : Array Oper} {o : Oper} {a : Act} {w : World} {K : Act → World → Prop} {Q : Exit → Act → World → Prop} {E : Prop}
    (hg : o.guard = none) (s x : Operand) (hop : o.op = Op.call { callee := Callee.builtin Builtin.append, args := #[s, x], argTypes := #[23, 23] })
    (v : Value) (n : Nat) (xs : List Value) (hs : a.eval s = v) (hown : w.ownsRow 0 52 2 v n xs) (ad : Addr) (m c : Nat) (news : List Value) (hx : a.eval x = .slice (some ad) m c)
    (hl : news.length = m * 2) (hnews : ∀ (j : Nat) (u : Value), news[j]? = some u → w.cell? (ad.add j) = some u) (h1 : ∀ u ∈ news, u.oneCell' = true) (hnm : n + m ≤ 1000)
    (hK : ∀ v' w', Grew w w' 0 52 2 v v' (n + m) (xs ++ news) → K (a.put o.dst v') w') :
    if Region.wanted o (yielded ops a.tmps) = true then Oper.wp Tryz.prog o a w K Q else E := by
  have hw : Region.wanted o (yielded ops a.tmps) = true := by simp [Region.wanted, hg]
  rw [if_pos hw]
  obtain ⟨v', w', hr, h2⟩ := run_append_fms w o.type v n xs hown ad m c news hl hnews h1 hnm
  unfold Oper.wp
  simp [execOp, hop, resolve, invoke, builtin, hs, hx, hr, Result.andThen]
  exact hK _ _ h2
theorem wpList_append_fmt {ops : Array Oper} {rest : List Oper} {o : Oper} {a : Act} {w : World} {Q : Exit → Act → World → Prop}
    (hg : o.guard = none) (s x : Operand) (hop : o.op = Op.call { callee := Callee.builtin Builtin.append, args := #[s, x], argTypes := #[23, 23] })
    (v : Value) (n : Nat) (xs : List Value) (hs : a.eval s = v) (hown : w.ownsRow 0 52 2 v n xs) (hn : n ≤ 1000) (g : Nat) (id : Int) (u : Value) (hu : u.oneCell' = true) (hx : a.eval x = .slice (some ⟨g, 0, none⟩) 1 1)
    (hb : w.heap[g]? = some (.cells #[.int .i64 id, u] 52 (0, 0)))
    (hK : ∀ v' w', Grew w w' 0 52 2 v v' (n + 1) (xs ++ [.int .i64 id, u]) → wpList Tryz.prog ops Q rest (a.put o.dst v') w') : wpList Tryz.prog ops Q (o :: rest) a w :=
  wpList_plain hg fun _ hK' => by
    obtain ⟨v', w', hr, h2⟩ := run_append_fmt w o.type v n xs hown hn g id u hu hb
    unfold Oper.wp
    simp [execOp, hop, resolve, invoke, builtin, hs, hx, hr, Result.andThen]
    exact hK' _ _ (hK _ _ h2)
/-- A copy of what could be read. -/
theorem rowM_copy {w w' : World} {v0 v1 : Value} {L : List Fm} {vs : List Value} (hG : Grew w w' 0 52 2 v0 v1 L.length (flatM L vs)) (hv : vs.length = L.length) (he : ∀ i, i < L.length → FldsAt w (vs.getD i undef) (L.getD i zm).fs ∧ ∀ g, (vs.getD i undef).ownBlock = some g → g < w.heap.size ∧ v0.ownBlock ≠ some g) : RowM w' v1 L vs :=
  ⟨hG.own, hv, fun i hi => ⟨(he i hi).1.keep hG.grown.size fun g hg => hG.grown.block g ((he i hi).2 g hg).1 fun e => ((he i hi).2 g hg).2 e.symm, fun g hg => ⟨Nat.lt_of_lt_of_le ((he i hi).2 g hg).1 hG.grown.size, by
    have h := (he i hi).2 g hg
    rcases hG.blk with e | e
    · rw [e]; exact h.2
    · rw [e]; intro h2; cases h2; omega⟩⟩⟩
theorem RowM.snoc {w w' : World} {u u' x : Value} {L : List Fm} {vs : List Value} {f : Fm} (h : RowM w u L vs) (hG : Grew w w' 0 52 2 u u' (L.length + 1) (flatM L vs ++ [.int .i64 f.id, x])) (hx : FldsAt w x f.fs) (ho : ∀ g, x.ownBlock = some g → g < w.heap.size ∧ u.ownBlock ≠ some g) : RowM w' u' (L ++ [f]) (vs ++ [x]) := by
  have hv := h.vsl
  refine ⟨by rw [flatM_snoc hv, List.length_append]; exact hG.own, by simp [hv], fun i hi => ?_⟩
  have key : FldsAt w ((vs ++ [x]).getD i undef) ((L ++ [f]).getD i zm).fs ∧ ∀ g, ((vs ++ [x]).getD i undef).ownBlock = some g → g < w.heap.size ∧ u.ownBlock ≠ some g := by
    rcases getD_snoc (z := zm) hi with ⟨h1, e⟩ | ⟨rfl, e⟩
    · rw [e, getD_snoc_lt (by omega)]; exact h.each i h1
    · rw [e, ← hv, getD_snoc_eq]; exact ⟨hx, ho⟩
  exact ⟨key.1.keep hG.grown.size fun g hg => hG.grown.block g (key.2 g hg).1 fun e => (key.2 g hg).2 e.symm, fun g hg => ⟨Nat.lt_of_lt_of_le (key.2 g hg).1 hG.grown.size, by
    have h := key.2 g hg
    rcases hG.blk with e | e
    · rw [e]; exact h.2
    · rw [e]; intro h2; cases h2; omega⟩⟩
/-- An empty row of the call's own. -/
theorem own_empty (w : World) : (w.alloc (.cells #[] 52)).ownsRow 0 52 2 (.slice (some ⟨w.heap.size, 0, none⟩) 0 0) 0 [] :=
  World.ownsRow_lit w #[] 0 (Nat.zero_le _) (by unfold maxLen; omega) rfl
/-- Fields that were written out. -/
theorem flds_lit {w : World} {g : Nat} {cs : Array Value} {fs : List Fld} (h : w.heap[g]? = some (.cells cs 56 (0, 0))) (hc : cs.toList = flat fs) (h0 : 1 ≤ fs.length) (hm : fs.length ≤ 1000) : FldsAt w (.slice (some ⟨g, 0, none⟩) fs.length fs.length) fs := by
  refine FldsAt.of_own (B := 0) ⟨flat_len fs, .inr ⟨g, fs.length, cs, rfl, Nat.zero_le _, h, Nat.le_refl _, by unfold maxLen; omega, ?_, ?_⟩⟩
  · rw [← Array.length_toList, hc, flat_len]
  · rw [hc, List.take_of_length_le (by rw [flat_len]; exact Nat.le_refl _)]
theorem OwnM.apart {w : World} {B : Nat} {u : Value} {L : List Fm} {vs : List Value} (h : OwnM w B u L vs) {i : Nat} (hi : i < L.length) (g : Nat) (hg : (vs.getD i undef).ownBlock = some g) : g < w.heap.size ∧ u.ownBlock ≠ some g := by
  refine ⟨own_lt (h.each i hi) hg, fun e => ?_⟩
  obtain ⟨cur, h1⟩ := own_heap (h.each i hi) hg
  obtain ⟨cur', h2⟩ := own_heap h.row e
  rw [h1] at h2
  injection h2 with h2
  injection h2 with _ h3
  exact absurd h3 (by decide)
theorem OwnM.rowM {w : World} {B : Nat} {u : Value} {L : List Fm} {vs : List Value} (h : OwnM w B u L vs) : RowM w u L vs :=
  ⟨ownsRow_lower h.row (Nat.zero_le _), h.vsl, fun i hi => ⟨FldsAt.of_own (ownsRow_lower (h.each i hi) (Nat.zero_le _)), h.apart hi⟩⟩
/-- A row of formats of the call's own, in blocks made since. -/
structure Cp (w0 w : World) (u : Value) (L : List Fm) (vs : List Value) : Prop where
  row : RowM w u L vs
  b : Below w0.heap.size w0 w
  lo : ∀ g, u.ownBlock = some g → w0.heap.size ≤ g
theorem Cp.below {w0 w w' : World} {u : Value} {L : List Fm} {vs : List Value} (h : Cp w0 w u L vs) (hb : Below w.heap.size w w') : Cp w0 w' u L vs :=
  ⟨h.row.below hb, h.b.trans (hb.mono h.b.size), h.lo⟩
theorem Cp.fms {w0 w : World} {u : Value} {L : List Fm} {vs : List Value} (h : Cp w0 w u L vs) : FmsAt (· < w.heap.size) w u L := h.row.fms
theorem Cp.slice_ {w0 w : World} {u : Value} {L : List Fm} {vs : List Value} {n : Nat} (h : Cp w0 w u L vs) (hn : L.length = n) (h1 : 1 ≤ n) : ∃ g c, u = .slice (some ⟨g, 0, none⟩) n c ∧ n ≤ c ∧ c ≤ 9223372036854775807 := by
  subst hn
  rcases h.row.row.2 with ⟨_, h0⟩ | ⟨g, cap, cur, rfl, _, _, hl, hm, _, _⟩
  · omega
  · exact ⟨g, cap, rfl, hl, by unfold maxLen at hm; omega⟩
/-- What a copy of formats that can be read asks, and leaves. -/
theorem copy_ready {w : World} {b off n c k : Nat} {L : List Fm} (h : FmsAt (· < w.heap.size) w (.slice (some ⟨b, off, none⟩) n c) L) (hk : L.length = k) (h1 : 1 ≤ k) :
    ∃ news : List Value, (flatM L news).length = k * 2 ∧ (∀ (j : Nat) (u : Value), (flatM L news)[j]? = some u → (w.alloc (.cells #[] 52)).cell? (Addr.add ⟨b, off, none⟩ j) = some u) ∧ (∀ u ∈ flatM L news, u.oneCell' = true) ∧
      ∀ v1 wA, Grew (w.alloc (.cells #[] 52)) wA 0 52 2 (.slice (some ⟨w.heap.size, 0, none⟩) 0 0) v1 (0 + k) ([] ++ flatM L news) → Cp w wA v1 L news := by
  subst hk
  obtain ⟨news, hnv, hncell, hone, hnf⟩ := fms_cells h h1
  have hb0 : Below w.heap.size w (w.alloc (.cells #[] 52)) := bx _
  refine ⟨news, flatM_len hnv, fun j u hj => ?_, hone, fun v1 wA hG => ?_⟩
  · have h := hncell j u hj
    rw [hb0.cell (World.block_lt_of_cell? (h := h))]; exact h
  · rw [Nat.zero_add, List.nil_append] at hG
    refine ⟨rowM_copy hG hnv fun i hi => ⟨(hnf i hi).1.below hb0, fun g hg => ?_⟩, ?_, fun g hg => ?_⟩
    · have := (hnf i hi).2 g hg
      refine ⟨Nat.lt_of_lt_of_le this hb0.size, fun e => ?_⟩
      simp only [Value.ownBlock, Option.some.injEq] at e
      omega
    · exact hb0.grown hG.grown hb0.size (fun k hk => by simp only [Value.ownBlock, Option.some.injEq] at hk; omega)
    · rcases hG.blk with e | e
      · rw [e] at hg
        simp only [Value.ownBlock, Option.some.injEq] at hg
        omega
      · rw [e] at hg; cases hg; simp
/-- What an append of a format that was written out asks, and leaves. -/
theorem Cp.snoc_ready {w0 w : World} {u : Value} {L : List Fm} {vs : List Value} (h : Cp w0 w u L vs) (f : Fm) (cs : Array Value) (k n : Nat) (hn : L.length = n) (hc : cs.toList = flat f.fs) (hk : f.fs.length = k) (k0 : 1 ≤ k) (k1 : k ≤ 1000) :
    ((w.alloc (.cells cs 56)).alloc (.cells #[.int .i64 f.id, .slice (some ⟨w.heap.size, 0, none⟩) k k] 52)).ownsRow 0 52 2 u n (flatM L vs) ∧
    ((w.alloc (.cells cs 56)).alloc (.cells #[.int .i64 f.id, .slice (some ⟨w.heap.size, 0, none⟩) k k] 52)).heap[w.heap.size + 1]? = some (.cells #[.int .i64 f.id, .slice (some ⟨w.heap.size, 0, none⟩) k k] 52 (0, 0)) ∧
    ∀ v' w', Grew ((w.alloc (.cells cs 56)).alloc (.cells #[.int .i64 f.id, .slice (some ⟨w.heap.size, 0, none⟩) k k] 52)) w' 0 52 2 u v' (n + 1) (flatM L vs ++ [.int .i64 f.id, .slice (some ⟨w.heap.size, 0, none⟩) k k]) →
      Cp w0 w' v' (L ++ [f]) (vs ++ [.slice (some ⟨w.heap.size, 0, none⟩) k k]) := by
  subst hk
  subst hn
  have hb : Below w.heap.size w ((w.alloc (.cells cs 56)).alloc (.cells #[.int .i64 f.id, .slice (some ⟨w.heap.size, 0, none⟩) f.fs.length f.fs.length] 52)) := (bx _).alloc (by simp) _
  have h2 := h.below hb
  refine ⟨h2.row.row, heap_alloc2_new _ _ _, fun v' w' hG => ⟨h2.row.snoc hG (flds_lit (heap_alloc2_old _ _ _) hc k0 k1) fun g hg => ?_, h2.b.grown hG.grown h2.b.size h.lo, fun g hg => ?_⟩⟩
  · simp only [Value.ownBlock, Option.some.injEq] at hg
    subst hg
    refine ⟨by simp; omega, fun e => ?_⟩
    have := own_lt h.row.row e
    omega
  · rcases hG.blk with e | e
    · exact h.lo g (e ▸ hg)
    · rw [e] at hg; cases hg; exact h2.b.size
/-- An append of formats of the call's own, or of none. -/
theorem run_append_rowM (w : World) (ty : TypeId) (v : Value) (n : Nat) (xs : List Value) (hown : w.ownsRow 0 52 2 v n xs) (u : Value) (L : List Fm) (vs : List Value) (hR : RowM w u L vs) (hnm : n + L.length ≤ 1000) :
    ∃ v' w', (Builtin.append_ #[23, 23] ty #[v, u]).run Tryz.prog w = .ok v' w' ∧ Grew w w' 0 52 2 v v' (n + L.length) (xs ++ flatM L vs) := by
  obtain ⟨i0, hi, hz0, hz1, hz2⟩ := info_parts infoFmt
  have hlen : (flatM L vs).length = L.length * 2 := flatM_len hR.vsl
  rcases hR.row.2 with ⟨rfl, h0⟩ | ⟨g, cap, cur, rfl, hg, hh, hl, hm, hsz, ht⟩
  · have e : L = [] := List.eq_nil_of_length_eq_zero h0
    subst e
    refine ⟨v, w, run_append_owned_none (P := Tryz.prog) w 0 23 ty 52 i0 2 Tryz.underlying23 hi v n xs hown, ⟨by simpa [flatM] using hown, ⟨rfl, rfl, rfl, Nat.le_refl _, fun _ _ _ => rfl⟩, .inl rfl⟩⟩
  · refine run_append_fms w ty v n xs hown ⟨g, 0, none⟩ L.length cap (flatM L vs) hlen (fun j y hy => ?_) (fun y hy => ?_) hnm
    · have hadd : (⟨g, 0, none⟩ : Addr).add j = ⟨g, j, none⟩ := by unfold Addr.add; split <;> simp_all
      have hj : j < L.length * 2 := by
        rcases Nat.lt_or_ge j (L.length * 2) with h2 | h2
        · exact h2
        · rw [List.getElem?_eq_none (by omega)] at hy; cases hy
      rw [hadd, cell_of_row w g j cur _ (0, 0) hh, ← hy, ← ht, List.getElem?_take, if_pos (by omega)]
      simp
    · obtain ⟨j, hj, rfl⟩ := List.getElem_of_mem hy
      have hi2 : j / 2 < L.length := by omega
      obtain ⟨f1, f2⟩ := flatM_get hR.vsl hi2
      rcases Nat.mod_two_eq_zero_or_one j with h2 | h2
      · have ej : j / 2 * 2 = j := by omega
        rw [ej, List.getElem?_eq_getElem hj] at f1
        show ((flatM L vs)[j]).oneCell' = true
        rw [Option.some.inj f1]
        rfl
      · have ej : j / 2 * 2 + 1 = j := by omega
        rw [ej, List.getElem?_eq_getElem hj] at f2
        obtain ⟨a, c, hs, _⟩ := (hR.each (j / 2) hi2).1.slice_
        rw [hs] at f2
        show ((flatM L vs)[j]).oneCell' = true
        rw [Option.some.inj f2]
        rfl
theorem step_append_rowM {ops : Array Oper} {o : Oper} {a : Act} {w : World} {K : Act → World → Prop} {Q : Exit → Act → World → Prop} {E : Prop}
    (hg : o.guard = none) (s x : Operand) (hop : o.op = Op.call { callee := Callee.builtin Builtin.append, args := #[s, x], argTypes := #[23, 23] })
    (v : Value) (n : Nat) (xs : List Value) (hs : a.eval s = v) (u : Value) (L : List Fm) (vs : List Value) (hx : a.eval x = u) (hown : w.ownsRow 0 52 2 v n xs) (hR : RowM w u L vs) (hnm : n + L.length ≤ 1000)
    (hK : ∀ v' w', Grew w w' 0 52 2 v v' (n + L.length) (xs ++ flatM L vs) → K (a.put o.dst v') w') :
    if Region.wanted o (yielded ops a.tmps) = true then Oper.wp Tryz.prog o a w K Q else E := by
  have hw : Region.wanted o (yielded ops a.tmps) = true := by simp [Region.wanted, hg]
  rw [if_pos hw]
  obtain ⟨v', w', hr, h2⟩ := run_append_rowM w o.type v n xs hown u L vs hR hnm
  unfold Oper.wp
  simp [execOp, hop, resolve, invoke, builtin, hs, hx, hr, Result.andThen]
  exact hK _ _ h2
theorem own_empty2 (w : World) (o : Obj) : ((w.alloc o).alloc (.cells #[] 52)).ownsRow 0 52 2 (.slice (some ⟨w.heap.size + 1, 0, none⟩) 0 0) 0 [] := by
  have h := own_empty (w.alloc o)
  simpa using h
/-- A copy into a row that was made since. -/
theorem cp_of_copy {wr W wA : World} {u v1 : Value} {g0 : Nat} {L : List Fm} {vs : List Value} (hR : RowM wr u L vs) (hb : Below wr.heap.size wr W) (hg0 : wr.heap.size ≤ g0)
    (hG : Grew W wA 0 52 2 (.slice (some ⟨g0, 0, none⟩) 0 0) v1 (0 + L.length) ([] ++ flatM L vs)) : Cp wr wA v1 L vs ∧ ∀ g, g < W.heap.size → g ≠ g0 → wA.heap[g]? = W.heap[g]? := by
  rw [Nat.zero_add, List.nil_append] at hG
  refine ⟨⟨rowM_copy hG hR.vsl fun i hi => ⟨(hR.each i hi).1.below hb, fun g hg => ?_⟩, hb.grown hG.grown hb.size fun k hk => ?_, fun g hg => ?_⟩, fun g hg hne => hG.grown.block g hg fun e => ?_⟩
  · have h := ((hR.each i hi).2 g hg).1
    refine ⟨Nat.lt_of_lt_of_le h hb.size, fun e => ?_⟩
    simp only [Value.ownBlock, Option.some.injEq] at e
    omega
  · simp only [Value.ownBlock, Option.some.injEq] at hk
    omega
  · rcases hG.blk with e | e
    · rw [e] at hg
      simp only [Value.ownBlock, Option.some.injEq] at hg
      omega
    · rw [e] at hg; cases hg; exact hb.size
  · simp only [Value.ownBlock, Option.some.injEq] at e
    exact hne e
/-- .. and one format more. -/
theorem cp_snoc {wr W wB : World} {v1 v2 fv : Value} {L : List Fm} {vs : List Value} {id : Int} {fs : List Fld} (hC : Cp wr W v1 L vs) (hF : FldsAt wr fv fs) (hfo : ∀ g, fv.ownBlock = some g → g < wr.heap.size)
    (hG : Grew W wB 0 52 2 v1 v2 (L.length + 1) (flatM L vs ++ [.int .i64 id, fv])) : Cp wr wB v2 (L ++ [⟨id, fs⟩]) (vs ++ [fv]) := by
  refine ⟨hC.row.snoc (f := ⟨id, fs⟩) hG (hF.below hC.b) fun g hg => ⟨Nat.lt_of_lt_of_le (hfo g hg) hC.b.size, fun e => ?_⟩, hC.b.grown hG.grown hC.b.size hC.lo, fun g hg => ?_⟩
  · have := hC.lo g e
    have := hfo g hg
    omega
  · rcases hG.blk with e | e
    · exact hC.lo g (e ▸ hg)
    · rw [e] at hg; cases hg; exact hC.b.size
theorem cp_nil (w : World) : Cp w w (.slice none 0 0) [] [] := ⟨⟨World.ownsRow_nil _ _ _ _, rfl, fun i h => by simp at h⟩, Below.refl _ _, fun g hg => by simp [Value.ownBlock] at hg⟩
end RefRow
section BoundL
open Go.RowKit Fx Rec Bd

set_option maxRecDepth 20000 in
theorem lpick_any (c n r : Int) (w : World) (c1 : -9223372036854775808 ≤ c) (c2 : c ≤ 9223372036854775807) (n1 : 1 ≤ n) (n2 : n ≤ 9223372036854775807) (hr : pickI c n = r) :
    Calls Tryz.prog 18 #[.int .i64 c, .int .i64 n] w fun e w' => e = .returned (.int .i64 r) ∧ w' = w := by
  subst hr
  unfold pickI
  by_cases h : c < 0
  · rw [if_pos h]
    have e1 : (-(c + 1)).tmod n = (-(c + 1)) % n := Int.tmod_eq_emod_of_nonneg (by omega)
    go_enter Tryz.func18, Tryz.ntmps18
    go_wp2_with fail
    go_ret
    exact ⟨rfl, rfl⟩
  · rw [if_neg h]
    have e1 : c.tmod n = c % n := Int.tmod_eq_emod_of_nonneg (by omega)
    go_enter Tryz.func18, Tryz.ntmps18
    go_wp2_with fail
    go_ret
    exact ⟨rfl, rfl⟩
theorem pick_nat (c : Int) (n : Nat) (h : 1 ≤ n) : ∃ k : Nat, pickI c n = (k : Int) ∧ k < n := by
  have h1 := pickI_lo (c := c) (n := n) (by omega)
  have h2 := pickI_hi (c := c) (n := n) (by omega)
  exact ⟨(pickI c n).toNat, by omega, by omega⟩
theorem u8_mod (n : Nat) : UInt8.ofNat (n % 256) = UInt8.ofNat n := by
  apply UInt8.toNat.inj
  rw [UInt8.toNat_ofNat', UInt8.toNat_ofNat']
  omega
/-- What the law lays ahead of its loop. -/
def Wa (w : World) : World :=
  ((w.alloc (.cells #[.int .i64 3, .int .i64 0, .int .i64 (-1), .string ⟨#[]⟩] 56)).alloc (.cells #[.int .i64 2, .int .i64 3, .int .i64 (-1), .string ⟨#[]⟩, .int .i64 4, .int .i64 1, .int .i64 0, .string ⟨#[]⟩] 56)).alloc (.cells #[.int .i64 1, .slice (some ⟨w.heap.size, 0, none⟩) 1 1, .int .i64 2, .slice (some ⟨w.heap.size + 1, 0, none⟩) 2 2] 52)
def Wb (w : World) (c : Nat) : World :=
  (((w.alloc (.cells #[.int .i64 3, .int .i64 0, .int .i64 (-1), .string ⟨#[]⟩] 56)).alloc (.cells #[.int .i64 2, .int .i64 3, .int .i64 (-1), .string ⟨#[]⟩, .int .i64 4, .int .i64 1, .int .i64 0, .string ⟨#[]⟩] 56)).alloc (.cells #[.int .i64 1, .slice (some ⟨w.heap.size, 0, none⟩) 1 1, .int .i64 2, .slice (some ⟨w.heap.size + 1, 0, none⟩) 2 2] 52)).alloc
    (.cells #[.int .u8 ((c : Int) / 65536), .int .u8 ((c : Int) / 256 % 256), .int .u8 ((c : Int) % 256)] 5)
theorem conv_b3 (w : World) (c : Nat) : (convert 64 9 (.slice (some ⟨w.heap.size + 1 + 1 + 1, 0, none⟩) 3 3)).run Tryz.prog (Wb w c) = .ok (.string (b3 c)) (Wb w c) := by
  have hb : Blk (Wb w c) (w.heap.size + 1 + 1 + 1) 5 #[.int .u8 ((c : Int) / 65536), .int .u8 ((c : Int) / 256 % 256), .int .u8 ((c : Int) % 256)] := by
    have := Blk.new (Wa w) 5 #[.int .u8 ((c : Int) / 65536), .int .u8 ((c : Int) / 256 % 256), .int .u8 ((c : Int) % 256)]
    unfold Wa at this
    rw [World.size_alloc, World.size_alloc, World.size_alloc] at this
    exact this
  rw [run_convert_bytes_arg (P := Tryz.prog) (Wb w c) 64 5 Tryz.underlying64 Tryz.underlying5 (w.heap.size + 1 + 1 + 1) 0 3 3 [(c : Int) / 65536, (c : Int) / 256 % 256, (c : Int) % 256] rfl ?_ 9 Tryz.underlying9]
  · have e : strOfNums [(c : Int) / 65536, (c : Int) / 256 % 256, (c : Int) % 256] = b3 c := by
      have e1 : UInt8.ofNat ((c : Int) / 65536).toNat = UInt8.ofNat (c / 65536) := by congr 1
      have e2 : UInt8.ofNat ((c : Int) / 256 % 256).toNat = UInt8.ofNat (c / 256) := by
        rw [show ((c : Int) / 256 % 256).toNat = c / 256 % 256 by omega, u8_mod]
      have e3 : UInt8.ofNat ((c : Int) % 256).toNat = UInt8.ofNat c := by
        rw [show ((c : Int) % 256).toNat = c % 256 by omega, u8_mod]
      unfold strOfNums b3
      simp only [List.map_cons, List.map_nil, e1, e2, e3]
    rw [e]
  · intro i hi
    rw [Nat.zero_add, hb.cell]
    obtain rfl | rfl | rfl : i = 0 ∨ i = 1 ∨ i = 2 := by omega
    all_goals rfl
theorem conv_b1 (w : World) (k : Nat) : (convert 64 9 (.slice (some ⟨w.heap.size, 0, none⟩) 1 1)).run Tryz.prog (w.alloc (.cells #[.int .u8 (3 + (k : Int))] 5)) = .ok (.string ⟨#[hd8 k]⟩) (w.alloc (.cells #[.int .u8 (3 + (k : Int))] 5)) := by
  have hb := Blk.new w 5 #[.int .u8 (3 + (k : Int))]
  rw [run_convert_bytes_arg (P := Tryz.prog) _ 64 5 Tryz.underlying64 Tryz.underlying5 w.heap.size 0 1 1 [3 + (k : Int)] rfl ?_ 9 Tryz.underlying9]
  · have e : strOfNums [3 + (k : Int)] = ⟨#[hd8 k]⟩ := by
      have e1 : UInt8.ofNat (3 + (k : Int)).toNat = hd8 k := by unfold hd8; congr 1
      unfold strOfNums
      simp only [List.map_cons, List.map_nil, e1]
    rw [e]
  · intro i hi
    obtain rfl : i = 0 := by omega
    rw [Nat.zero_add, hb.cell]
    rfl
theorem ints_tb {k : Nat} (hk : k ≤ 3) : IntsL (tb k) := by
  obtain rfl | rfl | rfl | rfl : k = 0 ∨ k = 1 ∨ k = 2 ∨ k = 3 := by omega
  all_goals
    intro i hi
    simp only [tb_len] at hi
    have h9 : i = 0 ∨ i = 1 ∨ i = 2 ∨ i = 3 ∨ i = 4 := by omega
    obtain rfl | rfl | rfl | rfl | rfl := h9
    all_goals first
      | (exfalso; omega)
      | (refine ⟨⟨by decide, by decide⟩, fun j hj => ?_⟩
         have hj2 : j < 2 := Nat.lt_of_lt_of_le hj (by decide)
         obtain rfl | rfl : j = 0 ∨ j = 1 := by omega
         all_goals exact ⟨by decide, by decide, by decide, by decide, by decide, by decide, by decide⟩)
theorem cp_start (w : World) (c : Nat) : Cp w (Wb w c) (.slice (some ⟨w.heap.size + 1 + 1, 0, none⟩) 2 2) (tb 0) [.slice (some ⟨w.heap.size, 0, none⟩) 1 1, .slice (some ⟨w.heap.size + 1, 0, none⟩) 2 2] := by
  have hB : Below w.heap.size w (Wb w c) := by
    unfold Wb
    exact ((((Below.refl _ _).alloc (Nat.le_refl _) _).alloc (by simp) _).alloc (by simp; omega) _).alloc (by simp; omega) _
  have b0 : Blk (Wb w c) w.heap.size 56 (flat F1.fs).toArray := by unfold Wb; exact (((Blk.new w _ _).alloc_ _).alloc_ _).alloc_ _
  have b1 : Blk (Wb w c) (w.heap.size + 1) 56 (flat Bd.F2.fs).toArray := by
    have := Blk.new (w.alloc (.cells #[.int .i64 3, .int .i64 0, .int .i64 (-1), .string ⟨#[]⟩] 56)) 56 (flat Bd.F2.fs).toArray
    rw [World.size_alloc] at this
    unfold Wb
    exact (this.alloc_ _).alloc_ _
  have b2 : Blk (Wb w c) (w.heap.size + 1 + 1) 52 #[.int .i64 1, .slice (some ⟨w.heap.size, 0, none⟩) 1 1, .int .i64 2, .slice (some ⟨w.heap.size + 1, 0, none⟩) 2 2] := by
    have := Blk.new ((w.alloc (.cells #[.int .i64 3, .int .i64 0, .int .i64 (-1), .string ⟨#[]⟩] 56)).alloc (.cells (flat Bd.F2.fs).toArray 56)) 52 #[.int .i64 1, .slice (some ⟨w.heap.size, 0, none⟩) 1 1, .int .i64 2, .slice (some ⟨w.heap.size + 1, 0, none⟩) 2 2]
    rw [World.size_alloc, World.size_alloc] at this
    unfold Wb
    exact this.alloc_ _
  refine ⟨⟨⟨rfl, .inr ⟨_, 2, _, rfl, Nat.zero_le _, b2, Nat.le_refl _, by unfold maxLen; omega, rfl, rfl⟩⟩, rfl, fun i hi => ?_⟩, hB, fun g hg => ?_⟩
  · have h2 : i < 2 := hi
    obtain rfl | rfl : i = 0 ∨ i = 1 := by omega
    · exact ⟨fldsAt_new b0 (by decide) (by decide), fun g hg => by
        have e : w.heap.size = g := by simpa [Value.ownBlock] using hg
        subst e
        exact ⟨b0.lt, fun h => by
          have h3 : w.heap.size + 1 + 1 = w.heap.size := by simpa only [Value.ownBlock, Option.some.injEq] using h
          omega⟩⟩
    · exact ⟨fldsAt_new b1 (by decide) (by decide), fun g hg => by
        have e : w.heap.size + 1 = g := by simpa [Value.ownBlock] using hg
        subst e
        exact ⟨b1.lt, fun h => by
          have h3 : w.heap.size + 1 + 1 = w.heap.size + 1 := by simpa only [Value.ownBlock, Option.some.injEq] using h
          omega⟩⟩
  · have e : w.heap.size + 1 + 1 = g := by simpa [Value.ownBlock] using hg
    omega
set_option maxRecDepth 100000 in
set_option maxHeartbeats 4000000 in
theorem bounded_law (a b : Int) (er : Addr) (w : World) (a1 : -9223372036854775808 ≤ a) (a2 : a ≤ 9223372036854775807) (b1 : -9223372036854775808 ≤ b) (b2 : b ≤ 9223372036854775807) (hR : Ready w er) :
    Calls Tryz.prog 11 #[.int .i64 a, .int .i64 b] w fun e w' => e = .returned (.bool true) ∧ Below w.heap.size w w' := by
  have HR := Lib.hid hR
  have HQ := Lib.hid (And.intro (And.intro a1 a2) (And.intro b1 b2))
  obtain ⟨c, hc, hcl⟩ := pick_nat a 16777216 (by omega)
  obtain ⟨d, hd, hdl⟩ := pick_nat b 4 (by omega)
  have HP := Lib.hid (And.intro hc hd)
  clear hR a1 a2 b1 b2 hc hd
  go_enter Tryz.func11, Tryz.ntmps11
  go_wp2_with fail
  refine (sane_any er w HR.out).mono ?_
  rintro e w1 ⟨rfl, hB⟩
  have B1 : Hid (Below w.heap.size w w1) := Lib.hid hB
  clear hB
  go_wp2_with fail
  refine (lpick_any a 16777216 c w1 HQ.out.1.1 HQ.out.1.2 (by omega) (by omega) HP.out.1).mono ?_
  rintro e w' ⟨rfl, rfl⟩
  obtain ⟨w1, rfl⟩ : ∃ w1, w1 = w' := ⟨_, rfl⟩
  go_wp2_with fail
  refine (lpick_any b 4 d w1 HQ.out.2.1 HQ.out.2.2 (by omega) (by omega) HP.out.2).mono ?_
  rintro e w' ⟨rfl, rfl⟩
  obtain ⟨w1, rfl⟩ : ∃ w1, w1 = w' := ⟨_, rfl⟩
  have hcv : ∀ W : World, W = Wb w1 c → (convert 64 9 (.slice (some ⟨w1.heap.size + 1 + 1 + 1, 0, none⟩) 3 3)).run Tryz.prog W = .ok (.string (b3 c)) W := fun W hW => by subst hW; exact conv_b3 w1 c
  have hcv' := hcv _ rfl
  unfold Wb at hcv'
  go_wp2_with fail
  obtain ⟨S0, hS0⟩ : ∃ S0, S0 = b3 c := ⟨_, rfl⟩
  have HC0 := Lib.hid (And.intro hS0 (cp_start w1 c))
  rw [← hS0]
  clear hcv hcv' hS0
  unfold Wb at HC0
  go_loopw [6, 7, 8] (fun l s i wr => ∃ (k : Nat) (S : ByteArray) (vs : List Value), k ≤ d ∧ s = .string S ∧ i = .int .i64 k ∧ S.size = 3 + k ∧ Hid (S = str c k ∧ Cp w1 wr l (tb k) vs)) (fun _ _ i _ => d - (intOf i).toNat)
  case atStart => exact ⟨0, S0, _, Nat.zero_le _, rfl, rfl, by rw [HC0.out.1]; rfl, Lib.hid ⟨HC0.out.1, HC0.out.2⟩⟩
  case round =>
    obtain ⟨k, S, vs, hk, rfl, rfl, hSs, HJ⟩ := hrel
    obtain ⟨wq, rfl⟩ : ∃ wq, wq = wr := ⟨_, rfl⟩
    obtain ⟨gl, cl, hl, hl1, hl2⟩ := HJ.out.2.slice_ (tb_len k) (by omega)
    by_cases hlt : k < d
    · have D1 := Lib.hid (HJ.out.2.snoc_ready (G k) #[.int .i64 2, .int .i64 1, .int .i64 (-1), .string ⟨#[]⟩, .int .i64 5, .int .i64 (2 + (k : Int)), .int .i64 0, .string ⟨#[]⟩] 2 (k + 2) (tb_len k) rfl rfl (by decide) (by decide))
      subst hl
      go_wp2_with (at_builtin; refine wpList_append_fmt rfl (.tmp 41) (.tmp 50) rfl (.slice (some ⟨gl, 0, none⟩) (k + 2) cl) (k + 2) (flatM (tb k) vs) rfl D1.out.1 (by omega) (wq.heap.size + 1) (3 + (k : Int)) (.slice (some ⟨wq.heap.size, 0, none⟩) 2 2) rfl rfl D1.out.2.1 ?_; intro v1 wA hG; have C1 := Lib.hid (D1.out.2.2 v1 wA hG); have hcv1 := conv_b1 wA k; clear hG)
      have hC2 := C1.out.below (bx (.cells #[.int .u8 (3 + (k : Int))] 5))
      refine ⟨⟨k + 1, _, _, by omega, rfl, by go_num, ?_, Lib.hid ⟨?_, hC2⟩⟩, by simp [intOf]; omega⟩
      · rw [ByteArray.size_append, hSs]; show 1 + (3 + k) = _; omega
      · rw [HJ.out.1]; rfl
    · obtain rfl : k = d := by omega
      obtain ⟨S, rfl⟩ : ∃ S', S' = S := ⟨_, rfl⟩
      have hfms := TabW.mk HJ.out.2.fms (ints_tb (by omega))
      have hB : Below w.heap.size w wq := B1.out.trans (HJ.out.2.b.mono B1.out.size)
      have hbd := bounded (c := c) (d := k) hcl (by omega)
      rw [← HJ.out.1] at hbd
      obtain ⟨q, hq⟩ : ∃ q, q = 2 + 2 * k + c := ⟨_, rfl⟩
      rw [← hq] at hbd
      have HE := Lib.hid (And.intro hfms (And.intro hB hq))
      subst hl
      clear hfms hB HC0
      rcases hbd with ⟨h5, ps, hm, hp⟩ | ⟨h5, hm⟩
      · have HM := Lib.hid (And.intro hm hp)
        clear hm hp
        go_wp2_with fail
        refine (match_ok (n := q) (HR.out.below HE.out.2.1) HE.out.1 HM.out.1 HM.out.2 (by rw [HE.out.2.2]; omega)).mono ?_
        rintro e w8 ⟨g8, c8, rfl, hB8, -⟩
        have HF := Lib.hid (HE.out.2.1.trans (hB8.mono HE.out.2.1.size))
        have hqq : ((q : Int) == 2 + 2 * (k : Int) + (c : Int)) = true := by rw [beq_iff_eq, HE.out.2.2]; omega
        have hle : (2 : Int) + 2 * (k : Int) + (c : Int) ≤ 5000 := by omega
        clear hB8
        go_wp2_with fail
        first | go_end0 | go_ret
        exact ⟨rfl, HF.out.trans ((bx _).mono HF.out.size)⟩
      · rw [← hSs] at hm
        have HM := Lib.hid hm
        clear hm
        go_wp2_with fail
        refine (match_no (HR.out.below HE.out.2.1) HE.out.1 HM.out).mono ?_
        rintro e w8 ⟨rfl, hB8⟩
        have HF := Lib.hid (HE.out.2.1.trans (hB8.mono HE.out.2.1.size))
        have hle : ¬ (2 : Int) + 2 * (k : Int) + (c : Int) ≤ 5000 := by omega
        clear hB8
        go_wp2_with fail
        first | go_end0 | go_ret
        exact ⟨rfl, HF.out.trans ((bx _).mono HF.out.size)⟩
end BoundL
end Go.Proofs.YtlhobhfmombjjaaGreatDoor
