/- Rows of formats that are copied and grown: what an append of several formats leaves. No condition of its own. -/
import Derived.Test.YtcnokccgdiodlaaGreatDoorRefH
namespace Go.Proofs.YtcnokccgdiodlaaGreatDoor
open Go.RowKit Go.Shelf Fx Go.Sort

/-- A row of formats of the call's own, whose fields can be read. -/
structure RowM (w : World) (u : Value) (L : List Fm) (vs : List Value) : Prop where
  row : w.ownsRow 0 34 2 u L.length (flatM L vs)
  vsl : vs.length = L.length
  each : ∀ i, i < L.length → FldsAt w (vs.getD i undef) (L.getD i zm).fs ∧ ∀ g, (vs.getD i undef).ownBlock = some g → g < w.heap.size ∧ u.ownBlock ≠ some g
theorem RowM.fms {w : World} {u : Value} {L : List Fm} {vs : List Value} (h : RowM w u L vs) : FmsAt (· < w.heap.size) w u L := by
  rcases h.row.2 with ⟨rfl, h0⟩ | ⟨g, cap, cur, rfl, hg, hh, hl, hm, hsz, ht⟩
  · exact .inl ⟨none, 0, rfl, List.eq_nil_of_length_eq_zero h0⟩
  · rcases Nat.eq_zero_or_pos L.length with h0 | h0
    · exact .inl ⟨_, _, by rw [h0], List.eq_nil_of_length_eq_zero h0⟩
    · have hcell : ∀ j, j < L.length * 2 → w.cell? ⟨g, 0 + j, none⟩ = (flatM L vs)[j]? := fun j hj => by
        rw [cell_of_row w g _ cur _ (0, 0) hh, ← ht, List.getElem?_take, if_pos (by omega)]
        simp
      refine .inr ⟨g, 0, cap, rfl, h0, hl, hm, lt_of_heap hh, lt_of_heap hh, fun i hi => ⟨vs.getD i undef, ?_, ?_, (h.each i hi).1, fun g' hg' => ((h.each i hi).2 g' hg').1⟩⟩
      · exact (hcell (i * 2) (by omega)).trans (flatM_get h.vsl hi).1
      · exact (hcell (i * 2 + 1) (by omega)).trans (flatM_get h.vsl hi).2
theorem RowM.below {w w' : World} {u : Value} {L : List Fm} {vs : List Value} (h : RowM w u L vs) (hb : Below w.heap.size w w') : RowM w' u L vs :=
  ⟨ownsRow_below h.row hb, h.vsl, fun i hi => ⟨(h.each i hi).1.below hb, fun g hg => ⟨Nat.lt_of_lt_of_le ((h.each i hi).2 g hg).1 hb.size, ((h.each i hi).2 g hg).2⟩⟩⟩
theorem RowM.ints_ {w : World} {u : Value} {L : List Fm} {vs : List Value} (_ : RowM w u L vs) (h : IntsL L) : IntsL L := h
/-- What can be read as formats has cells. -/
theorem fms_cells {w : World} {b off n c : Nat} {L : List Fm} (h : FmsAt (· < w.heap.size) w (.slice (some ⟨b, off, none⟩) n c) L) (h1 : 1 ≤ L.length) :
    ∃ vs : List Value, vs.length = L.length ∧ (∀ (j : Nat) (u : Value), (flatM L vs)[j]? = some u → w.cell? (Addr.add ⟨b, off, none⟩ j) = some u) ∧ (∀ u ∈ flatM L vs, u.oneCell' = true) ∧ ∀ i, i < L.length → FldsAt w (vs.getD i undef) (L.getD i zm).fs ∧ ∀ g, (vs.getD i undef).ownBlock = some g → g < w.heap.size := by
  obtain ⟨b', off', e, _, _, _, _, _, hf⟩ := h.at_ h1
  cases e
  have key : ∀ k, k ≤ L.length → ∃ vs : List Value, vs.length = k ∧ ∀ i, i < k → FmAt (· < w.heap.size) w b (off + i * 2) (L.getD i zm) (vs.getD i undef) := by
    intro k
    induction k with
    | zero => exact fun _ => ⟨[], rfl, fun i hi => by omega⟩
    | succ k ih =>
      intro hk
      obtain ⟨vs, e1, e2⟩ := ih (by omega)
      obtain ⟨u, hu⟩ := hf k (by omega)
      refine ⟨vs ++ [u], by simp [e1], fun i hi => ?_⟩
      rcases Nat.lt_succ_iff_lt_or_eq.1 hi with h2 | rfl
      · rw [getD_snoc_lt (by omega)]; exact e2 i h2
      · rw [← e1, getD_snoc_eq, e1]; exact hu
  obtain ⟨vs, e1, e2⟩ := key L.length (Nat.le_refl _)
  have hlen : (flatM L vs).length = L.length * 2 := flatM_len e1
  have hsl : ∀ i, i < L.length → ∃ a c, vs.getD i undef = .slice a (L.getD i zm).fs.length c := fun i hi => by
    obtain ⟨a, c, e, _⟩ := (e2 i hi).fs.slice_
    exact ⟨a, c, e⟩
  have hpair : ∀ j, j < L.length * 2 → ∃ u, (flatM L vs)[j]? = some u ∧ w.cell? (Addr.add ⟨b, off, none⟩ j) = some u ∧ u.oneCell' = true := fun j hj => by
    have hadd : Addr.add ⟨b, off, none⟩ j = ⟨b, off + j, none⟩ := by unfold Addr.add; split <;> simp_all
    rw [hadd]
    have hi : j / 2 < L.length := by omega
    obtain ⟨f1, f2⟩ := flatM_get e1 hi
    have hF := e2 (j / 2) hi
    rcases Nat.mod_two_eq_zero_or_one j with h2 | h2
    · have ej : j = j / 2 * 2 := by omega
      rw [ej]
      exact ⟨_, f1, hF.c0, rfl⟩
    · have ej : j = j / 2 * 2 + 1 := by omega
      obtain ⟨a, c, hs⟩ := hsl (j / 2) hi
      rw [ej]
      exact ⟨_, f2, by rw [← Nat.add_assoc]; exact hF.c1, by rw [hs]; rfl⟩
  refine ⟨vs, e1, fun j u hu => ?_, fun u hu => ?_, fun i hi => ⟨(e2 i hi).fs, (e2 i hi).own⟩⟩
  · have hj : j < L.length * 2 := by
      rcases Nat.lt_or_ge j (L.length * 2) with h2 | h2
      · exact h2
      · rw [List.getElem?_eq_none (by omega)] at hu; cases hu
    obtain ⟨u', a, b, _⟩ := hpair j hj
    rw [a] at hu
    cases hu
    exact b
  · obtain ⟨j, hj, rfl⟩ := List.getElem_of_mem hu
    obtain ⟨u', a, _, b⟩ := hpair j (by omega)
    rw [List.getElem?_eq_getElem hj] at a
    cases a
    exact b

theorem run_append_fms (w : World) (ty : TypeId) (v : Value) (n : Nat) (xs : List Value) (hown : w.ownsRow 0 34 2 v n xs) (a : Addr) (m c : Nat) (news : List Value) (hl : news.length = m * 2) (hnews : ∀ (j : Nat) (u : Value), news[j]? = some u → w.cell? (a.add j) = some u) (h1 : ∀ u ∈ news, u.oneCell' = true) (hnm : n + m ≤ 1000) :
    ∃ v' w', (Builtin.append_ #[22, 22] ty #[v, .slice (some a) m c]).run Tryz.prog w = .ok v' w' ∧ Grew w w' 0 34 2 v v' (n + m) (xs ++ news) := by
  obtain ⟨i0, hi, hz0, hz1, hz2⟩ := info_parts infoFmt
  obtain ⟨v', w', e1, e2, e3, _, e5⟩ := run_append_own_at (P := Tryz.prog) w 0 22 ty 34 i0 _ 2 32 Tryz.underlying22 hi hz0 hz1 hz2 rfl (by decide) v n xs hown a m c news hl hnews h1 (by unfold maxLen; omega) (by omega) (Nat.zero_le _)
  exact ⟨v', w', e1, e2, e3, e5⟩
theorem wpList_append_fms {ops : Array Oper} {rest : List Oper} {o : Oper} {a : Act} {w : World} {Q : Exit → Act → World → Prop}
    (hg : o.guard = none) (s x : Operand) (hop : o.op = Op.call { callee := Callee.builtin Builtin.append, args := #[s, x], argTypes := #[22, 22] })
    (v : Value) (n : Nat) (xs : List Value) (hs : a.eval s = v) (hown : w.ownsRow 0 34 2 v n xs) (ad : Addr) (m c : Nat) (news : List Value) (hx : a.eval x = .slice (some ad) m c)
    (hl : news.length = m * 2) (hnews : ∀ (j : Nat) (u : Value), news[j]? = some u → w.cell? (ad.add j) = some u) (h1 : ∀ u ∈ news, u.oneCell' = true) (hnm : n + m ≤ 1000)
    (hK : ∀ v' w', Grew w w' 0 34 2 v v' (n + m) (xs ++ news) → wpList Tryz.prog ops Q rest (a.put o.dst v') w') : wpList Tryz.prog ops Q (o :: rest) a w :=
  wpList_plain hg fun _ hK' => by
    obtain ⟨v', w', hr, h2⟩ := run_append_fms w o.type v n xs hown ad m c news hl hnews h1 hnm
    unfold Oper.wp
    simp [execOp, hop, resolve, invoke, builtin, hs, hx, hr, Result.andThen]
    exact hK' _ _ (hK _ _ h2)
theorem step_append_fms {ops : Array Oper} {o : Oper} {a : Act} {w : World} {K : Act → World → Prop} {Q : Exit → Act → World → Prop} {E : Prop}
    (hg : o.guard = none) (s x : Operand) (hop : o.op = Op.call { callee := Callee.builtin Builtin.append, args := #[s, x], argTypes := #[22, 22] })
    (v : Value) (n : Nat) (xs : List Value) (hs : a.eval s = v) (hown : w.ownsRow 0 34 2 v n xs) (ad : Addr) (m c : Nat) (news : List Value) (hx : a.eval x = .slice (some ad) m c)
    (hl : news.length = m * 2) (hnews : ∀ (j : Nat) (u : Value), news[j]? = some u → w.cell? (ad.add j) = some u) (h1 : ∀ u ∈ news, u.oneCell' = true) (hnm : n + m ≤ 1000)
    (hK : ∀ v' w', Grew w w' 0 34 2 v v' (n + m) (xs ++ news) → K (a.put o.dst v') w') :
    if Region.wanted o (yielded ops a.tmps) = true then Oper.wp Tryz.prog o a w K Q else E := by
  have hw : Region.wanted o (yielded ops a.tmps) = true := by simp [Region.wanted, hg]
  rw [if_pos hw]
  obtain ⟨v', w', hr, h2⟩ := run_append_fms w o.type v n xs hown ad m c news hl hnews h1 hnm
  unfold Oper.wp
  simp [execOp, hop, resolve, invoke, builtin, hs, hx, hr, Result.andThen]
  exact hK _ _ h2
theorem wpList_append_fmt {ops : Array Oper} {rest : List Oper} {o : Oper} {a : Act} {w : World} {Q : Exit → Act → World → Prop}
    (hg : o.guard = none) (s x : Operand) (hop : o.op = Op.call { callee := Callee.builtin Builtin.append, args := #[s, x], argTypes := #[22, 22] })
    (v : Value) (n : Nat) (xs : List Value) (hs : a.eval s = v) (hown : w.ownsRow 0 34 2 v n xs) (hn : n ≤ 1000) (g : Nat) (id : Int) (u : Value) (hu : u.oneCell' = true) (hx : a.eval x = .slice (some ⟨g, 0, none⟩) 1 1)
    (hb : w.heap[g]? = some (.cells #[.int .i64 id, u] 34 (0, 0)))
    (hK : ∀ v' w', Grew w w' 0 34 2 v v' (n + 1) (xs ++ [.int .i64 id, u]) → wpList Tryz.prog ops Q rest (a.put o.dst v') w') : wpList Tryz.prog ops Q (o :: rest) a w :=
  wpList_plain hg fun _ hK' => by
    obtain ⟨v', w', hr, h2⟩ := run_append_fmt w o.type v n xs hown hn g id u hu hb
    unfold Oper.wp
    simp [execOp, hop, resolve, invoke, builtin, hs, hx, hr, Result.andThen]
    exact hK' _ _ (hK _ _ h2)
/-- A copy of what could be read. -/
theorem rowM_copy {w w' : World} {v0 v1 : Value} {L : List Fm} {vs : List Value} (hG : Grew w w' 0 34 2 v0 v1 L.length (flatM L vs)) (hv : vs.length = L.length) (he : ∀ i, i < L.length → FldsAt w (vs.getD i undef) (L.getD i zm).fs ∧ ∀ g, (vs.getD i undef).ownBlock = some g → g < w.heap.size ∧ v0.ownBlock ≠ some g) : RowM w' v1 L vs :=
  ⟨hG.own, hv, fun i hi => ⟨(he i hi).1.keep hG.grown.size fun g hg => hG.grown.block g ((he i hi).2 g hg).1 fun e => ((he i hi).2 g hg).2 e.symm, fun g hg => ⟨Nat.lt_of_lt_of_le ((he i hi).2 g hg).1 hG.grown.size, by
    have h := (he i hi).2 g hg
    rcases hG.blk with e | e
    · rw [e]; exact h.2
    · rw [e]; intro h2; cases h2; omega⟩⟩⟩
theorem RowM.snoc {w w' : World} {u u' x : Value} {L : List Fm} {vs : List Value} {f : Fm} (h : RowM w u L vs) (hG : Grew w w' 0 34 2 u u' (L.length + 1) (flatM L vs ++ [.int .i64 f.id, x])) (hx : FldsAt w x f.fs) (ho : ∀ g, x.ownBlock = some g → g < w.heap.size ∧ u.ownBlock ≠ some g) : RowM w' u' (L ++ [f]) (vs ++ [x]) := by
  have hv := h.vsl
  refine ⟨by rw [flatM_snoc hv, List.length_append]; exact hG.own, by simp [hv], fun i hi => ?_⟩
  have key : FldsAt w ((vs ++ [x]).getD i undef) ((L ++ [f]).getD i zm).fs ∧ ∀ g, ((vs ++ [x]).getD i undef).ownBlock = some g → g < w.heap.size ∧ u.ownBlock ≠ some g := by
    rcases getD_snoc (z := zm) hi with ⟨h1, e⟩ | ⟨rfl, e⟩
    · rw [e, getD_snoc_lt (by omega)]; exact h.each i h1
    · rw [e, ← hv, getD_snoc_eq]; exact ⟨hx, ho⟩
  exact ⟨key.1.keep hG.grown.size fun g hg => hG.grown.block g (key.2 g hg).1 fun e => (key.2 g hg).2 e.symm, fun g hg => ⟨Nat.lt_of_lt_of_le (key.2 g hg).1 hG.grown.size, by
    have h := key.2 g hg
    rcases hG.blk with e | e
    · rw [e]; exact h.2
    · rw [e]; intro h2; cases h2; omega⟩⟩
/-- An empty row of the call's own. -/
theorem own_empty (w : World) : (w.alloc (.cells #[] 34)).ownsRow 0 34 2 (.slice (some ⟨w.heap.size, 0, none⟩) 0 0) 0 [] :=
  World.ownsRow_lit w #[] 0 (Nat.zero_le _) (by unfold maxLen; omega) rfl
/-- Fields that were written out. -/
theorem flds_lit {w : World} {g : Nat} {cs : Array Value} {fs : List Fld} (h : w.heap[g]? = some (.cells cs 56 (0, 0))) (hc : cs.toList = flat fs) (h0 : 1 ≤ fs.length) (hm : fs.length ≤ 1000) : FldsAt w (.slice (some ⟨g, 0, none⟩) fs.length fs.length) fs := by
  refine FldsAt.of_own (B := 0) ⟨flat_len fs, .inr ⟨g, fs.length, cs, rfl, Nat.zero_le _, h, Nat.le_refl _, by unfold maxLen; omega, ?_, ?_⟩⟩
  · rw [← Array.length_toList, hc, flat_len]
  · rw [hc, List.take_of_length_le (by rw [flat_len]; exact Nat.le_refl _)]
theorem OwnM.apart {w : World} {B : Nat} {u : Value} {L : List Fm} {vs : List Value} (h : OwnM w B u L vs) {i : Nat} (hi : i < L.length) (g : Nat) (hg : (vs.getD i undef).ownBlock = some g) : g < w.heap.size ∧ u.ownBlock ≠ some g := by
  refine ⟨own_lt (h.each i hi) hg, fun e => ?_⟩
  obtain ⟨cur, h1⟩ := own_heap (h.each i hi) hg
  obtain ⟨cur', h2⟩ := own_heap h.row e
  rw [h1] at h2
  injection h2 with h2
  injection h2 with _ h3
  exact absurd h3 (by decide)
theorem OwnM.rowM {w : World} {B : Nat} {u : Value} {L : List Fm} {vs : List Value} (h : OwnM w B u L vs) : RowM w u L vs :=
  ⟨ownsRow_lower h.row (Nat.zero_le _), h.vsl, fun i hi => ⟨FldsAt.of_own (ownsRow_lower (h.each i hi) (Nat.zero_le _)), h.apart hi⟩⟩
/-- A row of formats of the call's own, in blocks made since. -/
structure Cp (w0 w : World) (u : Value) (L : List Fm) (vs : List Value) : Prop where
  row : RowM w u L vs
  b : Below w0.heap.size w0 w
  lo : ∀ g, u.ownBlock = some g → w0.heap.size ≤ g
theorem Cp.below {w0 w w' : World} {u : Value} {L : List Fm} {vs : List Value} (h : Cp w0 w u L vs) (hb : Below w.heap.size w w') : Cp w0 w' u L vs :=
  ⟨h.row.below hb, h.b.trans (hb.mono h.b.size), h.lo⟩
theorem Cp.fms {w0 w : World} {u : Value} {L : List Fm} {vs : List Value} (h : Cp w0 w u L vs) : FmsAt (· < w.heap.size) w u L := h.row.fms
theorem Cp.slice_ {w0 w : World} {u : Value} {L : List Fm} {vs : List Value} {n : Nat} (h : Cp w0 w u L vs) (hn : L.length = n) (h1 : 1 ≤ n) : ∃ g c, u = .slice (some ⟨g, 0, none⟩) n c ∧ n ≤ c ∧ c ≤ 9223372036854775807 := by
  subst hn
  rcases h.row.row.2 with ⟨_, h0⟩ | ⟨g, cap, cur, rfl, _, _, hl, hm, _, _⟩
  · omega
  · exact ⟨g, cap, rfl, hl, by unfold maxLen at hm; omega⟩
/-- What a copy of formats that can be read asks, and leaves. -/
theorem copy_ready {w : World} {b off n c k : Nat} {L : List Fm} (h : FmsAt (· < w.heap.size) w (.slice (some ⟨b, off, none⟩) n c) L) (hk : L.length = k) (h1 : 1 ≤ k) :
    ∃ news : List Value, (flatM L news).length = k * 2 ∧ (∀ (j : Nat) (u : Value), (flatM L news)[j]? = some u → (w.alloc (.cells #[] 34)).cell? (Addr.add ⟨b, off, none⟩ j) = some u) ∧ (∀ u ∈ flatM L news, u.oneCell' = true) ∧
      ∀ v1 wA, Grew (w.alloc (.cells #[] 34)) wA 0 34 2 (.slice (some ⟨w.heap.size, 0, none⟩) 0 0) v1 (0 + k) ([] ++ flatM L news) → Cp w wA v1 L news := by
  subst hk
  obtain ⟨news, hnv, hncell, hone, hnf⟩ := fms_cells h h1
  have hb0 : Below w.heap.size w (w.alloc (.cells #[] 34)) := bx _
  refine ⟨news, flatM_len hnv, fun j u hj => ?_, hone, fun v1 wA hG => ?_⟩
  · have h := hncell j u hj
    rw [hb0.cell (World.block_lt_of_cell? (h := h))]; exact h
  · rw [Nat.zero_add, List.nil_append] at hG
    refine ⟨rowM_copy hG hnv fun i hi => ⟨(hnf i hi).1.below hb0, fun g hg => ?_⟩, ?_, fun g hg => ?_⟩
    · have := (hnf i hi).2 g hg
      refine ⟨Nat.lt_of_lt_of_le this hb0.size, fun e => ?_⟩
      simp only [Value.ownBlock, Option.some.injEq] at e
      omega
    · exact hb0.grown hG.grown hb0.size (fun k hk => by simp only [Value.ownBlock, Option.some.injEq] at hk; omega)
    · rcases hG.blk with e | e
      · rw [e] at hg
        simp only [Value.ownBlock, Option.some.injEq] at hg
        omega
      · rw [e] at hg; cases hg; simp
/-- What an append of a format that was written out asks, and leaves. -/
theorem Cp.snoc_ready {w0 w : World} {u : Value} {L : List Fm} {vs : List Value} (h : Cp w0 w u L vs) (f : Fm) (cs : Array Value) (k n : Nat) (hn : L.length = n) (hc : cs.toList = flat f.fs) (hk : f.fs.length = k) (k0 : 1 ≤ k) (k1 : k ≤ 1000) :
    ((w.alloc (.cells cs 56)).alloc (.cells #[.int .i64 f.id, .slice (some ⟨w.heap.size, 0, none⟩) k k] 34)).ownsRow 0 34 2 u n (flatM L vs) ∧
    ((w.alloc (.cells cs 56)).alloc (.cells #[.int .i64 f.id, .slice (some ⟨w.heap.size, 0, none⟩) k k] 34)).heap[w.heap.size + 1]? = some (.cells #[.int .i64 f.id, .slice (some ⟨w.heap.size, 0, none⟩) k k] 34 (0, 0)) ∧
    ∀ v' w', Grew ((w.alloc (.cells cs 56)).alloc (.cells #[.int .i64 f.id, .slice (some ⟨w.heap.size, 0, none⟩) k k] 34)) w' 0 34 2 u v' (n + 1) (flatM L vs ++ [.int .i64 f.id, .slice (some ⟨w.heap.size, 0, none⟩) k k]) →
      Cp w0 w' v' (L ++ [f]) (vs ++ [.slice (some ⟨w.heap.size, 0, none⟩) k k]) := by
  subst hk
  subst hn
  have hb : Below w.heap.size w ((w.alloc (.cells cs 56)).alloc (.cells #[.int .i64 f.id, .slice (some ⟨w.heap.size, 0, none⟩) f.fs.length f.fs.length] 34)) := (bx _).alloc (by simp) _
  have h2 := h.below hb
  refine ⟨h2.row.row, heap_alloc2_new _ _ _, fun v' w' hG => ⟨h2.row.snoc hG (flds_lit (heap_alloc2_old _ _ _) hc k0 k1) fun g hg => ?_, h2.b.grown hG.grown h2.b.size h.lo, fun g hg => ?_⟩⟩
  · simp only [Value.ownBlock, Option.some.injEq] at hg
    subst hg
    refine ⟨by simp; omega, fun e => ?_⟩
    have := own_lt h.row.row e
    omega
  · rcases hG.blk with e | e
    · exact h.lo g (e ▸ hg)
    · rw [e] at hg; cases hg; exact h2.b.size
/-- An append of formats of the call's own, or of none. -/
theorem run_append_rowM (w : World) (ty : TypeId) (v : Value) (n : Nat) (xs : List Value) (hown : w.ownsRow 0 34 2 v n xs) (u : Value) (L : List Fm) (vs : List Value) (hR : RowM w u L vs) (hnm : n + L.length ≤ 1000) :
    ∃ v' w', (Builtin.append_ #[22, 22] ty #[v, u]).run Tryz.prog w = .ok v' w' ∧ Grew w w' 0 34 2 v v' (n + L.length) (xs ++ flatM L vs) := by
  obtain ⟨i0, hi, hz0, hz1, hz2⟩ := info_parts infoFmt
  have hlen : (flatM L vs).length = L.length * 2 := flatM_len hR.vsl
  rcases hR.row.2 with ⟨rfl, h0⟩ | ⟨g, cap, cur, rfl, hg, hh, hl, hm, hsz, ht⟩
  · have e : L = [] := List.eq_nil_of_length_eq_zero h0
    subst e
    refine ⟨v, w, run_append_owned_none (P := Tryz.prog) w 0 22 ty 34 i0 2 Tryz.underlying22 hi v n xs hown, ⟨by simpa [flatM] using hown, ⟨rfl, rfl, rfl, Nat.le_refl _, fun _ _ _ => rfl⟩, .inl rfl⟩⟩
  · refine run_append_fms w ty v n xs hown ⟨g, 0, none⟩ L.length cap (flatM L vs) hlen (fun j y hy => ?_) (fun y hy => ?_) hnm
    · have hadd : (⟨g, 0, none⟩ : Addr).add j = ⟨g, j, none⟩ := by unfold Addr.add; split <;> simp_all
      have hj : j < L.length * 2 := by
        rcases Nat.lt_or_ge j (L.length * 2) with h2 | h2
        · exact h2
        · rw [List.getElem?_eq_none (by omega)] at hy; cases hy
      rw [hadd, cell_of_row w g j cur _ (0, 0) hh, ← hy, ← ht, List.getElem?_take, if_pos (by omega)]
      simp
    · obtain ⟨j, hj, rfl⟩ := List.getElem_of_mem hy
      have hi2 : j / 2 < L.length := by omega
      obtain ⟨f1, f2⟩ := flatM_get hR.vsl hi2
      rcases Nat.mod_two_eq_zero_or_one j with h2 | h2
      · have ej : j / 2 * 2 = j := by omega
        rw [ej, List.getElem?_eq_getElem hj] at f1
        show ((flatM L vs)[j]).oneCell' = true
        rw [Option.some.inj f1]
        rfl
      · have ej : j / 2 * 2 + 1 = j := by omega
        rw [ej, List.getElem?_eq_getElem hj] at f2
        obtain ⟨a, c, hs, _⟩ := (hR.each (j / 2) hi2).1.slice_
        rw [hs] at f2
        show ((flatM L vs)[j]).oneCell' = true
        rw [Option.some.inj f2]
        rfl
theorem step_append_rowM {ops : Array Oper} {o : Oper} {a : Act} {w : World} {K : Act → World → Prop} {Q : Exit → Act → World → Prop} {E : Prop}
    (hg : o.guard = none) (s x : Operand) (hop : o.op = Op.call { callee := Callee.builtin Builtin.append, args := #[s, x], argTypes := #[22, 22] })
    (v : Value) (n : Nat) (xs : List Value) (hs : a.eval s = v) (u : Value) (L : List Fm) (vs : List Value) (hx : a.eval x = u) (hown : w.ownsRow 0 34 2 v n xs) (hR : RowM w u L vs) (hnm : n + L.length ≤ 1000)
    (hK : ∀ v' w', Grew w w' 0 34 2 v v' (n + L.length) (xs ++ flatM L vs) → K (a.put o.dst v') w') :
    if Region.wanted o (yielded ops a.tmps) = true then Oper.wp Tryz.prog o a w K Q else E := by
  have hw : Region.wanted o (yielded ops a.tmps) = true := by simp [Region.wanted, hg]
  rw [if_pos hw]
  obtain ⟨v', w', hr, h2⟩ := run_append_rowM w o.type v n xs hown u L vs hR hnm
  unfold Oper.wp
  simp [execOp, hop, resolve, invoke, builtin, hs, hx, hr, Result.andThen]
  exact hK _ _ h2
theorem own_empty2 (w : World) (o : Obj) : ((w.alloc o).alloc (.cells #[] 34)).ownsRow 0 34 2 (.slice (some ⟨w.heap.size + 1, 0, none⟩) 0 0) 0 [] := by
  have h := own_empty (w.alloc o)
  simpa using h
/-- A copy into a row that was made since. -/
theorem cp_of_copy {wr W wA : World} {u v1 : Value} {g0 : Nat} {L : List Fm} {vs : List Value} (hR : RowM wr u L vs) (hb : Below wr.heap.size wr W) (hg0 : wr.heap.size ≤ g0)
    (hG : Grew W wA 0 34 2 (.slice (some ⟨g0, 0, none⟩) 0 0) v1 (0 + L.length) ([] ++ flatM L vs)) : Cp wr wA v1 L vs ∧ ∀ g, g < W.heap.size → g ≠ g0 → wA.heap[g]? = W.heap[g]? := by
  rw [Nat.zero_add, List.nil_append] at hG
  refine ⟨⟨rowM_copy hG hR.vsl fun i hi => ⟨(hR.each i hi).1.below hb, fun g hg => ?_⟩, hb.grown hG.grown hb.size fun k hk => ?_, fun g hg => ?_⟩, fun g hg hne => hG.grown.block g hg fun e => ?_⟩
  · have h := ((hR.each i hi).2 g hg).1
    refine ⟨Nat.lt_of_lt_of_le h hb.size, fun e => ?_⟩
    simp only [Value.ownBlock, Option.some.injEq] at e
    omega
  · simp only [Value.ownBlock, Option.some.injEq] at hk
    omega
  · rcases hG.blk with e | e
    · rw [e] at hg
      simp only [Value.ownBlock, Option.some.injEq] at hg
      omega
    · rw [e] at hg; cases hg; exact hb.size
  · simp only [Value.ownBlock, Option.some.injEq] at e
    exact hne e
/-- .. and one format more. -/
theorem cp_snoc {wr W wB : World} {v1 v2 fv : Value} {L : List Fm} {vs : List Value} {id : Int} {fs : List Fld} (hC : Cp wr W v1 L vs) (hF : FldsAt wr fv fs) (hfo : ∀ g, fv.ownBlock = some g → g < wr.heap.size)
    (hG : Grew W wB 0 34 2 v1 v2 (L.length + 1) (flatM L vs ++ [.int .i64 id, fv])) : Cp wr wB v2 (L ++ [⟨id, fs⟩]) (vs ++ [fv]) := by
  refine ⟨hC.row.snoc (f := ⟨id, fs⟩) hG (hF.below hC.b) fun g hg => ⟨Nat.lt_of_lt_of_le (hfo g hg) hC.b.size, fun e => ?_⟩, hC.b.grown hG.grown hC.b.size hC.lo, fun g hg => ?_⟩
  · have := hC.lo g e
    have := hfo g hg
    omega
  · rcases hG.blk with e | e
    · exact hC.lo g (e ▸ hg)
    · rw [e] at hg; cases hg; exact hC.b.size
theorem cp_nil (w : World) : Cp w w (.slice none 0 0) [] [] := ⟨⟨World.ownsRow_nil _ _ _ _, rfl, fun i h => by simp at h⟩, Below.refl _ _, fun g hg => by simp [Value.ownBlock] at hg⟩
end Go.Proofs.YtcnokccgdiodlaaGreatDoor
