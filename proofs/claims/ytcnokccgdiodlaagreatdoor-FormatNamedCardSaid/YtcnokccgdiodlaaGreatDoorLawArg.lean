/- Arguments of the laws: slices of rows of four ints, slices of formats, read as lists. No condition of its own. -/
import Derived.Test.YtcnokccgdiodlaaGreatDoorRefH
import Derived.DataReads
import Derived.ChangeArms
import Derived.OpenShut
namespace Go.Proofs.YtcnokccgdiodlaaGreatDoor
open Go.RowKit Go.ChangeShapes Go.WideShapes Fx

theorem cellsInt : Tryz.prog.cellsOf 3 = 1 := by kernel_rfl
theorem cellsStr1 : Tryz.prog.cellsOf 9 = 1 := by kernel_rfl
theorem cellsFour : Tryz.prog.cellsOf 58 = 4 := by kernel_rfl
theorem cellsFld : Tryz.prog.cellsOf 56 = 4 := by kernel_rfl
theorem cellsFmt : Tryz.prog.cellsOf 34 = 2 := by kernel_rfl
theorem cellsFlds : Tryz.prog.cellsOf 32 = 1 := by kernel_rfl
theorem one_at {cs : List Value} {i : Nat} {v : Value} (h : (cs.drop i).take 1 = [v]) : cs[i]? = some v := by
  have h2 := congrArg (fun l => l[0]?) h
  simpa using h2
theorem exists_list {α : Type} (z : α) {P : Nat → α → Prop} : ∀ n : Nat, (∀ i, i < n → ∃ f, P i f) → ∃ l : List α, l.length = n ∧ ∀ i, i < n → P i (l.getD i z)
  | 0, _ => ⟨[], rfl, fun i hi => by omega⟩
  | n + 1, h => by
    obtain ⟨l, h1, h2⟩ := exists_list z n fun i hi => h i (by omega)
    obtain ⟨f, hf⟩ := h n (by omega)
    refine ⟨l ++ [f], by simp [h1], fun i hi => ?_⟩
    rcases Nat.lt_succ_iff_lt_or_eq.1 hi with h3 | rfl
    · rw [getD_snoc_lt (by omega)]; exact h2 i h3
    · rw [← h1, getD_snoc_eq, h1]; exact hf
section
variable {H : Type} {enc : TypeId × Value → H} {W : World} {base : Nat} {sp : Nat → Bool} {held : Bool}
theorem four_of_trod {fuel : Nat} {cs : List Value} {x : DataW H × List MemPlace} (h : DataW.trod enc Tryz.prog W base sp held fuel 58 cs = some x) : ∀ j, j < 4 → ∃ z : Int, cs[j]? = some (.int .i64 z) ∧ -9223372036854775808 ≤ z ∧ z ≤ 9223372036854775807 := by
  obtain ⟨xs, m, _, _, _, hl, he⟩ := DataW.trod_array Tryz.underlying58 h
  intro j hj
  have h1 := he j hj
  rw [List.getElem?_eq_getElem (by omega)] at h1
  obtain ⟨z, e, _, hw⟩ := DataW.trod_int Tryz.underlying3 h1
  rw [cellsInt, Nat.mul_one] at e
  exact ⟨z, one_at e, bounds_i64 hw⟩
theorem fld_of_trod {fuel : Nat} {cs : List Value} {x : DataW H × List MemPlace} (h : DataW.trod enc Tryz.prog W base sp held fuel 56 cs = some x) :
    ∃ f : Fld, cs[0]? = some (.int .i64 f.kind) ∧ cs[1]? = some (.int .i64 f.n) ∧ cs[2]? = some (.int .i64 f.frm) ∧ cs[3]? = some (.string f.text) ∧ Ints f := by
  obtain ⟨xs, m, _, _, _, hl, he⟩ := DataW.trod_struct Tryz.underlying56 h
  have hl4 : xs.length = 4 := hl
  have h0 := he 0 _ rfl
  have h1 := he 1 _ rfl
  have h2 := he 2 _ rfl
  have h3 := he 3 _ rfl
  rw [List.getElem?_eq_getElem (by omega)] at h0 h1 h2 h3
  obtain ⟨a, e0, _, w0⟩ := DataW.trod_int (t := 3) Tryz.underlying3 h0
  obtain ⟨b, e1, _, w1⟩ := DataW.trod_int (t := 3) Tryz.underlying3 h1
  obtain ⟨c, e2, _, w2⟩ := DataW.trod_int (t := 3) Tryz.underlying3 h2
  obtain ⟨d, e3, _, w3⟩ := DataW.trod_string (t := 9) Tryz.underlying9 h3
  have b0 := bounds_i64 w0
  have b1 := bounds_i64 w1
  have b2 := bounds_i64 w2
  refine ⟨⟨a, b, c, d⟩, one_at (i := 0) ?_, one_at (i := 1) ?_, one_at (i := 2) ?_, one_at (i := 3) ?_, ⟨b0.1, b0.2, b1.1, b1.2, b2.1, b2.2, by unfold maxLen at w3; show d.size ≤ _; omega⟩⟩
  · have e : (cs.drop 0).take (Tryz.prog.cellsOf 3) = _ := e0
    rw [cellsInt] at e; exact e
  · have e : (cs.drop 1).take (Tryz.prog.cellsOf 3) = _ := e1
    rw [cellsInt] at e; exact e
  · have e : (cs.drop 2).take (Tryz.prog.cellsOf 3) = _ := e2
    rw [cellsInt] at e; exact e
  · have e : (cs.drop 3).take (Tryz.prog.cellsOf 9) = _ := e3
    rw [cellsStr1] at e; exact e
theorem fmt_of_trod {fuel : Nat} {cs : List Value} {x : DataW H × List MemPlace} (h : DataW.trod enc Tryz.prog W base sp held fuel 34 cs = some x) :
    ∃ (id : Int) (v : Value) (n : Nat) (y : DataW H × List MemPlace), cs[0]? = some (.int .i64 id) ∧ cs[1]? = some v ∧ (-9223372036854775808 ≤ id ∧ id ≤ 9223372036854775807) ∧ DataW.trod enc Tryz.prog W base sp held n 32 [v] = some y := by
  obtain ⟨xs, m, _, _, hcl, hl, he⟩ := DataW.trod_struct Tryz.underlying34 h
  have hl4 : xs.length = 2 := hl
  rw [cellsFmt] at hcl
  have h0 := he 0 _ rfl
  have h1 := he 1 _ rfl
  rw [List.getElem?_eq_getElem (by omega)] at h0 h1
  obtain ⟨a, e0, _, w0⟩ := DataW.trod_int (t := 3) Tryz.underlying3 h0
  have q0 : (cs.drop 0).take (Tryz.prog.cellsOf 3) = _ := e0
  rw [cellsInt] at q0
  have q1 : DataW.trod enc Tryz.prog W base sp held m 32 ((cs.drop 1).take (Tryz.prog.cellsOf 32)) = some (xs[1]) := h1
  rw [cellsFlds] at q1
  have hd : (cs.drop 1).take 1 = [cs[1]] := by
    rw [List.drop_eq_getElem_cons (by omega)]
    rfl
  rw [hd] at q1
  exact ⟨a, cs[1], m, _, one_at q0, List.getElem?_eq_getElem (by omega), bounds_i64 w0, q1⟩
theorem slice_at {e : TypeId} {k len : Nat} {a : Addr} {elems : List (DataW H × List MemPlace)} {n : Nat} (hc : Tryz.prog.cellsOf e = k) (hl : elems.length = len) (hel : ∀ i, i < len → (W.cells? base (a.add (i * Tryz.prog.cellsOf e)) (Tryz.prog.cellsOf e)).bind (DataW.trod enc Tryz.prog W base sp held n e) = elems[i]?) {i : Nat} (hi : i < len) :
    ∃ cs x, DataW.trod enc Tryz.prog W base sp held n e cs = some x ∧ ∀ (j : Nat) (v : Value), j < k → cs[j]? = some v → W.cell? ((a.add (i * k)).add j) = some v := by
  have h := hel i hi
  rw [List.getElem?_eq_getElem (by omega), Option.bind_eq_some_iff, hc] at h
  obtain ⟨cs, h1, h2⟩ := h
  refine ⟨cs, _, h2, fun j v hj hv => ?_⟩
  obtain ⟨_, h3, h4⟩ := World.cells?_some h1
  exact (h4 j (by omega)).trans hv
theorem add2 (b off i j : Nat) : (Addr.add (Addr.add ⟨b, off, none⟩ i) j) = ⟨b, off + i + j, none⟩ := by
  rw [add_plain, add_plain]
theorem spot_none {a : Addr} {i k j : Nat} {v : Value} (h : W.cell? ((a.add (i * k)).add j) = some v) (hi : i = 0) (hj : j = 0) : ∃ b off, a = ⟨b, off, none⟩ := by
  subst hi; subst hj
  obtain ⟨b, off, spot⟩ := a
  have : spot = none := by simpa [Addr.add] using World.cell?_spot h
  subst this
  exact ⟨b, off, rfl⟩
/-- A slice of rows of four ints that came in. -/
theorem qs_of_trod {fuel : Nat} {v : Value} {x : DataW H × List MemPlace} (h : DataW.trod enc Tryz.prog W base sp held fuel 23 [v] = some x) : ∃ n, QsAt W v n := by
  rcases DataW.trod_slice Tryz.underlying23 h with ⟨e, _⟩ | ⟨a, len, cap, elems, rest, n, _, e, _, hb, hl, hm, hlen, hel, _, _⟩
  · cases e; exact ⟨0, .inl ⟨_, _, rfl, rfl⟩⟩
  · cases e
    rcases Nat.eq_zero_or_pos len with rfl | h0
    · exact ⟨0, .inl ⟨_, _, rfl, rfl⟩⟩
    · have key : ∀ i, i < len → ∀ j, j < 4 → ∃ z : Int, W.cell? ((a.add (i * 4)).add j) = some (.int .i64 z) ∧ -9223372036854775808 ≤ z ∧ z ≤ 9223372036854775807 := fun i hi j hj => by
        obtain ⟨cs, x, h1, h2⟩ := slice_at cellsFour hlen hel hi
        obtain ⟨z, hz, hr⟩ := four_of_trod h1 j hj
        exact ⟨z, h2 j _ hj hz, hr⟩
      obtain ⟨z, hz, _⟩ := key 0 h0 0 (by omega)
      obtain ⟨b, off, rfl⟩ := spot_none hz rfl rfl
      refine ⟨len, .inr ⟨b, off, cap, rfl, h0, hl, hm, ?_, fun i j hi hj => ?_⟩⟩
      · rw [add2] at hz
        exact World.block_lt_of_cell? (h := hz)
      · have := key i hi j hj
        rwa [add2] at this
/-- A slice of fields. -/
theorem flds_of_trod {fuel : Nat} {v : Value} {x : DataW H × List MemPlace} (h : DataW.trod enc Tryz.prog W base sp held fuel 32 [v] = some x) : ∃ fs, FldsAt W v fs ∧ (∀ i, i < fs.length → Ints (fs.getD i zf)) ∧ ∀ g, v.ownBlock = some g → 1 ≤ fs.length → g < W.heap.size := by
  rcases DataW.trod_slice Tryz.underlying32 h with ⟨e, _⟩ | ⟨a, len, cap, elems, rest, n, _, e, _, hb, hl, hm, hlen, hel, _, _⟩
  · cases e; exact ⟨[], .inl ⟨_, _, rfl, rfl⟩, fun i hi => by simp at hi, fun g hg => by simp [Value.ownBlock] at hg⟩
  · cases e
    rcases Nat.eq_zero_or_pos len with rfl | h0
    · exact ⟨[], .inl ⟨_, _, rfl, rfl⟩, fun i hi => by simp at hi, fun g hg h1 => by simp at h1⟩
    · have key : ∀ i, i < len → ∃ f : Fld, (W.cell? ((a.add (i * 4)).add 0) = some (.int .i64 f.kind) ∧ W.cell? ((a.add (i * 4)).add 1) = some (.int .i64 f.n) ∧ W.cell? ((a.add (i * 4)).add 2) = some (.int .i64 f.frm) ∧ W.cell? ((a.add (i * 4)).add 3) = some (.string f.text)) ∧ Ints f := fun i hi => by
        obtain ⟨cs, x, h1, h2⟩ := slice_at cellsFld hlen hel hi
        obtain ⟨f, e0, e1, e2, e3, hI⟩ := fld_of_trod h1
        exact ⟨f, ⟨h2 0 _ (by omega) e0, h2 1 _ (by omega) e1, h2 2 _ (by omega) e2, h2 3 _ (by omega) e3⟩, hI⟩
      obtain ⟨fs, hfl, hfs⟩ := exists_list zf len key
      obtain ⟨b, off, rfl⟩ := spot_none (hfs 0 h0).1.1 rfl rfl
      have hblk : b < W.heap.size := by
        have h := (hfs 0 h0).1.1
        rw [add2] at h
        exact World.block_lt_of_cell? (h := h)
      refine ⟨fs, .inr ⟨b, off, cap, by rw [hfl], by omega, by omega, hm, hblk, fun i hi => ?_⟩, fun i hi => (hfs i (by omega)).2, fun g hg _ => by simp only [Value.ownBlock, Option.some.injEq] at hg; omega⟩
      have h := (hfs i (by omega)).1
      rw [add2, add2, add2, add2] at h
      exact ⟨h.1, h.2.1, h.2.2.1, h.2.2.2⟩
end
end Go.Proofs.YtcnokccgdiodlaaGreatDoor
