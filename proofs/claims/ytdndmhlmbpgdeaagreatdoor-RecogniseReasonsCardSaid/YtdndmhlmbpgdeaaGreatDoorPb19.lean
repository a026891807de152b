/- What the reference's Make needs: lists of four ints, tables that it makes, rows of formats of the call's own. No condition of its own. The reference's Make. Conditions: the lists are readable. -/
import Derived.Test.YtdndmhlmbpgdeaaGreatDoorPb18
import Derived.Test.YtdndmhlmbpgdeaaGreatDoorPb14
import Derived.Test.YtdndmhlmbpgdeaaGreatDoorPb01
import Derived.Test.YtdndmhlmbpgdeaaGreatDoorPb15
import Derived.Deep.RegionLaw
import Derived.Laws.BytesArg
namespace Go.Proofs.YtdndmhlmbpgdeaaGreatDoor
section RefH
open Go.RowKit Go.Shelf Fx Go.Sort

/-- Lists of four ints that can be read. -/
def QsAt (w : World) (v : Value) (n : Nat) : Prop :=
  (∃ a c, v = .slice a 0 c ∧ n = 0) ∨ ∃ b off cap, v = .slice (some ⟨b, off, none⟩) n cap ∧ 1 ≤ n ∧ n ≤ cap ∧ cap ≤ maxLen ∧ b < w.heap.size ∧
    ∀ i j, i < n → j < 4 → ∃ z : Int, w.cell? ⟨b, off + i * 4 + j, none⟩ = some (.int .i64 z) ∧ -9223372036854775808 ≤ z ∧ z ≤ 9223372036854775807
theorem QsAt.slice_ {w : World} {v : Value} {n : Nat} (h : QsAt w v n) : ∃ a c, v = .slice a n c ∧ (n = 0 ∨ (n ≤ c ∧ c ≤ maxLen)) := by
  rcases h with ⟨a, c, rfl, rfl⟩ | ⟨b, off, cap, rfl, h1, h2, h3, _⟩
  · exact ⟨a, c, rfl, .inl rfl⟩
  · exact ⟨_, _, rfl, .inr ⟨h2, h3⟩⟩
theorem QsAt.at_ {w : World} {a : Option Addr} {n c : Nat} (h : QsAt w (.slice a n c) n) (h1 : 1 ≤ n) : ∃ b off, a = some ⟨b, off, none⟩ ∧ b < w.heap.size ∧ n ≤ c ∧ c ≤ maxLen ∧
    ∀ i j, i < n → j < 4 → ∃ z : Int, w.cell? ⟨b, off + i * 4 + j, none⟩ = some (.int .i64 z) ∧ -9223372036854775808 ≤ z ∧ z ≤ 9223372036854775807 := by
  rcases h with ⟨a, c, _, rfl⟩ | ⟨b, off, cap, h0, h2, h3, h4, h5, h6⟩
  · omega
  · cases h0
    exact ⟨b, off, rfl, h5, h3, h4, h6⟩
/-- A field that Make puts into a format. -/
structure MkF (g : Fld) : Prop where
  ints : Ints g
  t : g.text.size ≤ 2
  n : g.kind = 3 → 0 ≤ g.n ∧ g.n ≤ 4
/-- A table that Make makes. -/
structure Mk (l : List Fm) : Prop where
  ok : Ok l
  few : l.length ≤ 6
  ids : ∀ j, j < l.length → 3 * (j : Int) + 1 ≤ (l.getD j zm).id ∧ (l.getD j zm).id ≤ 3 * (j : Int) + 3
  fs : ∀ j, j < l.length → (l.getD j zm).fs.length ≤ 6
  each : ∀ j, j < l.length → ∀ k, k < (l.getD j zm).fs.length → MkF ((l.getD j zm).fs.getD k zf)
theorem mk_nil : Mk [] := ⟨ok_nil, by simp, fun j h => by simp at h, fun j h => by simp at h, fun j h => by simp at h⟩
theorem Mk.snoc {l : List Fm} {f : Fm} (h : Mk l) (hok : Ok (l ++ [f])) (hl : l.length < 6) (hid : 3 * (l.length : Int) + 1 ≤ f.id ∧ f.id ≤ 3 * (l.length : Int) + 3) (hf : f.fs.length ≤ 6) (hg : ∀ k, k < f.fs.length → MkF (f.fs.getD k zf)) : Mk (l ++ [f]) := by
  refine ⟨hok, by simp; omega, fun j hj => ?_, fun j hj => ?_, fun j hj => ?_⟩
  · rcases getD_snoc (z := zm) hj with ⟨h1, e⟩ | ⟨rfl, e⟩
    · rw [e]; exact h.ids j h1
    · rw [e]; exact hid
  · rcases getD_snoc (z := zm) hj with ⟨h1, e⟩ | ⟨rfl, e⟩
    · rw [e]; exact h.fs j h1
    · rw [e]; exact hf
  · rcases getD_snoc (z := zm) hj with ⟨h1, e⟩ | ⟨rfl, e⟩
    · rw [e]; exact h.each j h1
    · rw [e]; exact hg
/-- The field that is always right. -/
def plainF : Fld := ⟨3, 3, -1, eb⟩
theorem mk_plain : MkF plainF := ⟨⟨by decide, by decide, by decide, by decide, by decide, by decide, by decide⟩, by decide, fun _ => by decide⟩
theorem Mk.plain {l : List Fm} {id : Int} (h : Mk l) (hl : l.length < 6) (hid : 3 * (l.length : Int) + 1 ≤ id ∧ id ≤ 3 * (l.length : Int) + 3) : Mk (l ++ [⟨id, [plainF]⟩]) := by
  have hf : FmOk l ⟨id, [plainF]⟩ := by
    refine ⟨by show 1 ≤ id; omega, by show id ≤ 1000000; omega, by simp, by simp, fun k hk => ?_, by simp [ls, lf, plainF]⟩
    have : k = 0 := by simp at hk; omega
    subst this
    show Fx.right (lm l) [] plainF = true
    rw [right_3 rfl]; decide
  refine h.snoc (h.ok.snoc hf (by omega) fun g hg => ?_) hl hid (by simp) fun k hk => ?_
  · obtain ⟨j, hj, rfl⟩ := List.getElem_of_mem hg
    have := (h.ids j hj).2
    simp [List.getD, List.getElem?_eq_getElem hj] at this
    show _ < id
    omega
  · have : k = 0 := by simp at hk; omega
    subst this
    exact mk_plain
theorem Mk.ints {l : List Fm} (h : Mk l) : IntsL l := fun i hi => ⟨by have := h.ids i hi; have := h.few; omega, fun k hk => (h.each i hi k hk).ints⟩
end RefH
section RefI
open Go.RowKit Go.Shelf Fx Go.Sort

theorem shr_range {z : Int} (j : Nat) (h1 : -9223372036854775808 ≤ z) (h2 : z ≤ 9223372036854775807) : -9223372036854775808 ≤ z / 2 ^ j ∧ z / 2 ^ j ≤ 9223372036854775807 := by
  have hm : (1 : Int) ≤ 2 ^ j := by
    have : (1 : Nat) ≤ 2 ^ j := Nat.one_le_two_pow
    exact_mod_cast this
  obtain ⟨m, hm2⟩ : ∃ m : Int, m = 2 ^ j := ⟨_, rfl⟩
  rw [← hm2] at hm ⊢
  refine ⟨Int.le_ediv_of_mul_le (by omega) ?_, Int.lt_add_one_iff.1 (Int.ediv_lt_of_lt_mul (by omega) ?_)⟩
  · have := Int.mul_le_mul_of_nonneg_left hm (show (0 : Int) ≤ 9223372036854775808 by omega)
    have e : -9223372036854775808 * m = -(9223372036854775808 * m) := by rw [Int.neg_mul]
    omega
  · have := Int.mul_le_mul_of_nonneg_left hm (show (0 : Int) ≤ 9223372036854775808 by omega)
    have e : ((9223372036854775807 : Int) + 1) * m = 9223372036854775808 * m := rfl
    omega
theorem ownsRow_raise {w : World} {B C : Nat} {e : TypeId} {sz : Nat} {v : Value} {n : Nat} {xs : List Value} (h : w.ownsRow B e sz v n xs) (hc : ∀ g, v.ownBlock = some g → C ≤ g) : w.ownsRow C e sz v n xs := by
  refine ⟨h.1, ?_⟩
  rcases h.2 with hn | ⟨g, cap, cur, rfl, hg, hh, r⟩
  · exact .inl hn
  · exact .inr ⟨g, cap, cur, rfl, hc g rfl, hh, r⟩
/-- What stands while a format's fields are made. -/
structure MS (w0 w : World) (B yb gb : Nat) (y0 y1 y2 y3 ID : Int) (u : Value) (L : List Fm) (vs : List Value) (j : Nat) (fs : List Fld) (fv : Value) : Prop where
  b : Below B w0 w
  m : OwnM w B u L vs
  y : w.heap[yb]? = some (.cells #[.int .i64 y0, .int .i64 y1, .int .i64 y2, .int .i64 y3] 94 (0, 0))
  g : w.heap[gb]? = some (.cells #[.int .i64 ID, fv] 52 (0, 0))
  fl : fs.length = j
  row : w.ownsRow B 56 4 fv j (flat fs)
  each : ∀ i, i < j → MkF (fs.getD i zf)
  apart : ∀ g, fv.ownBlock = some g → ∀ i, i < L.length → (vs.getD i undef).ownBlock ≠ some g
  hB : B ≤ w.heap.size
  lb : B ≤ gb
  ug : ∀ g, u.ownBlock = some g → g ≠ gb
theorem MS.below {w0 w w' : World} {B yb gb : Nat} {y0 y1 y2 y3 ID : Int} {u : Value} {L : List Fm} {vs : List Value} {j : Nat} {fs : List Fld} {fv : Value} (h : MS w0 w B yb gb y0 y1 y2 y3 ID u L vs j fs fv) (hb : Below w.heap.size w w') : MS w0 w' B yb gb y0 y1 y2 y3 ID u L vs j fs fv :=
  ⟨h.b.trans (hb.mono h.hB), h.m.below hb, (hb.block _ (lt_of_heap h.y)).trans h.y, (hb.block _ (lt_of_heap h.g)).trans h.g, h.fl, ownsRow_below h.row hb, h.each, h.apart, Nat.le_trans h.hB hb.size, h.lb, h.ug⟩
theorem MS.grew {w0 w w' : World} {B yb gb : Nat} {y0 y1 y2 y3 ID : Int} {u : Value} {L : List Fm} {vs : List Value} {j : Nat} {fs : List Fld} {fv v' : Value} {g : Fld} (h : MS w0 w B yb gb y0 y1 y2 y3 ID u L vs j fs fv) (hg : MkF g) (hGr : Grew w w' 0 56 4 fv v' (j + 1) (flat fs ++ fldC g)) :
    (∃ a1 c1, v' = .slice a1 (j + 1) c1) ∧ (∃ x, w'.cell? ⟨gb, 1, none⟩ = some x) ∧ w'.frozen? ⟨gb, 1, none⟩ = false ∧ MS w0 (w'.setCell ⟨gb, 1, none⟩ v') B yb gb y0 y1 y2 y3 ID u L vs (j + 1) (fs ++ [g]) v' := by
  have h0 := ownsRow_lower h.row (Nat.zero_le B)
  obtain ⟨a1, c1, e1, _, _⟩ := own_slice hGr.own
  have hG : Blk w gb 52 #[.int .i64 ID, fv] := h.g
  have hY : Blk w yb 94 #[.int .i64 y0, .int .i64 y1, .int .i64 y2, .int .i64 y3] := h.y
  have g1 := hGr.blkOther h0 hG (by decide)
  have y1' := hGr.blkOther h0 hY (by decide)
  have ne : ∀ k, k ≠ gb → (w'.setCell ⟨gb, 1, none⟩ v').heap[k]? = w'.heap[k]? := fun k hk => Below.heap_setCell _ _ _ _ hk
  have hyg : yb ≠ gb := Blk.ne_ hY hG (by decide)
  have hlow : ∀ k, v'.ownBlock = some k → B ≤ k := fun k hk => by
    rcases hGr.blk with e | e
    · exact (h.row.lt k (e ▸ hk)).1
    · rw [e] at hk; cases hk; exact h.hB
  refine ⟨⟨a1, c1, e1⟩, ⟨_, g1.cell 1⟩, g1.frozen 1, ⟨?_, ⟨?_, h.m.vsl, fun i hi => ?_⟩, (ne _ hyg).trans y1', g1.set_ 1 _, by rw [List.length_append, h.fl]; rfl, ?_, ?_, ?_, ?_, h.lb, h.ug⟩⟩
  · exact (h.b.grown hGr.grown h.hB fun k hk => (h.row.lt k hk).1).setCell (p := ⟨gb, 1, none⟩) h.lb _
  · exact own_keep h.m.row fun k cur hk hh => (ne k (h.ug k hk)).trans (hGr.grown.block k (lt_of_heap hh) fun e => by
      obtain ⟨cur', h2⟩ := own_heap h.row e.symm
      rw [hh] at h2; cases h2)
  · exact own_keep (h.m.each i hi) fun k cur hk hh => (ne k (fun e => by
      have hG2 := h.g
      rw [e, hG2] at hh; cases hh)).trans (hGr.grown.block k (lt_of_heap hh) fun e => h.apart k e.symm i hi hk)
  · have e : flat (fs ++ [g]) = flat fs ++ fldC g := by simp [flat]
    rw [e]
    exact own_keep (ownsRow_raise hGr.own hlow) fun k cur _ hh => ne k (fun e => by
      have h2 : w'.heap[gb]? = _ := g1
      rw [e, h2] at hh; cases hh)
  · intro i hi
    rcases Nat.lt_succ_iff_lt_or_eq.1 hi with h1 | rfl
    · rw [getD_snoc_lt (by rw [h.fl]; exact h1)]; exact h.each i h1
    · rw [← h.fl, getD_snoc_eq]; exact hg
  · intro k hk i hi he
    rcases hGr.blk with e | e
    · exact h.apart k (e ▸ hk) i hi he
    · rw [e] at hk; cases hk
      have := own_lt (h.m.each i hi) he
      omega
  · have := hGr.grown.size
    have := h.hB
    simp [World.setCell]; omega
/-- What stands behind the choice of a field. -/
def Chose (wr wx : World) : Prop := ∃ g : Fld, MkF g ∧ Below wr.heap.size wr wx ∧ wx.heap[wr.heap.size]? = some (.cells (fldCs g) 56 (0, 0))
theorem chose_row {wr W : World} {cs : Array Value} (g : Fld) (hb : Below wr.heap.size wr W) (hc : W.heap[wr.heap.size]? = some (.cells cs 56 (0, 0))) (hg : MkF g) : Chose wr (W.setRow wr.heap.size (fldCs g)) := by
  refine ⟨g, hg, hb.trans ⟨rfl, rfl, rfl, by simp, fun k hk => ?_⟩, setRow_heap _ _ _ _ _ _ hc⟩
  simp only [World.setRow, Array.getElem?_modify]
  rw [if_neg (by omega)]
theorem mkF_of {k n f : Int} (h1 : -9223372036854775808 ≤ k) (h2 : k ≤ 9223372036854775807) (h3 : -9223372036854775808 ≤ n) (h4 : n ≤ 9223372036854775807) (h5 : -9223372036854775808 ≤ f) (h6 : f ≤ 9223372036854775807) (h7 : k = 3 → 0 ≤ n ∧ n ≤ 4) : MkF ⟨k, n, f, eb⟩ :=
  ⟨⟨h1, h2, h3, h4, h5, h6, by show eb.size ≤ _; decide⟩, by show eb.size ≤ _; decide, h7⟩
theorem mkF_txt {t : ByteArray} (h : t.size ≤ 2) : MkF ⟨1, 0, -1, t⟩ :=
  ⟨⟨by show (-9223372036854775808 : Int) ≤ 1; decide, by show (1 : Int) ≤ 9223372036854775807; decide, by show (-9223372036854775808 : Int) ≤ 0; decide, by show (0 : Int) ≤ 9223372036854775807; decide, by show (-9223372036854775808 : Int) ≤ -1; decide, by show (-1 : Int) ≤ 9223372036854775807; decide, by show t.size ≤ _; omega⟩, h, fun h => absurd h (by show ¬ (1 : Int) = 3; decide)⟩
/-- What stands when the format's fields are put aside for the plain one. -/
theorem MS.plain_ready {w0 wr w1 W2 : World} {B yb gb : Nat} {y0 y1 y2 y3 ID : Int} {u : Value} {L : List Fm} {vs : List Value} {j : Nat} {fs : List Fld} {fv : Value} (h : MS w0 wr B yb gb y0 y1 y2 y3 ID u L vs j fs fv) (hb : Below wr.heap.size wr w1)
    (hW : W2 = ((w1.setCell ⟨gb, 1, none⟩ (.slice (some ⟨w1.heap.size, 0, none⟩) 1 1)).alloc (.cells #[.int .i64 3, .int .i64 3, .int .i64 (-1), .string ⟨#[]⟩] 56)).alloc (.cells #[.int .i64 ID, .slice (some ⟨w1.heap.size, 0, none⟩) 1 1] 52)) :
    W2.ownsRow 0 52 2 u L.length (flatM L vs) ∧ W2.heap[w1.heap.size + 1]? = some (.cells #[.int .i64 ID, .slice (some ⟨w1.heap.size, 0, none⟩) 1 1] 52 (0, 0)) ∧
    ∀ v' wZ, Grew W2 wZ 0 52 2 u v' (L.length + 1) (flatM L vs ++ [.int .i64 ID, .slice (some ⟨w1.heap.size, 0, none⟩) 1 1]) →
      OwnM wZ B v' (L ++ [⟨ID, [plainF]⟩]) (vs ++ [.slice (some ⟨w1.heap.size, 0, none⟩) 1 1]) ∧ Below B w0 wZ := by
  obtain ⟨X, hX⟩ : ∃ X, X = w1.setCell ⟨gb, 1, none⟩ (.slice (some ⟨w1.heap.size, 0, none⟩) 1 1) := ⟨_, rfl⟩
  have es : X.heap.size = w1.heap.size := by rw [hX]; simp [World.setCell]
  rw [← hX] at hW
  have lG := lt_of_heap h.g
  have s1 := hb.size
  have hBw := h.hB
  have hXk : ∀ g, g ≠ gb → X.heap[g]? = w1.heap[g]? := fun g hg => by rw [hX]; exact Below.heap_setCell _ _ _ _ hg
  have hXW : Below X.heap.size X W2 := by rw [hW]; exact (bx _).alloc (by simp) _
  have hk : ∀ g, g < wr.heap.size → g ≠ gb → W2.heap[g]? = wr.heap[g]? := fun g hg hne => (hXW.block g (by omega)).trans ((hXk g hne).trans (hb.block g hg))
  have sW : W2.heap.size = w1.heap.size + 2 := by rw [hW]; simp [es]
  have hown : W2.ownsRow B 52 2 u L.length (flatM L vs) := own_keep h.m.row fun g cur hg hh => hk g (lt_of_heap hh) (h.ug g hg)
  have hM : W2.heap[w1.heap.size + 1]? = some (.cells #[.int .i64 ID, .slice (some ⟨w1.heap.size, 0, none⟩) 1 1] 52 (0, 0)) := by
    have h2 := heap_alloc2_new X (.cells #[.int .i64 3, .int .i64 3, .int .i64 (-1), .string ⟨#[]⟩] 56) (.cells #[.int .i64 ID, .slice (some ⟨w1.heap.size, 0, none⟩) 1 1] 52)
    rw [← hW, es] at h2
    exact h2
  have hS : W2.ownsRow B 56 4 (.slice (some ⟨w1.heap.size, 0, none⟩) 1 1) 1 (flat [plainF]) := by
    have h2 := World.ownsRow_lit (base := B) (e := 56) (size := 4) X #[.int .i64 3, .int .i64 3, .int .i64 (-1), .string ⟨#[]⟩] 1 (by omega) (by unfold maxLen; omega) rfl
    rw [es] at h2
    have h3 := ownsRow_below h2 (bx (.cells #[.int .i64 ID, .slice (some ⟨w1.heap.size, 0, none⟩) 1 1] 52))
    rw [← hW] at h3
    exact h3
  refine ⟨ownsRow_lower hown (Nat.zero_le _), hM, fun v' wZ hG => ⟨⟨?_, by simp [h.m.vsl], fun i hi => ?_⟩, ?_⟩⟩
  · rw [flatM_snoc h.m.vsl, List.length_append]
    refine ownsRow_raise hG.own fun g hg => ?_
    rcases hG.blk with e | e
    · exact (h.m.row.lt g (e ▸ hg)).1
    · rw [e] at hg; cases hg; omega
  · rcases getD_snoc (z := zm) hi with ⟨h1, e⟩ | ⟨rfl, e⟩
    · rw [e, getD_snoc_lt (by have := h.m.vsl; omega)]
      refine own_keep (h.m.each i h1) fun g cur hg hh => ?_
      have l1 := lt_of_heap hh
      refine (hG.grown.block g (by omega) fun e1 => (h.m.apart h1 g hg).2 e1.symm).trans (hk g l1 fun e1 => ?_)
      have h2 := h.g
      rw [← e1, hh] at h2
      injection h2 with h2
      injection h2 with _ h3
      exact absurd h3 (by decide)
    · rw [e, ← h.m.vsl, getD_snoc_eq]
      refine own_keep hS fun g cur hg hh => hG.grown.block g (lt_of_heap hh) fun e1 => ?_
      simp only [Value.ownBlock, Option.some.injEq] at hg
      have := own_lt h.m.row e1.symm
      omega
  · have hbX : Below B w0 X := by rw [hX]; exact (h.b.trans (hb.mono hBw)).setCell (p := ⟨gb, 1, none⟩) h.lb _
    exact (hbX.trans (hXW.mono (by omega))).grown hG.grown (by omega) fun g hg => (h.m.row.lt g hg).1
set_option maxRecDepth 100000 in
set_option maxHeartbeats 4000000 in
theorem rMake_any (v : Value) (n : Nat) (w : World) (hV : QsAt w v n) :
    Calls Tryz.prog 33 #[v] w fun e w' => (∃ u L, e = .returned u ∧ Mk L ∧ ∃ vs, OwnM w' w.heap.size u L vs) ∧ Below w.heap.size w w' := by
  obtain ⟨a, c, rfl, hlc⟩ := hV.slice_
  have HV := Lib.hid hV
  have hn2 : n ≤ 9223372036854775807 := by unfold maxLen at hlc; omega
  clear hV hlc
  go_enter Tryz.func33, Tryz.ntmps33
  go_wp2_with fail
  go_loopw [3, 4] (fun u i wr => ∃ (k : Nat) (L : List Fm) (vs : List Value), k ≤ n ∧ k ≤ 6 ∧ i = .int .i64 k ∧ Hid (Below w.heap.size w wr ∧ Mk L ∧ L.length = k ∧ OwnM wr w.heap.size u L vs)) (fun _ i _ => n - (intOf i).toNat)
  case atStart => exact ⟨0, [], [], Nat.zero_le _, by omega, rfl, Lib.hid ⟨Below.refl _ _, mk_nil, rfl, OwnM.nil _ _⟩⟩
  case round =>
    obtain ⟨k, L, vs, hk, hk6, rfl, HI⟩ := hrel
    obtain ⟨wo, rfl⟩ : ∃ wo : World, wo = wr := ⟨_, rfl⟩
    by_cases hkn : k < n ∧ k < 6
    · obtain ⟨hk1, hk5⟩ := hkn
      obtain ⟨b, off, rfl, lb, m1, m2, hq⟩ := HV.out.at_ (by omega)
      obtain ⟨y0, q0, r0⟩ := hq k 0 hk1 (by omega)
      obtain ⟨y1, q1, r1⟩ := hq k 1 hk1 (by omega)
      obtain ⟨y2, q2, r2⟩ := hq k 2 hk1 (by omega)
      obtain ⟨y3, q3, r3⟩ := hq k 3 hk1 (by omega)
      have cl := fun o : Nat => HI.out.1.cell (p := ⟨b, o, none⟩) lb
      rw [← cl] at q0 q1 q2 q3
      rw [Nat.add_zero] at q0
      have lb2 := World.block_lt_of_cell? (h := q0)
      obtain ⟨Y, hY⟩ : ∃ Y, Y = wo.alloc (.cells #[.int .i64 y0, .int .i64 y1, .int .i64 y2, .int .i64 y3] 94) := ⟨_, rfl⟩
      have HY0 : Hid (Below wo.heap.size wo Y ∧ Y.heap[wo.heap.size]? = some (.cells #[.int .i64 y0, .int .i64 y1, .int .i64 y2, .int .i64 y3] 94 (0, 0)) ∧ Y.heap.size = wo.heap.size + 1) := Lib.hid (by rw [hY]; exact ⟨bx _, heap_alloc_new _ _, by simp⟩)
      have s0 : Y.cell? ⟨wo.heap.size, 0, none⟩ = some (.int .i64 y0) := cell_of_row _ _ _ _ _ _ HY0.out.2.1
      have s1 : Y.cell? ⟨wo.heap.size, 1, none⟩ = some (.int .i64 y1) := cell_of_row _ _ _ _ _ _ HY0.out.2.1
      have s2 : Y.cell? ⟨wo.heap.size, 2, none⟩ = some (.int .i64 y2) := cell_of_row _ _ _ _ _ _ HY0.out.2.1
      have s3 : Y.cell? ⟨wo.heap.size, 3, none⟩ = some (.int .i64 y3) := cell_of_row _ _ _ _ _ _ HY0.out.2.1
      unfold maxLen at m2
      clear cl hq
      go_wp2_with fail
      rw [← hY]
      clear hY q0 q1 q2 q3
      obtain ⟨P0, hP0⟩ : ∃ P0, pickI y0 3 = P0 := ⟨_, rfl⟩
      have hP0a : 0 ≤ P0 := by rw [← hP0]; exact pickI_lo (by omega)
      have hP0b : P0 < 3 := by rw [← hP0]; exact pickI_hi (by omega)
      refine (rpick_any y0 3 P0 Y r0.1 r0.2 (by omega) (by omega) hP0).mono ?_
      rintro e w' ⟨rfl, rfl⟩
      obtain ⟨Y, rfl⟩ : ∃ Y, Y = w' := ⟨_, rfl⟩
      clear hP0
      obtain ⟨P1, hP1⟩ : ∃ P1, pickI y1 6 = P1 := ⟨_, rfl⟩
      have hP1a : 0 ≤ P1 := by rw [← hP1]; exact pickI_lo (by omega)
      have hP1b : P1 < 6 := by rw [← hP1]; exact pickI_hi (by omega)
      obtain ⟨C, hC⟩ : ∃ C, pickI y2 1000000 = C := ⟨_, rfl⟩
      have hCa : 0 ≤ C := by rw [← hC]; exact pickI_lo (by omega)
      have hCb : C < 1000000 := by rw [← hC]; exact pickI_hi (by omega)
      have HP := Lib.hid (And.intro hP1 hC)
      have lY : wo.heap.size < Y.heap.size := by have := HY0.out.2.2; omega
      clear hP1 hC
      obtain ⟨ID, hID⟩ : ∃ ID : Int, ID = 1 + 3 * (k : Int) + P0 := ⟨_, rfl⟩
      have hIDa : 3 * (k : Int) + 1 ≤ ID := by omega
      have hIDb : ID ≤ 3 * (k : Int) + 3 := by omega
      obtain ⟨Z, hZ⟩ : ∃ Z, Z = Y.alloc (.cells #[.int .i64 ID, .slice none 0 0] 52) := ⟨_, rfl⟩
      have HZ0 : Hid (Below Y.heap.size Y Z ∧ Z.heap[Y.heap.size]? = some (.cells #[.int .i64 ID, .slice none 0 0] 52 (0, 0)) ∧ Z.heap.size = Y.heap.size + 1 ∧ Z.heap[wo.heap.size]? = some (.cells #[.int .i64 y0, .int .i64 y1, .int .i64 y2, .int .i64 y3] 94 (0, 0))) := Lib.hid (by
        rw [hZ]
        exact ⟨bx _, heap_alloc_new _ _, by simp, (Below.heap_alloc _ _ _ lY).trans HY0.out.2.1⟩)
      have t1 : Z.cell? ⟨wo.heap.size, 1, none⟩ = some (.int .i64 y1) := cell_of_row _ _ _ _ _ _ HZ0.out.2.2.2
      have t2 : Z.cell? ⟨wo.heap.size, 2, none⟩ = some (.int .i64 y2) := cell_of_row _ _ _ _ _ _ HZ0.out.2.2.2
      have t3 : Z.cell? ⟨wo.heap.size, 3, none⟩ = some (.int .i64 y3) := cell_of_row _ _ _ _ _ _ HZ0.out.2.2.2
      go_wp2_with fail
      rw [← hID, ← hZ]
      clear hZ s0 s1 s2 s3 hID
      refine (rpick_any y1 6 P1 Z r1.1 r1.2 (by omega) (by omega) HP.out.1).mono ?_
      rintro e w' ⟨rfl, rfl⟩
      obtain ⟨Z, rfl⟩ : ∃ Z, Z = w' := ⟨_, rfl⟩
      go_wp2_with fail
      refine (rpick_any y2 1000000 C Z r2.1 r2.2 (by omega) (by omega) HP.out.2).mono ?_
      rintro e w' ⟨rfl, rfl⟩
      obtain ⟨Z, rfl⟩ : ∃ Z, Z = w' := ⟨_, rfl⟩
      go_wp2_with fail
      obtain ⟨ua, uc, rfl, huc⟩ := own_slice HI.out.2.2.2.row
      rw [HI.out.2.2.1] at huc
      have HM0 : Hid (MS w Z w.heap.size wo.heap.size Y.heap.size y0 y1 y2 y3 ID (.slice ua L.length uc) L vs 0 [] (.slice none 0 0)) := Lib.hid (by
        have bZ : Below wo.heap.size wo Z := HY0.out.1.trans (HZ0.out.1.mono HY0.out.1.size)
        have s0 := HI.out.1.size
        have s1 := bZ.size
        have s2 := HY0.out.1.size
        exact ⟨HI.out.1.trans (bZ.mono s0), HI.out.2.2.2.below bZ, HZ0.out.2.2.2, HZ0.out.2.1, rfl, World.ownsRow_nil _ _ _ _, fun i hi => absurd hi (by omega), by simp [Value.ownBlock], by omega, by omega, fun g hg => by have := own_lt HI.out.2.2.2.row hg; omega⟩)
      have hLk := HI.out.2.2.1
      have HMK := Lib.hid HI.out.2.1
      rw [hLk] at HM0 ⊢
      obtain ⟨Yb, hYb⟩ : ∃ Yb, Yb = wo.heap.size := ⟨_, rfl⟩
      obtain ⟨Gb, hGb⟩ : ∃ Gb, Gb = Y.heap.size := ⟨_, rfl⟩
      rw [← hYb, ← hGb] at HM0 ⊢
      have hYG : Yb < Gb := by omega
      clear t1 t2 t3 lY HZ0 HY0 HI hYb hGb huc
      go_loopw [9] (fun q wr => ∃ (j : Nat) (fs : List Fld) (fv : Value), j ≤ 6 ∧ q = .int .i64 j ∧ Hid (MS w wr w.heap.size Yb Gb y0 y1 y2 y3 ID (.slice ua k uc) L vs j fs fv)) (fun q _ => 6 - (intOf q).toNat)
      case atStart => exact ⟨0, [], _, by omega, rfl, HM0⟩
      case round =>
        obtain ⟨j, fs, fv, hj6, rfl, HS⟩ := hrel
        obtain ⟨fa, fc, rfl, hfc1, hfc2⟩ := own_slice HS.out.row
        have z1 : wr.cell? ⟨Gb, 1, none⟩ = some (.slice fa j fc) := cell_of_row _ _ _ _ _ _ HS.out.g
        have e3 : wr.cell? ⟨Yb, 3, none⟩ = some (.int .i64 y3) := cell_of_row _ _ _ _ _ _ HS.out.y
        have lG := lt_of_heap HS.out.g
        have lYb := lt_of_heap HS.out.y
        unfold maxLen at hfc2
        by_cases hjn : (j : Int) < 1 + P1
        · have hj5 : j ≤ 5 := by omega
          go_wp2_with fail
          have hC2 := shr_range (z := C) j (by omega) (by omega)
          obtain ⟨M, hM⟩ : ∃ M, pickI (C / 2 ^ j) 9 = M := ⟨_, rfl⟩
          have hMa : 0 ≤ M := by rw [← hM]; exact pickI_lo (by omega)
          have hMb : M < 9 := by rw [← hM]; exact pickI_hi (by omega)
          refine (rpick_any _ 9 M wr hC2.1 hC2.2 (by omega) (by omega) hM).mono ?_
          rintro e w' ⟨rfl, rfl⟩
          obtain ⟨wr, rfl⟩ : ∃ wr, wr = w' := ⟨_, rfl⟩
          clear hM hC2
          go_wp2_with fail
          refine (rfree_any (.slice fa j fc) fs wr (by have h := FldsAt.of_own (ownsRow_lower (C := 0) HS.out.row (Nat.zero_le _) |> fun h => by rw [← HS.out.fl] at h; exact h); rw [HS.out.fl] at h; exact h) (by have := HS.out.fl; omega)).mono ?_
          rintro e w' ⟨⟨o, rfl, ho1, ho2⟩, rfl⟩
          obtain ⟨wr, rfl⟩ : ∃ wr, wr = w' := ⟨_, rfl⟩
          obtain ⟨D, hD⟩ : ∃ D, D = y3 / 2 ^ j := ⟨_, rfl⟩
          have hDr := shr_range (z := y3) j r3.1 r3.2
          rw [← hD] at hDr
          obtain ⟨N2, hN2⟩ : ∃ N2, pickI D 2 = N2 := ⟨_, rfl⟩
          have hN2a : 0 ≤ N2 := by rw [← hN2]; exact pickI_lo (by omega)
          have hN2b : N2 < 2 := by rw [← hN2]; exact pickI_hi (by omega)
          go_wp2_with fail
          rw [← hD]
          refine (rpick_any D 2 N2 wr hDr.1 hDr.2 (by omega) (by omega) hN2).mono ?_
          rintro e w' ⟨rfl, rfl⟩
          obtain ⟨wr, rfl⟩ : ∃ wr, wr = w' := ⟨_, rfl⟩
          clear hN2
          have HW0 : Hid (∀ W, W = wr.alloc (.cells #[.int .i64 2, .int .i64 (1 + N2), .int .i64 (-1), .string ⟨#[]⟩] 56) → Below wr.heap.size wr W ∧ W.heap[wr.heap.size]? = some (.cells (fldCs ⟨2, 1 + N2, -1, eb⟩) 56 (0, 0))) := Lib.hid fun W h => by rw [h]; exact ⟨bx _, heap_alloc_new _ _⟩
          go_upto_block 4 with fail
          go_cut [] from 65 to 167 (fun wx => Chose wr wx)
          case first =>
            have hDr0 := shr_range (z := y3) j r3.1 r3.2
            clear hD hDr
            by_cases M01 : M = 0 ∨ M = 1
            · obtain ⟨p4, hp4⟩ : ∃ r, pickI (y3 / 2 ^ j) 4 = r := ⟨_, rfl⟩
              have p4a : 0 ≤ p4 := by rw [← hp4]; exact pickI_lo (by omega)
              have p4b : p4 < 4 := by rw [← hp4]; exact pickI_hi (by omega)
              obtain ⟨p5, hp5⟩ : ∃ r, pickI y3 256 = r := ⟨_, rfl⟩
              have p5a : 0 ≤ p5 := by rw [← hp5]; exact pickI_lo (by omega)
              have p5b : p5 < 256 := by rw [← hp5]; exact pickI_hi (by omega)
              obtain ⟨p6, hp6⟩ : ∃ r, pickI C 2 = r := ⟨_, rfl⟩
              have p6a : 0 ≤ p6 := by rw [← hp6]; exact pickI_lo (by omega)
              have p6b : p6 < 2 := by rw [← hp6]; exact pickI_hi (by omega)
              have C1 : -9223372036854775808 ≤ C := by omega
              have C2 : C ≤ 9223372036854775807 := by omega
              have K4 : Hid (∀ V : World, Calls Tryz.prog 52 #[.int .i64 (y3 / 2 ^ j), .int .i64 4] V fun e w' => e = .returned (.int .i64 p4) ∧ w' = V) := Lib.hid fun V => rpick_any _ 4 p4 V hDr0.1 hDr0.2 (by omega) (by omega) hp4
              have K5 : Hid (∀ V : World, Calls Tryz.prog 52 #[.int .i64 y3, .int .i64 256] V fun e w' => e = .returned (.int .i64 p5) ∧ w' = V) := Lib.hid fun V => rpick_any _ 256 p5 V r3.1 r3.2 (by omega) (by omega) hp5
              have K6 : Hid (∀ V : World, Calls Tryz.prog 52 #[.int .i64 C, .int .i64 2] V fun e w' => e = .returned (.int .i64 p6) ∧ w' = V) := Lib.hid fun V => rpick_any _ 2 p6 V C1 C2 (by omega) (by omega) hp6
              obtain ⟨T, hT⟩ : ∃ T, T = bs [UInt8.ofNat (65 + p4).toNat, UInt8.ofNat p5.toNat] := ⟨_, rfl⟩
              have hTs : T.size = 2 := by rw [hT]; rfl
              have hcw : ∀ wS : World, wS.heap[wr.heap.size + 1]? = some (.cells #[.int .u8 (65 + p4), .int .u8 p5] 5 (0, 0)) → (convert 64 9 (.slice (some ⟨wr.heap.size + 1, 0, none⟩) 2 2)).run Tryz.prog wS = .ok (.string T) wS := fun wS hh => by
                rw [hT]
                refine run_convert_bytes_arg (P := Tryz.prog) _ 64 5 Tryz.underlying64 Tryz.underlying5 (wr.heap.size + 1) 0 2 2 [65 + p4, p5] rfl (fun i hi => ?_) 9 Tryz.underlying9
                rw [cell_of_row _ _ _ _ _ _ hh]
                obtain rfl | rfl : i = 0 ∨ i = 1 := by omega
                · rfl
                · rfl
              have mkT : MkF ⟨1, 0, -1, T.extract 0 (1 + p6).toNat⟩ := by
                have hsz : (T.extract 0 (1 + p6).toNat).size ≤ 2 := by rw [ByteArray.size_extract, hTs]; omega
                exact mkF_txt hsz
              have hw1 : IntKind.i64.wrap (65 + p4) = 65 + p4 := IntWalk.i64_in _ ⟨by omega, by omega⟩
              have hw2 : IntKind.u8.wrap (65 + p4) = 65 + p4 := IntWalk.u8_in _ ⟨by omega, by omega⟩
              have hw3 : IntKind.u8.wrap p5 = p5 := IntWalk.u8_in _ ⟨by omega, by omega⟩
              have hif : 0 ≤ 1 + p6 ∧ 1 + p6 ≤ 2 := by omega
              have hw4 : IntKind.i64.wrap (1 + p6) = 1 + p6 := IntWalk.i64_in _ ⟨by omega, by omega⟩
              clear hp4 hp5 hp6 hT hDr0 r3
              rcases M01 with rfl | rfl
              · as_aux_lemma =>
                  go_wp2_with fail
                  have hEN : ∀ (args : Array Value) (w : World), (callFunc 52 args).run Tryz.prog w = .ok (.enter 52 args) w := enters_of Tryz.func52 (by kernel_rfl) (by kernel_rfl)
                  have e3' : (wr.alloc (.cells #[.int .i64 2, .int .i64 (1 + N2), .int .i64 (-1), .string ⟨#[]⟩] 56)).drew.cell? ⟨Yb, 3, none⟩ = some (.int .i64 y3) := ((bx (.cells #[.int .i64 2, .int .i64 (1 + N2), .int .i64 (-1), .string ⟨#[]⟩] 56)).drew.cell (p := ⟨Yb, 3, none⟩) (World.block_lt_of_cell? (h := e3))).trans e3
                  refine wp_region_held_drew (S := fun w' => w'.cell? ⟨Yb, 3, none⟩ = some (.int .i64 y3)) (by kernel_rfl) e3' (fun hHeld => ?_)
                  refine takeH 0 (y := by intro wS hSw; (try dsimp only at hSw); go_simp; (try with_reducible rfl)) (h := ?_)
                  (try simp only [pA, pB, pC, pD])
                  refine takeH 1 (y := by intro wS hSw; (try dsimp only at hSw); go_simp; (try with_reducible rfl)) (h := ?_)
                  (try simp only [pA, pB, pC, pD])
                  refine takeH 2 (y := by intro wS hSw; (try dsimp only at hSw); go_simp; (try with_reducible rfl)) (h := ?_)
                  (try simp only [pA, pB, pC, pD])
                  refine takeH 3 (y := by intro wS hSw; (try dsimp only at hSw); go_simp; (try with_reducible rfl)) (h := ?_)
                  (try simp only [pA, pB, pC, pD])
                  refine wpAnyH_call (i := 4) (oi := ?o5) (v := (.int .i64 p4)) ?h5 ?a5 ?b5 ?c5 ?q5 ?g5 52 #[.int .i64 (y3 / 2 ^ j), .int .i64 4] ?e5 ?y5 ?s5 ?r5
                  case h5 => (simp only [List.getElem?_toArray, List.getElem?_cons_zero, List.getElem?_cons_succ]; rfl)
                  case a5 => kernel_rfl
                  case b5 => kernel_rfl
                  case c5 => kernel_rfl
                  case q5 => exact fun _ _ _ h => h
                  case g5 => rfl
                  case e5 => (intro wS hSw; go_simp; (try with_reducible rfl))
                  case y5 => (intro wS _; exact K4.out wS)
                  case s5 => assumption
                  (try simp only [pA, pB, pC, pD])
                  refine takeH 5 (y := by intro wS hSw; (try dsimp only at hSw); go_simp; (try with_reducible rfl)) (h := ?_)
                  (try simp only [pA, pB, pC, pD])
                  refine takeH 6 (y := by intro wS hSw; (try dsimp only at hSw); go_simp; (try with_reducible rfl)) (h := ?_)
                  (try simp only [pA, pB, pC, pD])
                  refine takeH 7 (y := by intro wS hSw; (try dsimp only at hSw); go_simp; (try with_reducible rfl)) (h := ?_)
                  (try simp only [pA, pB, pC, pD])
                  refine takeH 8 (y := by intro wS hSw; (try dsimp only at hSw); go_simp; (try with_reducible rfl)) (h := ?_)
                  (try simp only [pA, pB, pC, pD])
                  refine wpAnyH_call (i := 9) (oi := ?o10) (v := (.int .i64 p5)) ?h10 ?a10 ?b10 ?c10 ?q10 ?g10 52 #[.int .i64 y3, .int .i64 256] ?e10 ?y10 ?s10 ?r10
                  case h10 => (simp only [List.getElem?_toArray, List.getElem?_cons_zero, List.getElem?_cons_succ]; rfl)
                  case a10 => kernel_rfl
                  case b10 => kernel_rfl
                  case c10 => kernel_rfl
                  case q10 => exact fun _ _ _ h => h
                  case g10 => rfl
                  case e10 => (intro wS hSw; go_simp; (try with_reducible rfl))
                  case y10 => (intro wS _; exact K5.out wS)
                  case s10 => assumption
                  (try simp only [pA, pB, pC, pD])
                  refine takeH 10 (y := by intro wS hSw; (try dsimp only at hSw); go_simp; (try with_reducible rfl)) (h := ?_)
                  (try simp only [pA, pB, pC, pD])
                  refine takeH 13 (y := by intro wS hSw; (try dsimp only at hSw); go_simp; (try with_reducible rfl)) (h := ?_)
                  (try simp only [pA, pB, pC, pD])
                  refine wpAnyH_call (i := 14) (oi := ?o13) (v := (.int .i64 p6)) ?h13 ?a13 ?b13 ?c13 ?q13 ?g13 52 #[.int .i64 C, .int .i64 2] ?e13 ?y13 ?s13 ?r13
                  case h13 => (simp only [List.getElem?_toArray, List.getElem?_cons_zero, List.getElem?_cons_succ]; rfl)
                  case a13 => kernel_rfl
                  case b13 => kernel_rfl
                  case c13 => kernel_rfl
                  case q13 => exact fun _ _ _ h => h
                  case g13 => rfl
                  case e13 => (intro wS hSw; go_simp; (try with_reducible rfl))
                  case y13 => (intro wS _; exact K6.out wS)
                  case s13 => assumption
                  (try simp only [pA, pB, pC, pD])
                  refine takeH 15 (y := by intro wS hSw; (try dsimp only at hSw); go_simp; (try with_reducible rfl)) (h := ?_)
                  (try simp only [pA, pB, pC, pD])
                  refine wpAnyH_ready (rs := [11]) (by kernel_rfl) (by simp) ?_
                  refine AllReadyH.cons (o := ?oB0) ?hB0 ?kB0 AllReadyH.nil
                  case hB0 => (simp only [List.getElem?_toArray, List.getElem?_cons_zero, List.getElem?_cons_succ]; rfl)
                  case kB0 =>
                    intro K hK
                    go_simp
                    have hcs : ((wr.alloc (.cells #[.int .i64 2, .int .i64 (1 + N2), .int .i64 (-1), .string ⟨#[]⟩] 56)).alloc (.cells #[.int .u8 (65 + p4), .int .u8 p5] 5)).drew.cell? ⟨Yb, 3, none⟩ = some (.int .i64 y3) := (((bx (.cells #[.int .i64 2, .int .i64 (1 + N2), .int .i64 (-1), .string ⟨#[]⟩] 56)).alloc (by simp) (.cells #[.int .u8 (65 + p4), .int .u8 p5] 5)).drew.cell (p := ⟨Yb, 3, none⟩) (World.block_lt_of_cell? (h := e3))).trans e3
                    refine hK.out _ _ hcs (fun hHeld2 => ?_)
                    clear hK K
                    (try simp only [pA, pB, pC, pD])
                    refine wpAnyH_weaken (S' := fun w' : World => w'.cell? ⟨Yb, 3, none⟩ = some (.int .i64 y3) ∧ w'.heap[wr.heap.size + 1]? = some (.cells #[.int .u8 (65 + p4), .int .u8 p5] 5 (0, 0))) (fun _ h => h.1) _ _ _ _ ?_
                    have hS3 : (fun w' : World => w'.cell? ⟨Yb, 3, none⟩ = some (.int .i64 y3) ∧ w'.heap[wr.heap.size + 1]? = some (.cells #[.int .u8 (65 + p4), .int .u8 p5] 5 (0, 0))) ((wr.alloc (.cells #[.int .i64 2, .int .i64 (1 + N2), .int .i64 (-1), .string ⟨#[]⟩] 56)).alloc (.cells #[.int .u8 (65 + p4), .int .u8 p5] 5)).drew := ⟨hcs, heap_alloc2_new _ _ _⟩
                    clear hHeld hHeld2 hcs
                    refine takeH 12 (y := by intro wS hSw; have hcv := hcw wS hSw.2; (try dsimp only at hSw); go_simp; (try with_reducible rfl)) (h := ?_)
                    (try simp only [pA, pB, pC, pD])
                    refine takeH 16 (y := by intro wS hSw; (try dsimp only at hSw); go_simp; (try with_reducible rfl)) (h := ?_)
                    (try simp only [pA, pB, pC, pD])
                    refine takeH 17 (y := by intro wS hSw; (try dsimp only at hSw); go_simp; (try with_reducible rfl)) (h := ?_)
                    (try simp only [pA, pB, pC, pD])
                    refine wpAnyH_ready (rs := [18]) (by kernel_rfl) (by simp) ?_
                    refine AllReadyH.cons (o := ?oC0) ?hC0 ?kC0 AllReadyH.nil
                    case hC0 => (simp only [List.getElem?_toArray, List.getElem?_cons_zero, List.getElem?_cons_succ]; rfl)
                    case kC0 =>
                      intro K hK
                      rw [if_pos (by rfl)]
                      have hold : ((wr.alloc (.cells #[.int .i64 2, .int .i64 (1 + N2), .int .i64 (-1), .string ⟨#[]⟩] 56)).alloc (.cells #[.int .u8 (65 + p4), .int .u8 p5] 5)).drew.heap[wr.heap.size]? = some (.cells #[.int .i64 2, .int .i64 (1 + N2), .int .i64 (-1), .string ⟨#[]⟩] 56 (0, 0)) := heap_alloc2_old _ _ _
                      refine wp_store_row 56 (.tmp 12) (.tmp 89) rfl wr.heap.size (fldCs ⟨1, 0, -1, T.extract 0 (1 + p6).toNat⟩) rfl rfl 56 _ hold (infoFld4.trans rfl) rfl (fld_one ⟨1, 0, -1, T.extract 0 (1 + p6).toNat⟩) ?_
                      refine hK.out _ _ ?sC0 (fun _ => ?_)
                      case sC0 => exact ⟨(cell_setRow_other _ _ _ _ (by show Yb ≠ wr.heap.size; have := World.block_lt_of_cell? (h := e3); omega)).trans hS3.1, (setRow_other _ _ _ _ (by omega)).trans hS3.2⟩
                      clear hK K
                      refine wpAnyH_done (by kernel_rfl) ?_ _
                      go_wp2_with fail
                      go_meet
                      case rel => exact chose_row ⟨1, 0, -1, T.extract 0 (1 + p6).toNat⟩ (((bx (.cells #[.int .i64 2, .int .i64 (1 + N2), .int .i64 (-1), .string ⟨#[]⟩] 56)).alloc (by simp) (.cells #[.int .u8 (65 + p4), .int .u8 p5] 5)).drew) hold mkT
              · as_aux_lemma =>
                  go_wp2_with fail
                  have hEN : ∀ (args : Array Value) (w : World), (callFunc 52 args).run Tryz.prog w = .ok (.enter 52 args) w := enters_of Tryz.func52 (by kernel_rfl) (by kernel_rfl)
                  have e3' : (wr.alloc (.cells #[.int .i64 2, .int .i64 (1 + N2), .int .i64 (-1), .string ⟨#[]⟩] 56)).drew.cell? ⟨Yb, 3, none⟩ = some (.int .i64 y3) := ((bx (.cells #[.int .i64 2, .int .i64 (1 + N2), .int .i64 (-1), .string ⟨#[]⟩] 56)).drew.cell (p := ⟨Yb, 3, none⟩) (World.block_lt_of_cell? (h := e3))).trans e3
                  refine wp_region_held_drew (S := fun w' => w'.cell? ⟨Yb, 3, none⟩ = some (.int .i64 y3)) (by kernel_rfl) e3' (fun hHeld => ?_)
                  refine takeH 0 (y := by intro wS hSw; (try dsimp only at hSw); go_simp; (try with_reducible rfl)) (h := ?_)
                  (try simp only [pA, pB, pC, pD])
                  refine takeH 1 (y := by intro wS hSw; (try dsimp only at hSw); go_simp; (try with_reducible rfl)) (h := ?_)
                  (try simp only [pA, pB, pC, pD])
                  refine takeH 2 (y := by intro wS hSw; (try dsimp only at hSw); go_simp; (try with_reducible rfl)) (h := ?_)
                  (try simp only [pA, pB, pC, pD])
                  refine takeH 3 (y := by intro wS hSw; (try dsimp only at hSw); go_simp; (try with_reducible rfl)) (h := ?_)
                  (try simp only [pA, pB, pC, pD])
                  refine wpAnyH_call (i := 4) (oi := ?o105) (v := (.int .i64 p4)) ?h105 ?a105 ?b105 ?c105 ?q105 ?g105 52 #[.int .i64 (y3 / 2 ^ j), .int .i64 4] ?e105 ?y105 ?s105 ?r105
                  case h105 => (simp only [List.getElem?_toArray, List.getElem?_cons_zero, List.getElem?_cons_succ]; rfl)
                  case a105 => kernel_rfl
                  case b105 => kernel_rfl
                  case c105 => kernel_rfl
                  case q105 => exact fun _ _ _ h => h
                  case g105 => rfl
                  case e105 => (intro wS hSw; go_simp; (try with_reducible rfl))
                  case y105 => (intro wS _; exact K4.out wS)
                  case s105 => assumption
                  (try simp only [pA, pB, pC, pD])
                  refine takeH 5 (y := by intro wS hSw; (try dsimp only at hSw); go_simp; (try with_reducible rfl)) (h := ?_)
                  (try simp only [pA, pB, pC, pD])
                  refine takeH 6 (y := by intro wS hSw; (try dsimp only at hSw); go_simp; (try with_reducible rfl)) (h := ?_)
                  (try simp only [pA, pB, pC, pD])
                  refine takeH 7 (y := by intro wS hSw; (try dsimp only at hSw); go_simp; (try with_reducible rfl)) (h := ?_)
                  (try simp only [pA, pB, pC, pD])
                  refine takeH 8 (y := by intro wS hSw; (try dsimp only at hSw); go_simp; (try with_reducible rfl)) (h := ?_)
                  (try simp only [pA, pB, pC, pD])
                  refine wpAnyH_call (i := 9) (oi := ?o110) (v := (.int .i64 p5)) ?h110 ?a110 ?b110 ?c110 ?q110 ?g110 52 #[.int .i64 y3, .int .i64 256] ?e110 ?y110 ?s110 ?r110
                  case h110 => (simp only [List.getElem?_toArray, List.getElem?_cons_zero, List.getElem?_cons_succ]; rfl)
                  case a110 => kernel_rfl
                  case b110 => kernel_rfl
                  case c110 => kernel_rfl
                  case q110 => exact fun _ _ _ h => h
                  case g110 => rfl
                  case e110 => (intro wS hSw; go_simp; (try with_reducible rfl))
                  case y110 => (intro wS _; exact K5.out wS)
                  case s110 => assumption
                  (try simp only [pA, pB, pC, pD])
                  refine takeH 10 (y := by intro wS hSw; (try dsimp only at hSw); go_simp; (try with_reducible rfl)) (h := ?_)
                  (try simp only [pA, pB, pC, pD])
                  refine takeH 13 (y := by intro wS hSw; (try dsimp only at hSw); go_simp; (try with_reducible rfl)) (h := ?_)
                  (try simp only [pA, pB, pC, pD])
                  refine wpAnyH_call (i := 14) (oi := ?o113) (v := (.int .i64 p6)) ?h113 ?a113 ?b113 ?c113 ?q113 ?g113 52 #[.int .i64 C, .int .i64 2] ?e113 ?y113 ?s113 ?r113
                  case h113 => (simp only [List.getElem?_toArray, List.getElem?_cons_zero, List.getElem?_cons_succ]; rfl)
                  case a113 => kernel_rfl
                  case b113 => kernel_rfl
                  case c113 => kernel_rfl
                  case q113 => exact fun _ _ _ h => h
                  case g113 => rfl
                  case e113 => (intro wS hSw; go_simp; (try with_reducible rfl))
                  case y113 => (intro wS _; exact K6.out wS)
                  case s113 => assumption
                  (try simp only [pA, pB, pC, pD])
                  refine takeH 15 (y := by intro wS hSw; (try dsimp only at hSw); go_simp; (try with_reducible rfl)) (h := ?_)
                  (try simp only [pA, pB, pC, pD])
                  refine wpAnyH_ready (rs := [11]) (by kernel_rfl) (by simp) ?_
                  refine AllReadyH.cons (o := ?oB100) ?hB100 ?kB100 AllReadyH.nil
                  case hB100 => (simp only [List.getElem?_toArray, List.getElem?_cons_zero, List.getElem?_cons_succ]; rfl)
                  case kB100 =>
                    intro K hK
                    go_simp
                    have hcs : ((wr.alloc (.cells #[.int .i64 2, .int .i64 (1 + N2), .int .i64 (-1), .string ⟨#[]⟩] 56)).alloc (.cells #[.int .u8 (65 + p4), .int .u8 p5] 5)).drew.cell? ⟨Yb, 3, none⟩ = some (.int .i64 y3) := (((bx (.cells #[.int .i64 2, .int .i64 (1 + N2), .int .i64 (-1), .string ⟨#[]⟩] 56)).alloc (by simp) (.cells #[.int .u8 (65 + p4), .int .u8 p5] 5)).drew.cell (p := ⟨Yb, 3, none⟩) (World.block_lt_of_cell? (h := e3))).trans e3
                    refine hK.out _ _ hcs (fun hHeld2 => ?_)
                    clear hK K
                    (try simp only [pA, pB, pC, pD])
                    refine wpAnyH_weaken (S' := fun w' : World => w'.cell? ⟨Yb, 3, none⟩ = some (.int .i64 y3) ∧ w'.heap[wr.heap.size + 1]? = some (.cells #[.int .u8 (65 + p4), .int .u8 p5] 5 (0, 0))) (fun _ h => h.1) _ _ _ _ ?_
                    have hS3 : (fun w' : World => w'.cell? ⟨Yb, 3, none⟩ = some (.int .i64 y3) ∧ w'.heap[wr.heap.size + 1]? = some (.cells #[.int .u8 (65 + p4), .int .u8 p5] 5 (0, 0))) ((wr.alloc (.cells #[.int .i64 2, .int .i64 (1 + N2), .int .i64 (-1), .string ⟨#[]⟩] 56)).alloc (.cells #[.int .u8 (65 + p4), .int .u8 p5] 5)).drew := ⟨hcs, heap_alloc2_new _ _ _⟩
                    clear hHeld hHeld2 hcs
                    refine takeH 12 (y := by intro wS hSw; have hcv := hcw wS hSw.2; (try dsimp only at hSw); go_simp; (try with_reducible rfl)) (h := ?_)
                    (try simp only [pA, pB, pC, pD])
                    refine takeH 16 (y := by intro wS hSw; (try dsimp only at hSw); go_simp; (try with_reducible rfl)) (h := ?_)
                    (try simp only [pA, pB, pC, pD])
                    refine takeH 17 (y := by intro wS hSw; (try dsimp only at hSw); go_simp; (try with_reducible rfl)) (h := ?_)
                    (try simp only [pA, pB, pC, pD])
                    refine wpAnyH_ready (rs := [18]) (by kernel_rfl) (by simp) ?_
                    refine AllReadyH.cons (o := ?oC100) ?hC100 ?kC100 AllReadyH.nil
                    case hC100 => (simp only [List.getElem?_toArray, List.getElem?_cons_zero, List.getElem?_cons_succ]; rfl)
                    case kC100 =>
                      intro K hK
                      rw [if_pos (by rfl)]
                      have hold : ((wr.alloc (.cells #[.int .i64 2, .int .i64 (1 + N2), .int .i64 (-1), .string ⟨#[]⟩] 56)).alloc (.cells #[.int .u8 (65 + p4), .int .u8 p5] 5)).drew.heap[wr.heap.size]? = some (.cells #[.int .i64 2, .int .i64 (1 + N2), .int .i64 (-1), .string ⟨#[]⟩] 56 (0, 0)) := heap_alloc2_old _ _ _
                      refine wp_store_row 56 (.tmp 12) (.tmp 89) rfl wr.heap.size (fldCs ⟨1, 0, -1, T.extract 0 (1 + p6).toNat⟩) rfl rfl 56 _ hold (infoFld4.trans rfl) rfl (fld_one ⟨1, 0, -1, T.extract 0 (1 + p6).toNat⟩) ?_
                      refine hK.out _ _ ?sC100 (fun _ => ?_)
                      case sC100 => exact ⟨(cell_setRow_other _ _ _ _ (by show Yb ≠ wr.heap.size; have := World.block_lt_of_cell? (h := e3); omega)).trans hS3.1, (setRow_other _ _ _ _ (by omega)).trans hS3.2⟩
                      clear hK K
                      refine wpAnyH_done (by kernel_rfl) ?_ _
                      go_wp2_with fail
                      go_meet
                      case rel => exact chose_row ⟨1, 0, -1, T.extract 0 (1 + p6).toNat⟩ (((bx (.cells #[.int .i64 2, .int .i64 (1 + N2), .int .i64 (-1), .string ⟨#[]⟩] 56)).alloc (by simp) (.cells #[.int .u8 (65 + p4), .int .u8 p5] 5)).drew) hold mkT
            · have M0 : M ≠ 0 := fun h => M01 (.inl h)
              have M1 : M ≠ 1 := fun h => M01 (.inr h)
              clear M01
              by_cases M2 : M = 2
              · subst M2
                obtain ⟨N, hN⟩ : ∃ N, pickI (y3 / 2 ^ j) 5 = N := ⟨_, rfl⟩
                have hNa : 0 ≤ N := by rw [← hN]; exact pickI_lo (by omega)
                have hNb : N < 5 := by rw [← hN]; exact pickI_hi (by omega)
                have HN := Lib.hid hN
                clear hN
                go_wp2_with fail
                refine (rpick_any _ 5 N _ hDr0.1 hDr0.2 (by omega) (by omega) HN.out).mono ?_
                rintro e w' ⟨rfl, rfl⟩
                go_wp2_with (first | (refine wpList_store_row rfl 56 _ _ rfl wr.heap.size (fldCs ⟨3, N, -1, eb⟩) rfl rfl 56 _ (HW0.out _ rfl).2 (infoFld4.trans rfl) rfl (fld_one ⟨3, N, -1, eb⟩) ?_))
                go_meet
                case rel => exact chose_row ⟨3, N, -1, eb⟩ (HW0.out _ rfl).1 (HW0.out _ rfl).2 (mkF_of (by omega) (by omega) (by omega) (by omega) (by omega) (by omega) (fun _ => by omega))
              · by_cases M3 : M = 3
                · subst M3
                  by_cases hop : 0 ≤ o
                  · go_wp2_with (first | (refine wpList_store_row rfl 56 _ _ rfl wr.heap.size (fldCs ⟨3, 0, o, eb⟩) rfl rfl 56 _ (HW0.out _ rfl).2 (infoFld4.trans rfl) rfl (fld_one ⟨3, 0, o, eb⟩) ?_))
                    go_meet
                    case rel => exact chose_row ⟨3, 0, o, eb⟩ (HW0.out _ rfl).1 (HW0.out _ rfl).2 (mkF_of (by omega) (by omega) (by omega) (by omega) (by omega) (by omega) (fun _ => by omega))
                  · have hon : o < 0 := by omega
                    go_wp2_with fail
                    go_meet
                    case rel => exact ⟨_, mkF_of (by omega) (by omega) (by omega) (by omega) (by omega) (by omega) (fun h => absurd h (by omega)), HW0.out _ rfl⟩
                · by_cases M4 : M = 4
                  · subst M4
                    by_cases hop : 0 ≤ o
                    · by_cases hkp : (0 : Int) < k
                      · obtain ⟨r, hr⟩ : ∃ r, pickI (y3 / 2 ^ j) k = r := ⟨_, rfl⟩
                        have hra : 0 ≤ r := by rw [← hr]; exact pickI_lo (by omega)
                        have hrb : r < k := by rw [← hr]; exact pickI_hi (by omega)
                        obtain ⟨rn, rfl⟩ : ∃ rn : Nat, r = rn := ⟨r.toNat, by omega⟩
                        have HRN := Lib.hid hr
                        clear hr
                        obtain ⟨ub, uo, rfl, -, lub, -, u1, u2, ufm⟩ := HS.out.m.fms.at_ (by omega)
                        obtain ⟨uu, huu⟩ := ufm rn (by omega)
                        have uc0 := huu.c0
                        have hXI := (HMK.out.ints rn (by omega)).1
                        obtain ⟨X, hX⟩ : ∃ X, X = (L.getD rn zm).id := ⟨_, rfl⟩
                        rw [← hX] at uc0 hXI
                        unfold maxLen at u2
                        clear hX huu ufm
                        go_wp2_with fail
                        refine (rpick_any _ k rn _ hDr0.1 hDr0.2 (by omega) (by omega) HRN.out).mono ?_
                        rintro e w' ⟨rfl, rfl⟩
                        go_wp2_with (first | (refine wpList_store_row rfl 56 _ _ rfl wr.heap.size (fldCs ⟨4, X, o, eb⟩) rfl rfl 56 _ (HW0.out _ rfl).2 (infoFld4.trans rfl) rfl (fld_one ⟨4, X, o, eb⟩) ?_))
                        go_meet
                        case rel => exact chose_row ⟨4, X, o, eb⟩ (HW0.out _ rfl).1 (HW0.out _ rfl).2 (mkF_of (by omega) (by omega) (by omega) (by omega) (by omega) (by omega) (fun h => absurd h (by omega)))
                      · have hkn : ¬ (0 : Int) < k := hkp
                        go_wp2_with fail
                        go_meet
                        case rel => exact ⟨_, mkF_of (by omega) (by omega) (by omega) (by omega) (by omega) (by omega) (fun h => absurd h (by omega)), HW0.out _ rfl⟩
                    · have hon : o < 0 := by omega
                      go_wp2_with fail
                      go_meet
                      case rel => exact ⟨_, mkF_of (by omega) (by omega) (by omega) (by omega) (by omega) (by omega) (fun h => absurd h (by omega)), HW0.out _ rfl⟩
                  · by_cases M5 : M = 5
                    · subst M5
                      by_cases hop : 0 ≤ o
                      · by_cases hkp : (0 : Int) < k
                        · obtain ⟨r, hr⟩ : ∃ r, pickI (y3 / 2 ^ j) k = r := ⟨_, rfl⟩
                          have hra : 0 ≤ r := by rw [← hr]; exact pickI_lo (by omega)
                          have hrb : r < k := by rw [← hr]; exact pickI_hi (by omega)
                          obtain ⟨rn, rfl⟩ : ∃ rn : Nat, r = rn := ⟨r.toNat, by omega⟩
                          have HRN := Lib.hid hr
                          clear hr
                          obtain ⟨ub, uo, rfl, -, lub, -, u1, u2, ufm⟩ := HS.out.m.fms.at_ (by omega)
                          obtain ⟨uu, huu⟩ := ufm rn (by omega)
                          have uc0 := huu.c0
                          have hXI := (HMK.out.ints rn (by omega)).1
                          obtain ⟨X, hX⟩ : ∃ X, X = (L.getD rn zm).id := ⟨_, rfl⟩
                          rw [← hX] at uc0 hXI
                          unfold maxLen at u2
                          clear hX huu ufm
                          go_wp2_with fail
                          refine (rpick_any _ k rn _ hDr0.1 hDr0.2 (by omega) (by omega) HRN.out).mono ?_
                          rintro e w' ⟨rfl, rfl⟩
                          go_wp2_with (first | (refine wpList_store_row rfl 56 _ _ rfl wr.heap.size (fldCs ⟨4, X, o, eb⟩) rfl rfl 56 _ (HW0.out _ rfl).2 (infoFld4.trans rfl) rfl (fld_one ⟨4, X, o, eb⟩) ?_))
                          go_meet
                          case rel => exact chose_row ⟨4, X, o, eb⟩ (HW0.out _ rfl).1 (HW0.out _ rfl).2 (mkF_of (by omega) (by omega) (by omega) (by omega) (by omega) (by omega) (fun h => absurd h (by omega)))
                        · have hkn : ¬ (0 : Int) < k := hkp
                          go_wp2_with fail
                          go_meet
                          case rel => exact ⟨_, mkF_of (by omega) (by omega) (by omega) (by omega) (by omega) (by omega) (fun h => absurd h (by omega)), HW0.out _ rfl⟩
                      · have hon : o < 0 := by omega
                        go_wp2_with fail
                        go_meet
                        case rel => exact ⟨_, mkF_of (by omega) (by omega) (by omega) (by omega) (by omega) (by omega) (fun h => absurd h (by omega)), HW0.out _ rfl⟩
                    · by_cases M6 : M = 6
                      · subst M6
                        by_cases hop : 0 ≤ o
                        · by_cases hkp : (0 : Int) < k
                          · obtain ⟨r, hr⟩ : ∃ r, pickI (y3 / 2 ^ j) k = r := ⟨_, rfl⟩
                            have hra : 0 ≤ r := by rw [← hr]; exact pickI_lo (by omega)
                            have hrb : r < k := by rw [← hr]; exact pickI_hi (by omega)
                            obtain ⟨rn, rfl⟩ : ∃ rn : Nat, r = rn := ⟨r.toNat, by omega⟩
                            have HRN := Lib.hid hr
                            clear hr
                            obtain ⟨ub, uo, rfl, -, lub, -, u1, u2, ufm⟩ := HS.out.m.fms.at_ (by omega)
                            obtain ⟨uu, huu⟩ := ufm rn (by omega)
                            have uc0 := huu.c0
                            have hXI := (HMK.out.ints rn (by omega)).1
                            obtain ⟨X, hX⟩ : ∃ X, X = (L.getD rn zm).id := ⟨_, rfl⟩
                            rw [← hX] at uc0 hXI
                            unfold maxLen at u2
                            clear hX huu ufm
                            go_wp2_with fail
                            refine (rpick_any _ k rn _ hDr0.1 hDr0.2 (by omega) (by omega) HRN.out).mono ?_
                            rintro e w' ⟨rfl, rfl⟩
                            go_wp2_with (first | (refine wpList_store_row rfl 56 _ _ rfl wr.heap.size (fldCs ⟨5, X, o, eb⟩) rfl rfl 56 _ (HW0.out _ rfl).2 (infoFld4.trans rfl) rfl (fld_one ⟨5, X, o, eb⟩) ?_))
                            go_meet
                            case rel => exact chose_row ⟨5, X, o, eb⟩ (HW0.out _ rfl).1 (HW0.out _ rfl).2 (mkF_of (by omega) (by omega) (by omega) (by omega) (by omega) (by omega) (fun h => absurd h (by omega)))
                          · have hkn : ¬ (0 : Int) < k := hkp
                            go_wp2_with fail
                            go_meet
                            case rel => exact ⟨_, mkF_of (by omega) (by omega) (by omega) (by omega) (by omega) (by omega) (fun h => absurd h (by omega)), HW0.out _ rfl⟩
                        · have hon : o < 0 := by omega
                          go_wp2_with fail
                          go_meet
                          case rel => exact ⟨_, mkF_of (by omega) (by omega) (by omega) (by omega) (by omega) (by omega) (fun h => absurd h (by omega)), HW0.out _ rfl⟩
                      · by_cases M7 : M = 7
                        · subst M7
                          obtain ⟨N, hN⟩ : ∃ N, pickI (y3 / 2 ^ j) 3 = N := ⟨_, rfl⟩
                          have hNa : 0 ≤ N := by rw [← hN]; exact pickI_lo (by omega)
                          have hNb : N < 3 := by rw [← hN]; exact pickI_hi (by omega)
                          have HN := Lib.hid hN
                          clear hN
                          go_wp2_with fail
                          refine (rpick_any _ 3 N _ hDr0.1 hDr0.2 (by omega) (by omega) HN.out).mono ?_
                          rintro e w' ⟨rfl, rfl⟩
                          go_wp2_with (first | (refine wpList_store_row rfl 56 _ _ rfl wr.heap.size (fldCs ⟨6, 1 + N, -1, eb⟩) rfl rfl 56 _ (HW0.out _ rfl).2 (infoFld4.trans rfl) rfl (fld_one ⟨6, 1 + N, -1, eb⟩) ?_))
                          go_meet
                          case rel => exact chose_row ⟨6, 1 + N, -1, eb⟩ (HW0.out _ rfl).1 (HW0.out _ rfl).2 (mkF_of (by omega) (by omega) (by omega) (by omega) (by omega) (by omega) (fun h => absurd h (by omega)))
                        · have M8 : M = 8 := by omega
                          subst M8
                          go_wp2_with fail
                          go_meet
                          case rel => exact ⟨_, mkF_of (by omega) (by omega) (by omega) (by omega) (by omega) (by omega) (fun h => absurd h (by omega)), HW0.out _ rfl⟩
          case rest =>
            obtain ⟨⟨gk, gn, gf, gt⟩, hMF, hbc, hgc⟩ := hcut
            have HC := Lib.hid (And.intro (HS.out.below hbc) (And.intro hMF hgc))
            have x1 : wc.cell? ⟨Gb, 1, none⟩ = some (.slice fa j fc) := cell_of_row _ _ _ _ _ _ HC.out.1.g
            have w0 : wc.cell? ⟨wr.heap.size, 0, none⟩ = some (.int .i64 gk) := cell_of_row _ _ _ _ _ _ hgc
            have w1 : wc.cell? ⟨wr.heap.size, 1, none⟩ = some (.int .i64 gn) := cell_of_row _ _ _ _ _ _ hgc
            have w2 : wc.cell? ⟨wr.heap.size, 2, none⟩ = some (.int .i64 gf) := cell_of_row _ _ _ _ _ _ hgc
            have w3 : wc.cell? ⟨wr.heap.size, 3, none⟩ = some (.string gt) := cell_of_row _ _ _ _ _ _ hgc
            have lG2 := lt_of_heap HC.out.1.g
            have HA : Hid (MS w (wc.alloc (.cells (fldC ⟨gk, gn, gf, gt⟩).toArray 56)) w.heap.size Yb Gb y0 y1 y2 y3 ID (.slice ua k uc) L vs j fs (.slice fa j fc) ∧ (wc.alloc (.cells (fldC ⟨gk, gn, gf, gt⟩).toArray 56)).heap[wc.heap.size]? = some (.cells (fldC ⟨gk, gn, gf, gt⟩).toArray 56 (0, 0))) := Lib.hid ⟨HC.out.1.below (bx _), heap_alloc_new _ _⟩
            clear HS HW0 hbc hgc hMF z1 e3
            go_wp2_with (at_builtin; refine wpList_append_fld rfl (.tmp 169) (.tmp 171) rfl (.slice fa j fc) j (flat fs) rfl (ownsRow_lower HA.out.1.row (Nat.zero_le _)) (by omega) wc.heap.size ⟨gk, gn, gf, gt⟩ rfl HA.out.2 ?_; intro v1 wA hGr; obtain ⟨⟨a1, cc1, rfl⟩, ⟨p1, p2⟩, p3, p4⟩ := HA.out.1.grew HC.out.2.1 hGr)
            exact ⟨⟨j + 1, fs ++ [⟨gk, gn, gf, gt⟩], _, by omega, by go_num, Lib.hid p4⟩, by simp [intOf]; omega⟩
        · have cg0 : wr.cell? ⟨Gb, 0, none⟩ = some (.int .i64 ID) := cell_of_row _ _ _ _ _ _ HS.out.g
          have HR : Hid (RowM wr (.slice ua k uc) L vs) := Lib.hid HS.out.m.rowM
          have hFA : FldsAt wr (.slice fa j fc) fs := by
            have h := HS.out.row
            rw [← HS.out.fl] at h
            have h2 := FldsAt.of_own h
            rw [HS.out.fl] at h2
            exact h2
          have HFA : Hid (FldsAt wr (.slice fa j fc) fs ∧ ∀ g, (Value.slice fa j fc).ownBlock = some g → g < wr.heap.size) := Lib.hid ⟨hFA, fun g hg => own_lt HS.out.row hg⟩
          have hLk2 : 0 + L.length ≤ 1000 := by omega
          clear hFA e3
          go_wp2_with fail
          go_cut [13] from 174 to 179 (fun nx wx => ∃ v1, nx = v1 ∧ Hid (Cp wr wx v1 (L ++ [⟨ID, fs⟩]) (vs ++ [.slice fa j fc])))
          case first =>
            as_aux_lemma =>
              go_region_law (first
                | (refine step_append_fmt rfl (.tmp 176) (.tmp 178) rfl v1 L.length (flatM L vs) rfl ?_ (by omega) _ ID (.slice fa j fc) rfl rfl ?_ ?_
                   · first | exact hC1.row.row | exact (hC1.below (bx _)).row.row | exact (hC1.below (bx _).drew).row.row
                   · first | exact heap_alloc_new _ _ | exact (hK1 _ (by simp <;> omega) (by omega)).trans (heap_alloc2_new _ _ _) | exact (hK1 _ (by simp <;> omega) (by omega)).trans (heap_alloc2_old _ _ _)
                   intro v2 wB hG2
                   have hF : Cp wr wB v2 (L ++ [⟨ID, fs⟩]) (vs ++ [.slice fa j fc]) := by first | exact cp_snoc hC1 HFA.out.1 HFA.out.2 hG2 | exact cp_snoc (hC1.below (bx _)) HFA.out.1 HFA.out.2 hG2 | exact cp_snoc (hC1.below (bx _).drew) HFA.out.1 HFA.out.2 hG2)
                | (refine step_append_rowM rfl (.tmp 174) (.tmp 175) rfl _ 0 [] rfl _ L vs rfl ?_ ?_ hLk2 ?_
                   · first | exact own_empty wr | exact own_empty2 wr _ | exact ownsRow_below (own_empty wr) (bx _).drew
                   · first | exact HR.out.below (bx _).drew | exact HR.out.below ((bx _).alloc (by simp) _).drew
                   intro v1 wA hG1
                   obtain ⟨hC1, hK1⟩ := cp_of_copy HR.out (by first | exact (bx _).drew | exact ((bx _).alloc (by simp) _).drew) (by omega) hG1
                   have x0 : wA.cell? ⟨Gb, 0, none⟩ = some (.int .i64 ID) := (hC1.b.cell (p := ⟨Gb, 0, none⟩) lG).trans cg0
                   have x1 : wA.cell? ⟨Gb, 1, none⟩ = some (.slice fa j fc) := (hC1.b.cell (p := ⟨Gb, 1, none⟩) lG).trans z1))
              all_goals
                go_wp2_with fail
                go_meet
                case rel => exact ⟨_, rfl, Lib.hid hF⟩
          case rest =>
            as_aux_lemma =>
              obtain ⟨v1, rfl, HC⟩ := hcut
              obtain ⟨g1, c1, rfl, d1, d2⟩ := HC.out.slice_ (n := k + 1) (by rw [List.length_append, hLk]; rfl) (by omega)
              have hIL : IntsL (L ++ [⟨ID, fs⟩]) := fun i hi => by
                rcases getD_snoc (z := zm) hi with ⟨h1, e⟩ | ⟨_, e⟩
                · rw [e]; exact HMK.out.ints i h1
                · rw [e]; exact ⟨by show _ ≤ ID ∧ ID ≤ _; omega, fun q hq => (HS.out.each q (by have := HS.out.fl; have hq2 : q < fs.length := hq; omega)).ints⟩
              obtain ⟨ok, hok⟩ : ∃ ok, vd (L ++ [(⟨ID, fs⟩ : Fm)]) = ok := ⟨_, rfl⟩
              have HVA := Lib.hid (rValid_any _ (L ++ [⟨ID, fs⟩]) ok wc HC.out.fms hIL (by rw [List.length_append, hLk]; simp; omega) hok)
              have HOK := Lib.hid hok
              clear hok hIL cg0
              go_wp2_with fail
              refine HVA.out.mono ?_
              rintro e w1 ⟨rfl, hB⟩
              have hb1 : Below wr.heap.size wr w1 := HC.out.b.trans (hB.mono HC.out.b.size)
              have HB1 := Lib.hid (And.intro hb1 hB)
              clear hB hb1 HVA
              cases ok with
              | true =>
                go_wp2_with fail
                have hlo : w.heap.size ≤ wr.heap.size := HS.out.hB
                have hown : w1.ownsRow w.heap.size 52 2 (.slice (some ⟨g1, 0, none⟩) (k + 1) c1) (L ++ [(⟨ID, fs⟩ : Fm)]).length (flatM (L ++ [(⟨ID, fs⟩ : Fm)]) (vs ++ [.slice fa j fc])) := ownsRow_raise (ownsRow_below HC.out.row.row HB1.out.2) fun g hg => Nat.le_trans hlo (HC.out.lo g hg)
                have hvsl : vs.length = L.length := HS.out.m.vsl
                have hM2 : Mk (L ++ [⟨ID, fs⟩]) := HMK.out.snoc (vd_iff.1 HOK.out) (by omega) (by rw [hLk]; exact ⟨hIDa, hIDb⟩) (by show fs.length ≤ 6; have := HS.out.fl; omega) fun q hq => HS.out.each q (by have := HS.out.fl; have hq2 : q < fs.length := hq; omega)
                have hO2 : OwnM w1 w.heap.size (.slice (some ⟨g1, 0, none⟩) (k + 1) c1) (L ++ [⟨ID, fs⟩]) (vs ++ [.slice fa j fc]) := by
                  refine ⟨hown, by simp [hvsl], fun i hi => ?_⟩
                  rcases getD_snoc (z := zm) hi with ⟨h1, e⟩ | ⟨rfl, e⟩
                  · rw [e, getD_snoc_lt (by omega)]
                    exact ownsRow_below (HS.out.m.each i h1) HB1.out.1
                  · rw [e, ← hvsl, getD_snoc_eq]
                    have h := ownsRow_below HS.out.row HB1.out.1
                    show w1.ownsRow w.heap.size 56 4 (.slice fa j fc) fs.length (flat fs)
                    rw [HS.out.fl]
                    exact h
                have HE := Lib.hid (And.intro (HS.out.b.trans (HB1.out.1.mono hlo)) (And.intro hM2 (And.intro (show (L ++ [(⟨ID, fs⟩ : Fm)]).length = k + 1 by rw [List.length_append, hLk]; rfl) hO2)))
                clear hown hM2 hO2 hvsl hlo
                go_roundw
                case rel => exact ⟨k + 1, L ++ [⟨ID, fs⟩], _, by omega, by omega, by go_num, HE⟩
                case measure => simp [intOf]; omega
              | false =>
                have cg0 : w1.cell? ⟨Gb, 0, none⟩ = some (.int .i64 ID) := cell_of_row _ _ _ _ _ _ ((HB1.out.1.block _ lG).trans HS.out.g)
                have cg1 : w1.cell? ⟨Gb, 1, none⟩ = some (.slice fa j fc) := cell_of_row _ _ _ _ _ _ ((HB1.out.1.block _ lG).trans HS.out.g)
                have zg1 : w1.frozen? ⟨Gb, 1, none⟩ = false := Blk.frozen (w := w1) ((HB1.out.1.block _ lG).trans HS.out.g) 1
                have lG1 : Gb < w1.heap.size := Nat.lt_of_lt_of_le lG HB1.out.1.size
                obtain ⟨W2, hW2⟩ : ∃ W2, W2 = ((w1.setCell ⟨Gb, 1, none⟩ (.slice (some ⟨w1.heap.size, 0, none⟩) 1 1)).alloc (.cells #[.int .i64 3, .int .i64 3, .int .i64 (-1), .string ⟨#[]⟩] 56)).alloc (.cells #[.int .i64 ID, .slice (some ⟨w1.heap.size, 0, none⟩) 1 1] 52) := ⟨_, rfl⟩
                have HP := Lib.hid (HS.out.plain_ready HB1.out.1 hW2)
                have HW2 := Lib.hid hW2
                have hM2 : Mk (L ++ [(⟨ID, [plainF]⟩ : Fm)]) := HMK.out.plain (by omega) (by rw [hLk]; exact ⟨hIDa, hIDb⟩)
                have HM2 := Lib.hid hM2
                clear hW2 hM2
                go_wp2_with (at_builtin; rw [← HW2.out]; refine wpList_append_fmt rfl (.tmp 187) (.tmp 189) rfl (.slice ua k uc) L.length (flatM L vs) rfl HP.out.1 (by omega) (w1.heap.size + 1) ID (.slice (some ⟨w1.heap.size, 0, none⟩) 1 1) rfl rfl HP.out.2.1 ?_; intro v2 wZ hG; have HE := Lib.hid (And.intro (HP.out.2.2 v2 wZ hG).2 (And.intro HM2.out (And.intro (show (L ++ [(⟨ID, [plainF]⟩ : Fm)]).length = k + 1 by rw [List.length_append, hLk]; rfl) (HP.out.2.2 v2 wZ hG).1))); clear hG)
                go_roundw
                case rel => exact ⟨k + 1, L ++ [⟨ID, [plainF]⟩], _, by omega, by omega, by go_num, HE⟩
                case measure => simp [intOf]; omega
    · have HE := Lib.hid (And.intro HI.out.1 (And.intro HI.out.2.1 HI.out.2.2.2))
      clear HI
      by_cases hk7 : k < n
      · obtain rfl : k = 6 := by omega
        go_wp2_with fail
        go_ret
        exact ⟨⟨_, L, rfl, HE.out.2.1, vs, HE.out.2.2⟩, HE.out.1⟩
      · go_wp2_with fail
        go_ret
        exact ⟨⟨_, L, rfl, HE.out.2.1, vs, HE.out.2.2⟩, HE.out.1⟩
end RefI
end Go.Proofs.YtdndmhlmbpgdeaaGreatDoor
