/- The law's bent: a small table again. Conditions: the formats are readable, their numbers are ints; so are the five. -/
import Derived.Test.YtcnokccgdiodlaaGreatDoorLawArg
import Derived.Test.YtcnokccgdiodlaaGreatDoorLawText
import Derived.Lib.QuietBelow
import Derived.Deep.RegionLaw
namespace Go.Proofs.YtcnokccgdiodlaaGreatDoor
open Go.RowKit Go.Shelf Fx Go.Sort

/-- A format of a small table. -/
def SmM (f : Fm) : Prop := (-9223372036854775808 ≤ f.id ∧ f.id ≤ 9223372036854775807) ∧ f.fs.length ≤ 19 ∧ ∀ k, k < f.fs.length → SmF (f.fs.getD k zf)
theorem Sm.at_ {l : List Fm} (h : Sm l) {i : Nat} (hi : i < l.length) : SmM (l.getD i zm) := ⟨h.id i hi, h.fs i hi, h.each i hi⟩
/-- A small table can be read. -/
def ReadSm (w : World) (u : Value) : Prop := ∃ L, FmsAt (· < w.heap.size) w u L ∧ Sm L
theorem fms_build {w : World} {b n cap : Nat} (h1 : 1 ≤ n) (h2 : n ≤ cap) (h3 : cap ≤ maxLen) (h4 : b < w.heap.size) (h5 : n ≤ 62) (h : ∀ i, i < n → ∃ f : Fm, (∃ v, FmAt (· < w.heap.size) w b (i * 2) f v) ∧ SmM f) : ReadSm w (.slice (some ⟨b, 0, none⟩) n cap) := by
  obtain ⟨L, hL, hP⟩ := exists_list zm n h
  refine ⟨L, .inr ⟨b, 0, cap, by rw [hL], by omega, by omega, h3, h4, h4, fun i hi => ?_⟩, ⟨by omega, fun i hi => (hP i (by omega)).2.1, fun i hi => (hP i (by omega)).2.2.1, fun i hi => (hP i (by omega)).2.2.2⟩⟩
  rw [Nat.zero_add]
  exact (hP i (by omega)).1
/-- What a store into a field may store. -/
def FitsC (c : Nat) (val : Value) : Prop := (c < 3 ∧ ∃ z : Int, val = .int .i64 z ∧ -9223372036854775808 ≤ z ∧ z ≤ 9223372036854775807) ∨ (c = 3 ∧ ∃ t : ByteArray, val = .string t ∧ t.size ≤ 20)
/-- Fields behind a store into one of them, or into another block. -/
theorem flds_set {w : World} {B fb k c n : Nat} {v val : Value} {fs : List Fld} (h : w.ownsRow B 56 4 v n (flat fs)) (hn : fs.length = n) (hs : ∀ j, j < fs.length → SmF (fs.getD j zf)) (hc : FitsC c val) :
    ∃ fs', FldsAt (w.setCell ⟨fb, k * 4 + c, none⟩ val) v fs' ∧ fs'.length = fs.length ∧ ∀ j, j < fs'.length → SmF (fs'.getD j zf) := by
  have hsz : (w.setCell ⟨fb, k * 4 + c, none⟩ val).heap.size = w.heap.size := by simp [World.setCell]
  subst hn
  rcases h.2 with ⟨rfl, h0⟩ | ⟨g, cap, cur, rfl, hg, hh, hl, hm, hcs, ht⟩
  · have e : fs = [] := List.eq_nil_of_length_eq_zero h0
    subst e
    exact ⟨[], .inl ⟨none, 0, rfl, rfl⟩, rfl, fun j hj => by simp at hj⟩
  · rcases Nat.eq_zero_or_pos fs.length with h0 | h0
    · have e : fs = [] := List.eq_nil_of_length_eq_zero h0
      subst e
      exact ⟨[], .inl ⟨_, _, rfl, rfl⟩, rfl, fun j hj => by simp at hj⟩
    · by_cases hgb : g = fb
      · subst hgb
        have hb2 : (w.setCell ⟨g, k * 4 + c, none⟩ val).heap[g]? = some (.cells (cur.setIfInBounds (k * 4 + c) val) 56 (0, 0)) := Blk.set_ (w := w) hh _ _
        have old : ∀ j q, j < fs.length → q < 4 → cur[j * 4 + q]? = (fldC (fs.getD j zf))[q]? := fun j q hj hq => by
          have e := flat_get hj q hq
          rw [← e, ← ht, List.getElem?_take, if_pos (by omega)]
          simp
        have cel : ∀ j q, (w.setCell ⟨g, k * 4 + c, none⟩ val).cell? ⟨g, j * 4 + q, none⟩ = (cur.setIfInBounds (k * 4 + c) val)[j * 4 + q]? := fun j q => cell_of_row _ _ _ _ _ _ hb2
        have c4 : c < 4 := by rcases hc with h | h; omega; omega
        have same : ∀ j q, j < fs.length → q < 4 → (j ≠ k ∨ q ≠ c) → (w.setCell ⟨g, k * 4 + c, none⟩ val).cell? ⟨g, j * 4 + q, none⟩ = (fldC (fs.getD j zf))[q]? := fun j q hj hq hne => by
          rw [cel, Array.getElem?_setIfInBounds_ne (by omega)]
          exact old j q hj hq
        have hit : ∀ j, j < fs.length → j = k → (w.setCell ⟨g, k * 4 + c, none⟩ val).cell? ⟨g, j * 4 + c, none⟩ = some val := fun j hj e => by
          subst e
          rw [cel, Array.getElem?_setIfInBounds_self_of_lt]
          have : (j * 4 + c) < cur.size := by
            have h2 : fs.length * 4 ≤ cap * 4 := by omega
            omega
          exact this
        have key : ∀ j, j < fs.length → ∃ f : Fld, FldAt (w.setCell ⟨g, k * 4 + c, none⟩ val) g (0 + j * 4) f ∧ SmF f := fun j hj => by
          have hS := hs j hj
          rw [Nat.zero_add]
          have s0 := same j 0 hj (by omega)
          have s1 := same j 1 hj (by omega)
          have s2 := same j 2 hj (by omega)
          have s3 := same j 3 hj (by omega)
          rw [Nat.add_zero] at s0
          by_cases e : j = k
          · have hv := hit j hj e
            rcases hc with ⟨hc3, z, rfl, z1, z2⟩ | ⟨rfl, t, rfl, t1⟩
            · obtain rfl | rfl | rfl : c = 0 ∨ c = 1 ∨ c = 2 := by omega
              · rw [Nat.add_zero] at hv
                exact ⟨⟨z, (fs.getD j zf).n, (fs.getD j zf).frm, (fs.getD j zf).text⟩, ⟨hv, s1 (.inr (by omega)), s2 (.inr (by omega)), s3 (.inr (by omega))⟩, ⟨⟨z1, z2, hS.ints.n1, hS.ints.n2, hS.ints.f1, hS.ints.f2, hS.ints.t⟩, hS.t⟩⟩
              · exact ⟨⟨(fs.getD j zf).kind, z, (fs.getD j zf).frm, (fs.getD j zf).text⟩, ⟨s0 (.inr (by omega)), hv, s2 (.inr (by omega)), s3 (.inr (by omega))⟩, ⟨⟨hS.ints.k1, hS.ints.k2, z1, z2, hS.ints.f1, hS.ints.f2, hS.ints.t⟩, hS.t⟩⟩
              · exact ⟨⟨(fs.getD j zf).kind, (fs.getD j zf).n, z, (fs.getD j zf).text⟩, ⟨s0 (.inr (by omega)), s1 (.inr (by omega)), hv, s3 (.inr (by omega))⟩, ⟨⟨hS.ints.k1, hS.ints.k2, hS.ints.n1, hS.ints.n2, z1, z2, hS.ints.t⟩, hS.t⟩⟩
            · exact ⟨⟨(fs.getD j zf).kind, (fs.getD j zf).n, (fs.getD j zf).frm, t⟩, ⟨s0 (.inr (by omega)), s1 (.inr (by omega)), s2 (.inr (by omega)), hv⟩, ⟨⟨hS.ints.k1, hS.ints.k2, hS.ints.n1, hS.ints.n2, hS.ints.f1, hS.ints.f2, by show t.size ≤ _; omega⟩, t1⟩⟩
          · exact ⟨fs.getD j zf, ⟨s0 (.inl e), s1 (.inl e), s2 (.inl e), s3 (.inl e)⟩, hS⟩
        obtain ⟨fs', hl', hP⟩ := exists_list zf fs.length key
        exact ⟨fs', .inr ⟨g, 0, cap, by rw [hl'], by omega, by omega, hm, by rw [hsz]; exact lt_of_heap hh, fun i hi => (hP i (by omega)).1⟩, hl', fun j hj => (hP j (by omega)).2⟩
      · exact ⟨fs, (FldsAt.of_own h).keep (by rw [hsz]; exact Nat.le_refl _) fun b hb => by
          simp only [Value.ownBlock, Option.some.injEq] at hb
          exact Below.heap_setCell _ _ _ _ (by show b ≠ fb; omega), rfl, hs⟩
theorem OwnM.row_cells {w : World} {B : Nat} {u : Value} {L : List Fm} {vs : List Value} (h : OwnM w B u L vs) {b n cap : Nat} (hu : u = .slice (some ⟨b, 0, none⟩) n cap) (hn : L.length = n) {i : Nat} (hi : i < n) :
    w.cell? ⟨b, i * 2, none⟩ = some (.int .i64 (L.getD i zm).id) ∧ w.cell? ⟨b, i * 2 + 1, none⟩ = some (vs.getD i undef) ∧ n ≤ cap ∧ cap ≤ maxLen ∧ ∃ cur, w.heap[b]? = some (.cells cur 34 (0, 0)) ∧ n * 2 ≤ cur.size := by
  subst hn
  rcases h.row.2 with ⟨e, h0⟩ | ⟨g, cap', cur, e, hg, hh, hl, hm, hcs, ht⟩
  · omega
  · rw [hu] at e
    cases e
    have hcell : ∀ j, j < L.length * 2 → w.cell? ⟨b, j, none⟩ = (flatM L vs)[j]? := fun j hj => by
      rw [cell_of_row w b _ cur _ (0, 0) hh, ← ht, List.getElem?_take, if_pos (by omega)]
      simp
    exact ⟨(hcell _ (by omega)).trans (flatM_get h.vsl hi).1, (hcell _ (by omega)).trans (flatM_get h.vsl hi).2, hl, hm, cur, hh, by omega⟩
/-- A store into a field leaves a small table. -/
theorem OwnM.set_field {w : World} {B : Nat} {u : Value} {L : List Fm} {vs : List Value} (h : OwnM w B u L vs) (hs : Sm L) {b n cap : Nat} (hu : u = .slice (some ⟨b, 0, none⟩) n cap) (hn : L.length = n) (h1 : 1 ≤ n) {fb k c : Nat} {val : Value} (hc : FitsC c val) (hne : fb ≠ b) :
    ReadSm (w.setCell ⟨fb, k * 4 + c, none⟩ val) u := by
  obtain ⟨_, _, c1, c2, cur, hh, _⟩ := h.row_cells hu hn (i := 0) (by omega)
  have hsz : (w.setCell ⟨fb, k * 4 + c, none⟩ val).heap.size = w.heap.size := by simp [World.setCell]
  rw [hu]
  refine fms_build h1 c1 c2 (by rw [hsz]; exact lt_of_heap hh) (by have := hs.few; omega) fun i hi => ?_
  obtain ⟨q0, q1, _⟩ := h.row_cells hu hn hi
  obtain ⟨fs', f1, f2, f3⟩ := flds_set (fb := fb) (k := k) (h.each i (by omega)) rfl (hs.each i (by omega)) hc
  refine ⟨⟨(L.getD i zm).id, fs'⟩, ⟨vs.getD i undef, ?_, ?_, f1, fun g hg => by rw [hsz]; exact own_lt (h.each i (by omega)) hg⟩, hs.id i (by omega), by show fs'.length ≤ 19; rw [f2]; exact hs.fs i (by omega), f3⟩
  · rw [World.cell?_setCell_far _ _ _ _ (by show fb ≠ b; exact hne)]; exact q0
  · rw [World.cell?_setCell_far _ _ _ _ (by show fb ≠ b; exact hne)]; exact q1
/-- A store of an ID leaves a small table. -/
theorem OwnM.set_id {w : World} {B : Nat} {u : Value} {L : List Fm} {vs : List Value} (h : OwnM w B u L vs) (hs : Sm L) {b n cap i : Nat} (hu : u = .slice (some ⟨b, 0, none⟩) n cap) (hn : L.length = n) (h1 : 1 ≤ n) {z : Int} (z1 : -9223372036854775808 ≤ z) (z2 : z ≤ 9223372036854775807) :
    ReadSm (w.setCell ⟨b, i * 2, none⟩ (.int .i64 z)) u := by
  obtain ⟨_, _, c1, c2, cur, hh, hcz⟩ := h.row_cells hu hn (i := 0) (by omega)
  have hsz : (w.setCell ⟨b, i * 2, none⟩ (.int .i64 z)).heap.size = w.heap.size := by simp [World.setCell]
  have hb2 : (w.setCell ⟨b, i * 2, none⟩ (.int .i64 z)).heap[b]? = some (.cells (cur.setIfInBounds (i * 2) (.int .i64 z)) 34 (0, 0)) := Blk.set_ (w := w) hh _ _
  rw [hu]
  refine fms_build h1 c1 c2 (by rw [hsz]; exact lt_of_heap hh) (by have := hs.few; omega) fun j hj => ?_
  obtain ⟨q0, q1, _⟩ := h.row_cells hu hn hj
  have hF : FldsAt (w.setCell ⟨b, i * 2, none⟩ (.int .i64 z)) (vs.getD j undef) (L.getD j zm).fs := (FldsAt.of_own (ownsRow_lower (h.each j (by omega)) (Nat.zero_le _))).keep (by rw [hsz]; exact Nat.le_refl _) fun g hg => Below.heap_setCell _ _ _ _ (fun e => by
    obtain ⟨cur', h2⟩ := own_heap (h.each j (by omega)) hg
    have e2 : g = b := e
    rw [e2, hh] at h2
    injection h2 with h2
    injection h2 with _ h3
    exact absurd h3 (by decide))
  have hq1 : (w.setCell ⟨b, i * 2, none⟩ (.int .i64 z)).cell? ⟨b, j * 2 + 1, none⟩ = some (vs.getD j undef) := by
    rw [cell_of_row _ _ _ _ _ _ hb2, Array.getElem?_setIfInBounds_ne (by omega), ← cell_of_row w b _ cur _ _ hh]
    exact q1
  have hown : ∀ g, (vs.getD j undef).ownBlock = some g → g < (w.setCell ⟨b, i * 2, none⟩ (.int .i64 z)).heap.size := fun g hg => by rw [hsz]; exact own_lt (h.each j (by omega)) hg
  by_cases e : j = i
  · subst e
    refine ⟨⟨z, (L.getD j zm).fs⟩, ⟨vs.getD j undef, ?_, hq1, hF, hown⟩, ⟨z1, z2⟩, hs.fs j (by omega), hs.each j (by omega)⟩
    rw [cell_of_row _ _ _ _ _ _ hb2, Array.getElem?_setIfInBounds_self_of_lt (by omega)]
  · refine ⟨L.getD j zm, ⟨vs.getD j undef, ?_, hq1, hF, hown⟩, hs.at_ (by omega)⟩
    rw [cell_of_row _ _ _ _ _ _ hb2, Array.getElem?_setIfInBounds_ne (by omega), ← cell_of_row w b _ cur _ _ hh]
    exact q0
/-- A store of other fields leaves a small table. -/
theorem OwnM.set_fs {w W : World} {B : Nat} {u x : Value} {L : List Fm} {vs : List Value} (h : OwnM w B u L vs) (hs : Sm L) {b n cap i : Nat} {fs : List Fld} (hu : u = .slice (some ⟨b, 0, none⟩) n cap) (hn : L.length = n) (h1 : 1 ≤ n) (hsz0 : w.heap.size ≤ W.heap.size)
    (hW : ∀ (g : Nat) (cur : Array Value), w.heap[g]? = some (Obj.cells cur 34 (0, 0)) → W.heap[g]? = w.heap[g]?) (ho : ∀ (j g : Nat), j < n → j ≠ i → (vs.getD j undef).ownBlock = some g → W.heap[g]? = w.heap[g]?) (hx : FldsAt W x fs) (hxo : ∀ g : Nat, x.ownBlock = some g → g < W.heap.size ∧ g ≠ b) (hl : fs.length ≤ 19) (he : ∀ k, k < fs.length → SmF (fs.getD k zf)) :
    ReadSm (W.setCell ⟨b, i * 2 + 1, none⟩ x) u := by
  obtain ⟨_, _, c1, c2, cur, hh, hcz⟩ := h.row_cells hu hn (i := 0) (by omega)
  have hhW : W.heap[b]? = some (.cells cur 34 (0, 0)) := (hW b cur hh).trans hh
  have hsz : (W.setCell ⟨b, i * 2 + 1, none⟩ x).heap.size = W.heap.size := by simp [World.setCell]
  have hb2 : (W.setCell ⟨b, i * 2 + 1, none⟩ x).heap[b]? = some (.cells (cur.setIfInBounds (i * 2 + 1) x) 34 (0, 0)) := Blk.set_ (w := W) hhW _ _
  rw [hu]
  refine fms_build h1 c1 c2 (by rw [hsz]; exact lt_of_heap hhW) (by have := hs.few; omega) fun j hj => ?_
  obtain ⟨q0, q1, _⟩ := h.row_cells hu hn hj
  have hq0 : (W.setCell ⟨b, i * 2 + 1, none⟩ x).cell? ⟨b, j * 2, none⟩ = some (.int .i64 (L.getD j zm).id) := by
    rw [cell_of_row _ _ _ _ _ _ hb2, Array.getElem?_setIfInBounds_ne (by omega), ← cell_of_row w b _ cur _ _ hh]
    exact q0
  by_cases e : j = i
  · subst e
    refine ⟨⟨(L.getD j zm).id, fs⟩, ⟨x, hq0, ?_, hx.keep (by rw [hsz]; exact Nat.le_refl _) fun g hg => Below.heap_setCell _ _ _ _ (hxo g hg).2, fun g hg => by rw [hsz]; exact (hxo g hg).1⟩, hs.id j (by omega), hl, he⟩
    rw [cell_of_row _ _ _ _ _ _ hb2, Array.getElem?_setIfInBounds_self_of_lt (by omega)]
  · have ne : ∀ g, (vs.getD j undef).ownBlock = some g → g ≠ b := fun g hg e2 => by
      obtain ⟨cur', h2⟩ := own_heap (h.each j (by omega)) hg
      rw [e2, hh] at h2
      injection h2 with h2
      injection h2 with _ h3
      exact absurd h3 (by decide)
    refine ⟨L.getD j zm, ⟨vs.getD j undef, hq0, ?_, (FldsAt.of_own (ownsRow_lower (h.each j (by omega)) (Nat.zero_le _))).keep (by rw [hsz]; exact hsz0) fun g hg => (Below.heap_setCell _ _ _ _ (ne g hg)).trans (ho j g hj e hg), fun g hg => by rw [hsz]; exact Nat.lt_of_lt_of_le (own_lt (h.each j (by omega)) hg) hsz0⟩, hs.at_ (by omega)⟩
    rw [cell_of_row _ _ _ _ _ _ hb2, Array.getElem?_setIfInBounds_ne (by omega), ← cell_of_row w b _ cur _ _ hh]
    exact q1
theorem FldsAt.take {w : World} {a : Option Addr} {n c k : Nat} {fs : List Fld} (h : FldsAt w (.slice a n c) fs) (hk : k ≤ fs.length) : FldsAt w (.slice a k c) (fs.take k) := by
  rcases h with ⟨a', c', e, rfl⟩ | ⟨b, off, cap, e, h1, h2, h3, h4, h5⟩
  · cases e
    have : k = 0 := by simpa using hk
    subst this
    exact .inl ⟨_, _, rfl, rfl⟩
  · cases e
    rcases Nat.eq_zero_or_pos k with rfl | h0
    · exact .inl ⟨_, _, rfl, List.take_zero⟩
    · have hl : (fs.take k).length = k := by rw [List.length_take]; omega
      exact .inr ⟨b, off, c, by rw [hl], by omega, by omega, h3, h4, fun i hi => by
        rw [hl] at hi
        rw [getD_take hi]
        exact h5 i (by omega)⟩
theorem ReadSm.below {w w' : World} {u : Value} (h : ReadSm w u) (hb : Below w.heap.size w w') : ReadSm w' u := by
  obtain ⟨L, h1, h2⟩ := h
  exact ⟨L, h1.below hb, h2⟩
theorem lpickB_any (c n r : Int) (w : World) (c1 : -9223372036854775808 ≤ c) (c2 : c ≤ 9223372036854775807) (n1 : 1 ≤ n) (n2 : n ≤ 9223372036854775807) (hr : pickI c n = r) :
    Calls Tryz.prog 15 #[.int .i64 c, .int .i64 n] w fun e w' => e = .returned (.int .i64 r) ∧ Below w.heap.size w w' :=
  (lpick_any c n r w c1 c2 n1 n2 hr).mono fun _ _ ⟨h1, h2⟩ => ⟨h1, h2 ▸ Below.refl _ _⟩
/-- Five ints. -/
structure Five (h0 h1 h2 h3 h4 : Int) : Prop where
  b0 : -9223372036854775808 ≤ h0 ∧ h0 ≤ 9223372036854775807
  b1 : -9223372036854775808 ≤ h1 ∧ h1 ≤ 9223372036854775807
  b2 : -9223372036854775808 ≤ h2 ∧ h2 ≤ 9223372036854775807
  b3 : -9223372036854775808 ≤ h3 ∧ h3 ≤ 9223372036854775807
  b4 : -9223372036854775808 ≤ h4 ∧ h4 ≤ 9223372036854775807
set_option maxRecDepth 100000 in
set_option maxHeartbeats 4000000 in
theorem bent_any (v : Value) (l : List Fm) (h0 h1 h2 h3 h4 : Int) (w : World) (hV : ArgM w v l) (hI : IntsL l) (hF : Five h0 h1 h2 h3 h4) :
    Calls Tryz.prog 14 #[v, .agg #[.int .i64 h0, .int .i64 h1, .int .i64 h2, .int .i64 h3, .int .i64 h4]] w fun e w' => (∃ u, e = .returned u ∧ ReadSm w' u) ∧ Below w.heap.size w w' := by
  have HV := Lib.hid (And.intro hV (And.intro hI hF))
  clear hV hI hF
  go_enter Tryz.func14, Tryz.ntmps14
  go_wp2_with fail
  obtain ⟨w0, hw0⟩ : ∃ w0, w0 = w.alloc (.cells #[.int .i64 h0, .int .i64 h1, .int .i64 h2, .int .i64 h3, .int .i64 h4] 24) := ⟨_, rfl⟩
  rw [← hw0]
  obtain ⟨HB, hHB⟩ : ∃ HB, HB = w.heap.size := ⟨_, rfl⟩
  rw [← hHB]
  have H0 : Hid (Below w.heap.size w w0 ∧ w0.heap[HB]? = some (.cells #[.int .i64 h0, .int .i64 h1, .int .i64 h2, .int .i64 h3, .int .i64 h4] 24 (0, 0))) := Lib.hid ⟨by rw [hw0]; exact bx _, by rw [hw0, hHB]; exact heap_alloc_new _ _⟩
  clear hw0
  refine (few_any v l w0 (HV.out.1.below H0.out.1) HV.out.2.1).mono ?_
  rintro e w1 ⟨⟨u, L, rfl, hS, h18, vs, hO, hD⟩, hB⟩
  have H1 : Hid (Below w.heap.size w w1 ∧ w1.heap[HB]? = some (.cells #[.int .i64 h0, .int .i64 h1, .int .i64 h2, .int .i64 h3, .int .i64 h4] 24 (0, 0))) := Lib.hid ⟨H0.out.1.trans (hB.mono H0.out.1.size), (hB.block _ (lt_of_heap H0.out.2)).trans H0.out.2⟩
  have HW0 : Hid (w.heap.size ≤ w0.heap.size) := Lib.hid H0.out.1.size
  obtain ⟨m, hm⟩ : ∃ m, L.length = m := ⟨_, rfl⟩
  have hcases : u = .slice none 0 0 ∧ m = 0 ∨ ∃ b cp, u = .slice (some ⟨b, 0, none⟩) m cp ∧ m ≤ cp ∧ cp ≤ 9223372036854775807 := by
    rcases hO.row.2 with ⟨h, h0⟩ | ⟨g, cap, cur, rfl, _, _, hl, hx, _⟩
    · exact .inl ⟨h, by omega⟩
    · exact .inr ⟨g, cap, by rw [hm], by omega, by unfold maxLen at hx; omega⟩
  have HO := Lib.hid (And.intro hO (And.intro hS (And.intro h18 (And.intro hD hm))))
  have hm62 : m ≤ 62 := by rw [← hm]; exact hS.few
  clear hB hO hS h18 hD H0 hm hHB
  by_cases hm0 : m = 0
  · subst hm0
    have hlen0 : ∃ x c, u = .slice x 0 c := by
      rcases hcases with ⟨h, _⟩ | ⟨b, cp, h, _⟩
      · exact ⟨_, _, h⟩
      · exact ⟨_, _, h⟩
    obtain ⟨x, c, rfl⟩ := hlen0
    go_wp2_with fail
    go_ret
    exact ⟨⟨_, rfl, L, HO.out.1.fms, HO.out.2.1⟩, H1.out.1⟩
  · obtain ⟨ub, cp, rfl, hcp1, hcp2⟩ : ∃ b cp, u = .slice (some ⟨b, 0, none⟩) m cp ∧ m ≤ cp ∧ cp ≤ 9223372036854775807 := by
      rcases hcases with ⟨_, h⟩ | h
      · exact absurd h hm0
      · exact h
    obtain ⟨x, hx⟩ : ∃ x, pickI h0 (m : Int) = x := ⟨_, rfl⟩
    have hx0 : 0 ≤ x := by rw [← hx]; exact pickI_lo (by omega)
    have hx1 : x < (m : Int) := by rw [← hx]; exact pickI_hi (by omega)
    obtain ⟨i, rfl⟩ : ∃ q : Nat, x = q := ⟨x.toNat, by omega⟩
    have him : i < m := by omega
    have HX := Lib.hid hx
    have hmi : ((m : Int) == 0) = false := by rw [beq_eq_false_iff_ne]; omega
    clear hx hcases hm0
    have k0 : w1.cell? ⟨HB, 0, none⟩ = some (.int .i64 h0) := cell_of_row _ _ _ _ _ _ H1.out.2
    have k1 : w1.cell? ⟨HB, 1, none⟩ = some (.int .i64 h1) := cell_of_row _ _ _ _ _ _ H1.out.2
    obtain ⟨q0, q1, _, _, ucur, huc, hucs⟩ := HO.out.1.row_cells rfl HO.out.2.2.2.2 him
    have hil : i < L.length := by have := HO.out.2.2.2.2; omega
    have hrow := HO.out.1.each i hil
    obtain ⟨nf, hnf⟩ : ∃ nf, nf = (L.getD i zm).fs.length := ⟨_, rfl⟩
    rw [← hnf] at hrow
    have hnf18 : nf ≤ 18 := by rw [hnf]; exact HO.out.2.2.1 i hil
    obtain ⟨fv, hfv⟩ : ∃ fv, fv = vs.getD i undef := ⟨_, rfl⟩
    rw [← hfv] at hrow q1
    obtain ⟨fa, fc, rfl, hfc⟩ := own_slice hrow
    have luc := lt_of_heap huc
    have HR := Lib.hid (And.intro hrow (And.intro hnf (And.intro hfv huc)))
    clear hnf hfv huc hucs
    by_cases hnf0 : nf = 0
    · subst hnf0
      go_wp2_with fail
      refine (lpick_any h0 _ _ w1 HV.out.2.2.b0.1 HV.out.2.2.b0.2 (by omega) (by omega) HX.out).mono ?_
      rintro e w' ⟨rfl, rfl⟩
      obtain ⟨w1, rfl⟩ : ∃ w1, w1 = w' := ⟨_, rfl⟩
      go_wp2_with fail
      go_ret
      exact ⟨⟨_, rfl, L, HO.out.1.fms, HO.out.2.1⟩, H1.out.1⟩
    · obtain ⟨fb, fcap, e0, hfcap, hfb⟩ : ∃ fb fcap, fa = some ⟨fb, 0, none⟩ ∧ fc = fcap ∧ (w0.heap.size ≤ fb ∧ fb < w1.heap.size ∧ nf ≤ fcap ∧ fcap ≤ 9223372036854775807 ∧ ∃ cur, w1.heap[fb]? = some (.cells cur 56 (0, 0)) ∧ nf * 4 ≤ cur.size) := by
        rcases HR.out.1.2 with ⟨_, h⟩ | ⟨g, cap, cur, e, hg, hh, hl, hx, hcs, _⟩
        · omega
        · cases e
          exact ⟨g, fc, rfl, rfl, hg, lt_of_heap hh, hl, by unfold maxLen at hx; omega, cur, hh, by omega⟩
      subst e0
      subst hfcap
      obtain ⟨hfb0, hfb1, hfb2, hfb3, fcur, hfh, hfcs⟩ := hfb
      obtain ⟨y, hy⟩ : ∃ y, pickI h1 (nf : Int) = y := ⟨_, rfl⟩
      have hy0 : 0 ≤ y := by rw [← hy]; exact pickI_lo (by omega)
      have hy1 : y < (nf : Int) := by rw [← hy]; exact pickI_hi (by omega)
      obtain ⟨k, rfl⟩ : ∃ q : Nat, y = q := ⟨y.toNat, by omega⟩
      have hkn : k < nf := by omega
      have HY := Lib.hid hy
      have hnfi : ((nf : Int) == 0) = false := by rw [beq_eq_false_iff_ne]; omega
      have hne : fb ≠ ub := fun e => by
        rw [e, HR.out.2.2.2] at hfh
        injection hfh with h2
        injection h2 with _ h3
        exact absurd h3 (by decide)
      have HFH := Lib.hid (And.intro hfh (And.intro hfcs hne))
      clear hy hnf0 hfh hfcs
      go_wp2_with fail
      refine (lpick_any h0 _ _ w1 HV.out.2.2.b0.1 HV.out.2.2.b0.2 (by omega) (by omega) HX.out).mono ?_
      rintro e w' ⟨rfl, rfl⟩
      obtain ⟨w1, rfl⟩ : ∃ w1, w1 = w' := ⟨_, rfl⟩
      go_wp2_with fail
      have g0 := fun d os => cell_regrown k1 d os
      have g1 := fun d os => cell_regrown q1 d os
      have HP1 : Hid (∀ d os, Calls Tryz.prog 15 #[.int .i64 h1, .int .i64 (nf : Int)] (grow (redrawn w1 d) os) fun e w' => e = .returned (.int .i64 (k : Int)) ∧ Below (grow (redrawn w1 d) os).heap.size (grow (redrawn w1 d) os) w') := Lib.hid fun d os => lpickB_any h1 _ _ _ HV.out.2.2.b1.1 HV.out.2.2.b1.2 (by omega) (by omega) HY.out
      refine wp_region_quiet_below (by kernel_rfl) (by kernel_rfl) ?_
      repeat (first | go_big_quiet_step (first | (go_at_call 15; exact Calls.regrown_of (HP1.out _ _))) | quiet_step (first | (go_at_call 15; exact Calls.regrown_of (HP1.out _ _))))
      refine wpQuiet_nil ?_
      intro _ hw'
      obtain ⟨⟨dq, osq⟩, hw''⟩ := hw'
      subst hw''
      have hb2 := below_regrown w1 dq osq
      obtain ⟨w2, hw2⟩ : ∃ w2, w2 = grow (redrawn w1 dq) osq := ⟨_, rfl⟩
      rw [← hw2] at hb2 ⊢
      have H2 : Hid (Below w.heap.size w w2 ∧ OwnM w2 w0.heap.size (.slice (some ⟨ub, 0, none⟩) m cp) L vs ∧ w2.heap[HB]? = some (.cells #[.int .i64 h0, .int .i64 h1, .int .i64 h2, .int .i64 h3, .int .i64 h4] 24 (0, 0)) ∧ w2.heap[fb]? = some (.cells fcur 56 (0, 0)) ∧ w2.heap[ub]? = some (.cells ucur 34 (0, 0)) ∧ w2.ownsRow w0.heap.size 56 4 (.slice (some ⟨fb, 0, none⟩) nf fc) nf (flat (L.getD i zm).fs)) := Lib.hid
        ⟨H1.out.1.trans (hb2.mono H1.out.1.size), HO.out.1.below hb2, (hb2.block _ (lt_of_heap H1.out.2)).trans H1.out.2, (hb2.block _ hfb1).trans HFH.out.1, (hb2.block _ luc).trans HR.out.2.2.2, ownsRow_below HR.out.1 hb2⟩
      have lfb : fb < w2.heap.size := Nat.lt_of_lt_of_le hfb1 hb2.size
      have lub : ub < w2.heap.size := Nat.lt_of_lt_of_le luc hb2.size
      clear hw2 hb2 g0 g1 HP1 k0 k1 q0 q1 H1
      have k2 : w2.cell? ⟨HB, 2, none⟩ = some (.int .i64 h2) := cell_of_row _ _ _ _ _ _ H2.out.2.2.1
      have k3 : w2.cell? ⟨HB, 3, none⟩ = some (.int .i64 h3) := cell_of_row _ _ _ _ _ _ H2.out.2.2.1
      have k4 : w2.cell? ⟨HB, 4, none⟩ = some (.int .i64 h4) := cell_of_row _ _ _ _ _ _ H2.out.2.2.1
      have lHB := World.block_lt_of_cell? (h := k2)
      obtain ⟨S, hS⟩ : ∃ S, pickI h2 8 = S := ⟨_, rfl⟩
      have hS0 : 0 ≤ S := by rw [← hS]; exact pickI_lo (by omega)
      have hS1 : S < 8 := by rw [← hS]; exact pickI_hi (by omega)
      have HS := Lib.hid hS
      clear hS
      go_wp2_with fail
      refine (lpick_any h2 _ _ w2 HV.out.2.2.b2.1 HV.out.2.2.b2.2 (by omega) (by omega) HS.out).mono ?_
      rintro e w' ⟨rfl, rfl⟩
      obtain ⟨w2, rfl⟩ : ∃ w2, w2 = w' := ⟨_, rfl⟩
      obtain rfl | rfl | rfl | rfl | rfl | rfl | rfl | rfl : S = 0 ∨ S = 1 ∨ S = 2 ∨ S = 3 ∨ S = 4 ∨ S = 5 ∨ S = 6 ∨ S = 7 := by omega
      · skip
        obtain ⟨R3, hR3⟩ : ∃ R, pickI h3 8 = R := ⟨_, rfl⟩
        have hR30 : 0 ≤ R3 := by rw [← hR3]; exact pickI_lo (by omega)
        have hR31 : R3 < 8 := by rw [← hR3]; exact pickI_hi (by omega)
        have HR3 := Lib.hid hR3
        clear hR3
        obtain ⟨z, hz⟩ : ∃ z, w2.cell? ⟨fb, k * 4, none⟩ = some z := ⟨_, (cell_of_row _ _ _ _ _ _ H2.out.2.2.2.1).trans (Array.getElem?_eq_getElem (by have := HFH.out.2.1; omega))⟩
        have zf : w2.frozen? ⟨fb, k * 4, none⟩ = false := Blk.frozen (w := w2) H2.out.2.2.2.1 _
        have HE : Hid (ReadSm (w2.setCell ⟨fb, k * 4, none⟩ (.int .i64 R3)) (.slice (some ⟨ub, 0, none⟩) m cp) ∧ Below w.heap.size w (w2.setCell ⟨fb, k * 4, none⟩ (.int .i64 R3))) := Lib.hid ⟨by
          have h := H2.out.2.1.set_field HO.out.2.1 (fb := fb) (k := k) (c := 0) (val := .int .i64 R3) rfl HO.out.2.2.2.2 (by omega) (.inl ⟨by omega, _, rfl, by omega, by omega⟩) HFH.out.2.2
          exact h, H2.out.1.setCell (p := ⟨fb, _, none⟩) (by show w.heap.size ≤ fb; have := HW0.out; omega) _⟩
        go_wp2_with fail
        refine (lpick_any h3 _ _ w2 HV.out.2.2.b3.1 HV.out.2.2.b3.2 (by omega) (by omega) HR3.out).mono ?_
        rintro e w' ⟨rfl, rfl⟩
        obtain ⟨w2, rfl⟩ : ∃ w2, w2 = w' := ⟨_, rfl⟩
        go_wp2_with fail
        go_ret
        exact ⟨⟨_, rfl, HE.out.1⟩, HE.out.2⟩
      · skip
        obtain ⟨R3, hR3⟩ : ∃ R, pickI h3 20 = R := ⟨_, rfl⟩
        have hR30 : 0 ≤ R3 := by rw [← hR3]; exact pickI_lo (by omega)
        have hR31 : R3 < 20 := by rw [← hR3]; exact pickI_hi (by omega)
        have HR3 := Lib.hid hR3
        clear hR3
        obtain ⟨z, hz⟩ : ∃ z, w2.cell? ⟨fb, k * 4 + 1, none⟩ = some z := ⟨_, (cell_of_row _ _ _ _ _ _ H2.out.2.2.2.1).trans (Array.getElem?_eq_getElem (by have := HFH.out.2.1; omega))⟩
        have zf : w2.frozen? ⟨fb, k * 4 + 1, none⟩ = false := Blk.frozen (w := w2) H2.out.2.2.2.1 _
        have HE : Hid (ReadSm (w2.setCell ⟨fb, k * 4 + 1, none⟩ (.int .i64 (R3 - 1))) (.slice (some ⟨ub, 0, none⟩) m cp) ∧ Below w.heap.size w (w2.setCell ⟨fb, k * 4 + 1, none⟩ (.int .i64 (R3 - 1)))) := Lib.hid ⟨by
          have h := H2.out.2.1.set_field HO.out.2.1 (fb := fb) (k := k) (c := 1) (val := .int .i64 (R3 - 1)) rfl HO.out.2.2.2.2 (by omega) (.inl ⟨by omega, _, rfl, by omega, by omega⟩) HFH.out.2.2
          exact h, H2.out.1.setCell (p := ⟨fb, _, none⟩) (by show w.heap.size ≤ fb; have := HW0.out; omega) _⟩
        go_wp2_with fail
        refine (lpick_any h3 _ _ w2 HV.out.2.2.b3.1 HV.out.2.2.b3.2 (by omega) (by omega) HR3.out).mono ?_
        rintro e w' ⟨rfl, rfl⟩
        obtain ⟨w2, rfl⟩ : ∃ w2, w2 = w' := ⟨_, rfl⟩
        go_wp2_with fail
        go_ret
        exact ⟨⟨_, rfl, HE.out.1⟩, HE.out.2⟩
      · skip
        obtain ⟨R3, hR3⟩ : ∃ R, pickI h3 8 = R := ⟨_, rfl⟩
        have hR30 : 0 ≤ R3 := by rw [← hR3]; exact pickI_lo (by omega)
        have hR31 : R3 < 8 := by rw [← hR3]; exact pickI_hi (by omega)
        have HR3 := Lib.hid hR3
        clear hR3
        obtain ⟨z, hz⟩ : ∃ z, w2.cell? ⟨fb, k * 4 + 2, none⟩ = some z := ⟨_, (cell_of_row _ _ _ _ _ _ H2.out.2.2.2.1).trans (Array.getElem?_eq_getElem (by have := HFH.out.2.1; omega))⟩
        have zf : w2.frozen? ⟨fb, k * 4 + 2, none⟩ = false := Blk.frozen (w := w2) H2.out.2.2.2.1 _
        have HE : Hid (ReadSm (w2.setCell ⟨fb, k * 4 + 2, none⟩ (.int .i64 (R3 - 1))) (.slice (some ⟨ub, 0, none⟩) m cp) ∧ Below w.heap.size w (w2.setCell ⟨fb, k * 4 + 2, none⟩ (.int .i64 (R3 - 1)))) := Lib.hid ⟨by
          have h := H2.out.2.1.set_field HO.out.2.1 (fb := fb) (k := k) (c := 2) (val := .int .i64 (R3 - 1)) rfl HO.out.2.2.2.2 (by omega) (.inl ⟨by omega, _, rfl, by omega, by omega⟩) HFH.out.2.2
          exact h, H2.out.1.setCell (p := ⟨fb, _, none⟩) (by show w.heap.size ≤ fb; have := HW0.out; omega) _⟩
        go_wp2_with fail
        refine (lpick_any h3 _ _ w2 HV.out.2.2.b3.1 HV.out.2.2.b3.2 (by omega) (by omega) HR3.out).mono ?_
        rintro e w' ⟨rfl, rfl⟩
        obtain ⟨w2, rfl⟩ : ∃ w2, w2 = w' := ⟨_, rfl⟩
        go_wp2_with fail
        go_ret
        exact ⟨⟨_, rfl, HE.out.1⟩, HE.out.2⟩
      · skip
        obtain ⟨R3, hR3⟩ : ∃ R, pickI h3 18 = R := ⟨_, rfl⟩
        have hR30 : 0 ≤ R3 := by rw [← hR3]; exact pickI_lo (by omega)
        have hR31 : R3 < 18 := by rw [← hR3]; exact pickI_hi (by omega)
        have HR3 := Lib.hid hR3
        clear hR3
        obtain ⟨r, rfl⟩ : ∃ r : Nat, R3 = r := ⟨R3.toNat, by omega⟩
        obtain ⟨T, hT⟩ : ∃ T : ByteArray, T = ⟨#[97, 98, 99, 100, 101, 102, 103, 104, 105, 106, 107, 108, 109, 110, 111, 112, 113, 114]⟩ := ⟨_, rfl⟩
        have hTs : (T.extract 0 r).size ≤ 20 := by rw [ByteArray.size_extract]; omega
        rw [hT] at hTs
        obtain ⟨z, hz⟩ : ∃ z, w2.cell? ⟨fb, k * 4 + 3, none⟩ = some z := ⟨_, (cell_of_row _ _ _ _ _ _ H2.out.2.2.2.1).trans (Array.getElem?_eq_getElem (by have := HFH.out.2.1; omega))⟩
        have zf : w2.frozen? ⟨fb, k * 4 + 3, none⟩ = false := Blk.frozen (w := w2) H2.out.2.2.2.1 _
        have HE : Hid (ReadSm (w2.setCell ⟨fb, k * 4 + 3, none⟩ (.string ((⟨#[97, 98, 99, 100, 101, 102, 103, 104, 105, 106, 107, 108, 109, 110, 111, 112, 113, 114]⟩ : ByteArray).extract 0 r))) (.slice (some ⟨ub, 0, none⟩) m cp) ∧ Below w.heap.size w (w2.setCell ⟨fb, k * 4 + 3, none⟩ (.string ((⟨#[97, 98, 99, 100, 101, 102, 103, 104, 105, 106, 107, 108, 109, 110, 111, 112, 113, 114]⟩ : ByteArray).extract 0 r)))) := Lib.hid ⟨by
          have h := H2.out.2.1.set_field HO.out.2.1 (fb := fb) (k := k) (c := 3) (val := .string ((⟨#[97, 98, 99, 100, 101, 102, 103, 104, 105, 106, 107, 108, 109, 110, 111, 112, 113, 114]⟩ : ByteArray).extract 0 r)) rfl HO.out.2.2.2.2 (by omega) (.inr ⟨rfl, _, rfl, hTs⟩) HFH.out.2.2
          exact h, H2.out.1.setCell (p := ⟨fb, _, none⟩) (by show w.heap.size ≤ fb; have := HW0.out; omega) _⟩
        clear hTs hT
        go_wp2_with fail
        refine (lpick_any h3 _ _ w2 HV.out.2.2.b3.1 HV.out.2.2.b3.2 (by omega) (by omega) HR3.out).mono ?_
        rintro e w' ⟨rfl, rfl⟩
        obtain ⟨w2, rfl⟩ : ∃ w2, w2 = w' := ⟨_, rfl⟩
        go_wp2_with fail
        go_ret
        exact ⟨⟨_, rfl, HE.out.1⟩, HE.out.2⟩
      · skip
        obtain ⟨R3, hR3⟩ : ∃ R, pickI h3 22 = R := ⟨_, rfl⟩
        have hR30 : 0 ≤ R3 := by rw [← hR3]; exact pickI_lo (by omega)
        have hR31 : R3 < 22 := by rw [← hR3]; exact pickI_hi (by omega)
        have HR3 := Lib.hid hR3
        clear hR3
        obtain ⟨z, hz⟩ : ∃ z, w2.cell? ⟨ub, i * 2, none⟩ = some z := ⟨_, (H2.out.2.1.row_cells rfl HO.out.2.2.2.2 him).1⟩
        have zf : w2.frozen? ⟨ub, i * 2, none⟩ = false := Blk.frozen (w := w2) H2.out.2.2.2.2.1 _
        have HE : Hid (ReadSm (w2.setCell ⟨ub, i * 2, none⟩ (.int .i64 R3)) (.slice (some ⟨ub, 0, none⟩) m cp) ∧ Below w.heap.size w (w2.setCell ⟨ub, i * 2, none⟩ (.int .i64 R3))) := Lib.hid ⟨H2.out.2.1.set_id HO.out.2.1 rfl HO.out.2.2.2.2 (by omega) (by omega) (by omega), H2.out.1.setCell (p := ⟨ub, _, none⟩) (by have := (H2.out.2.1.row.lt ub rfl).1; have := HW0.out; show w.heap.size ≤ ub; omega) _⟩
        go_wp2_with fail
        refine (lpick_any h3 _ _ w2 HV.out.2.2.b3.1 HV.out.2.2.b3.2 (by omega) (by omega) HR3.out).mono ?_
        rintro e w' ⟨rfl, rfl⟩
        obtain ⟨w2, rfl⟩ : ∃ w2, w2 = w' := ⟨_, rfl⟩
        go_wp2_with fail
        go_ret
        exact ⟨⟨_, rfl, HE.out.1⟩, HE.out.2⟩
      · have hfsl : (L.getD i zm).fs.length = nf := HR.out.2.1.symm
        obtain ⟨⟨gk, gn, gf, gt⟩, hg⟩ : ∃ g, g = (L.getD i zm).fs.getD k zf := ⟨_, rfl⟩
        have hFA := FldsAt.of_own (B := w0.heap.size) (w := w2) (v := .slice (some ⟨fb, 0, none⟩) nf fc) (fs := (L.getD i zm).fs) (by rw [hfsl]; exact H2.out.2.2.2.2.2)
        obtain ⟨b', off', e0, -, -, -, -, hfl⟩ := hFA.at_ (by omega)
        cases e0
        have hgA := hfl k (by omega)
        rw [← hg, Nat.zero_add] at hgA
        obtain ⟨y0, y1, y2, y3⟩ := hgA
        have q1 := (H2.out.2.1.row_cells rfl HO.out.2.2.2.2 him).2.1
        rw [← HR.out.2.2.1] at q1
        have hsg : SmF ⟨gk, gn, gf, gt⟩ := by rw [hg]; exact HO.out.2.1.each i hil k (by omega)
        have HSG := Lib.hid hsg
        have HK : Hid (∀ W0 v1 wA, Below w2.heap.size w2 W0 → Grew W0 wA 0 56 4 (.slice (some ⟨fb, 0, none⟩) nf fc) v1 (nf + 1) (flat (L.getD i zm).fs ++ fldC ⟨gk, gn, gf, gt⟩) →
            (∃ x, wA.cell? ⟨ub, i * 2 + 1, none⟩ = some x) ∧ wA.frozen? ⟨ub, i * 2 + 1, none⟩ = false ∧ (∃ a1 c1, v1 = .slice a1 (nf + 1) c1) ∧ ReadSm (wA.setCell ⟨ub, i * 2 + 1, none⟩ v1) (.slice (some ⟨ub, 0, none⟩) m cp) ∧ Below w.heap.size w (wA.setCell ⟨ub, i * 2 + 1, none⟩ v1)) := Lib.hid fun W0 v1 wA hb hG => by
          have h0 : W0.ownsRow 0 56 4 (.slice (some ⟨fb, 0, none⟩) nf fc) nf (flat (L.getD i zm).fs) := ownsRow_below (ownsRow_lower H2.out.2.2.2.2.2 (Nat.zero_le _)) hb
          have hU : Blk W0 ub 34 ucur := (hb.block _ lub).trans H2.out.2.2.2.2.1
          have u1 := hG.blkOther h0 hU (by decide)
          obtain ⟨a1, c1, e1, _, _⟩ := own_slice hG.own
          have hucs : m * 2 ≤ ucur.size := by
            obtain ⟨_, _, _, _, cur, hh, hc⟩ := H2.out.2.1.row_cells rfl HO.out.2.2.2.2 him
            rw [H2.out.2.2.2.2.1] at hh
            cases hh
            exact hc
          have hlow : ∀ g, v1.ownBlock = some g → w0.heap.size ≤ g := fun g hg => by
            rcases hG.blk with e | e
            · rw [e] at hg
              simp only [Value.ownBlock, Option.some.injEq] at hg
              omega
            · rw [e] at hg; cases hg
              have := hb.size
              omega
          have hbA : Below w.heap.size w wA := (H2.out.1.trans (hb.mono H2.out.1.size)).grown hG.grown (by have := hb.size; have := H2.out.1.size; omega) fun g hg => by
            simp only [Value.ownBlock, Option.some.injEq] at hg
            have := HW0.out
            omega
          refine ⟨⟨_, (u1.cell (i * 2 + 1)).trans (Array.getElem?_eq_getElem (by omega))⟩, u1.frozen _, ⟨a1, c1, e1⟩, ?_, hbA.setCell (p := ⟨ub, i * 2 + 1, none⟩) (by have := (H2.out.2.1.row.lt ub rfl).1; have := HW0.out; show w.heap.size ≤ ub; omega) _⟩
          have hsz := hb.size
          refine H2.out.2.1.set_fs (W := wA) (i := i) (fs := (L.getD i zm).fs ++ [⟨gk, gn, gf, gt⟩]) HO.out.2.1 rfl HO.out.2.2.2.2 (by omega) (Nat.le_trans hb.size hG.grown.size) (fun g cur hh => (hG.blkOther h0 (show Blk W0 g _ _ from (hb.block g (lt_of_heap hh)).trans hh) (by decide)).trans hh.symm) (fun j g hj hji hgo => ?_) ?_ (fun g hg => ⟨(hG.own.lt g hg).2, fun e => ?_⟩) ?_ ?_
          · have lg := own_lt (H2.out.2.1.each j (by have := HO.out.2.2.2.2; omega)) hgo
            refine (hG.grown.block g (by omega) fun e => ?_).trans (hb.block g lg)
            simp only [Value.ownBlock, Option.some.injEq] at e
            have hvl := HO.out.1.vsl
            refine HO.out.2.2.2.1 j i g (by have := HO.out.2.2.2.2; omega) (by omega) hji hgo ?_
            rw [← HR.out.2.2.1, e]
            rfl
          · have h := hG.own
            have e : flat ((L.getD i zm).fs ++ [⟨gk, gn, gf, gt⟩]) = flat (L.getD i zm).fs ++ fldC ⟨gk, gn, gf, gt⟩ := by simp [flat]
            refine FldsAt.of_own (B := 0) ?_
            rw [e, List.length_append, hfsl]
            exact h
          · obtain ⟨cur, h3⟩ := own_heap hG.own hg
            have h4 : wA.heap[ub]? = _ := u1
            rw [e, h4] at h3
            cases h3
          · rw [List.length_append, hfsl]; show nf + 1 ≤ 19; omega
          · intro q hq
            rcases getD_snoc (z := zf) hq with ⟨a1, e⟩ | ⟨_, e⟩
            · rw [e]; exact HO.out.2.1.each i hil q a1
            · rw [e]; exact HSG.out
        have HOW : Hid (w2.ownsRow 0 56 4 (.slice (some ⟨fb, 0, none⟩) nf fc) nf (flat (L.getD i zm).fs)) := Lib.hid (ownsRow_lower H2.out.2.2.2.2.2 (Nat.zero_le _))
        have hn1000 : nf ≤ 1000 := by omega
        clear hg hsg hFA hfl hfsl
        go_wp2_with fail
        go_region_law (first
          | (refine step_append_fld rfl (.tmp 98) (.tmp 102) rfl (.slice (some ⟨fb, 0, none⟩) nf fc) nf (flat (L.getD i zm).fs) rfl ?_ hn1000 _ ⟨gk, gn, gf, gt⟩ rfl ?_ ?_
             · exact ownsRow_below HOW.out (bx _).drew
             · exact heap_alloc_new _ _
             intro v1 wA hGr
             obtain ⟨⟨x, xc⟩, xz, ⟨a1, c1, rfl⟩, hR, hBW⟩ := HK.out _ _ _ (bx _).drew hGr))
        all_goals
          have HE := Lib.hid (And.intro hR hBW)
          clear hR hBW hGr
          go_wp2_with fail
          go_ret
          exact ⟨⟨_, rfl, HE.out.1⟩, HE.out.2⟩
      · obtain ⟨R3, hR3⟩ : ∃ R, pickI h3 (nf : Int) = R := ⟨_, rfl⟩
        have hR30 : 0 ≤ R3 := by rw [← hR3]; exact pickI_lo (by omega)
        have hR31 : R3 < (nf : Int) := by rw [← hR3]; exact pickI_hi (by omega)
        obtain ⟨r, rfl⟩ : ∃ r : Nat, R3 = r := ⟨R3.toNat, by omega⟩
        have HP : Hid (∀ V : World, Calls Tryz.prog 15 #[.int .i64 h3, .int .i64 (nf : Int)] V fun e w' => e = .returned (.int .i64 (r : Int)) ∧ w' = V) := Lib.hid fun V => lpick_any h3 _ _ V HV.out.2.2.b3.1 HV.out.2.2.b3.2 (by omega) (by omega) hR3
        have q1 := (H2.out.2.1.row_cells rfl HO.out.2.2.2.2 him).2.1
        rw [← HR.out.2.2.1] at q1
        have zf : w2.frozen? ⟨ub, i * 2 + 1, none⟩ = false := Blk.frozen (w := w2) H2.out.2.2.2.2.1 _
        have hfsl : (L.getD i zm).fs.length = nf := HR.out.2.1.symm
        have hFA := FldsAt.of_own (B := w0.heap.size) (w := w2) (v := .slice (some ⟨fb, 0, none⟩) nf fc) (fs := (L.getD i zm).fs) (by rw [hfsl]; exact H2.out.2.2.2.2.2)
        have HE0 : Hid (ReadSm (w2.setCell ⟨ub, i * 2 + 1, none⟩ (.slice (some ⟨fb, 0, none⟩) r fc)) (.slice (some ⟨ub, 0, none⟩) m cp) ∧ Below w.heap.size w (w2.setCell ⟨ub, i * 2 + 1, none⟩ (.slice (some ⟨fb, 0, none⟩) r fc))) := Lib.hid ⟨by
          refine H2.out.2.1.set_fs (W := w2) (i := i) (fs := (L.getD i zm).fs.take r) HO.out.2.1 rfl HO.out.2.2.2.2 (by omega) (Nat.le_refl _) (fun _ _ _ => rfl) (fun _ _ _ _ _ => rfl) (hFA.take (by omega)) (fun g hg => ?_) (by rw [List.length_take]; omega) fun q hq => ?_
          · simp only [Value.ownBlock, Option.some.injEq] at hg
            have := HFH.out.2.2
            omega
          · rw [List.length_take] at hq
            rw [getD_take (by omega)]
            exact HO.out.2.1.each i hil q (by omega), H2.out.1.setCell (p := ⟨ub, i * 2 + 1, none⟩) (by have := (H2.out.2.1.row.lt ub rfl).1; have := HW0.out; show w.heap.size ≤ ub; omega) _⟩
        have HE : Hid (ReadSm (w2.setCell ⟨ub, i * 2 + 1, none⟩ (.slice (some ⟨fb, 0, none⟩) r fc)).drew (.slice (some ⟨ub, 0, none⟩) m cp) ∧ Below w.heap.size w (w2.setCell ⟨ub, i * 2 + 1, none⟩ (.slice (some ⟨fb, 0, none⟩) r fc)).drew) := Lib.hid ⟨HE0.out.1.below (Below.refl _ _).drew, HE0.out.2.drew⟩
        have hif : (0 : Int) ≤ (r : Int) ∧ (r : Int) ≤ (nf : Int) := by omega
        have hrn : r ≤ nf := by omega
        clear HE0 hFA hfsl hR3
        go_wp2_with fail
        go_region_with (first | (go_at_call 15; refine (HP.out _).mono ?_; rintro e w5 ⟨rfl, rfl⟩))
        all_goals
          go_wp2_with fail
          go_ret
          exact ⟨⟨_, rfl, HE.out.1⟩, HE.out.2⟩
      · skip
        obtain ⟨z, hz⟩ : ∃ z, w2.cell? ⟨fb, k * 4 + 1, none⟩ = some z := ⟨_, (cell_of_row _ _ _ _ _ _ H2.out.2.2.2.1).trans (Array.getElem?_eq_getElem (by have := HFH.out.2.1; omega))⟩
        have zf : w2.frozen? ⟨fb, k * 4 + 1, none⟩ = false := Blk.frozen (w := w2) H2.out.2.2.2.1 _
        have HE : Hid (ReadSm (w2.setCell ⟨fb, k * 4 + 1, none⟩ (.int .i64 h4)) (.slice (some ⟨ub, 0, none⟩) m cp) ∧ Below w.heap.size w (w2.setCell ⟨fb, k * 4 + 1, none⟩ (.int .i64 h4))) := Lib.hid ⟨by
          have h := H2.out.2.1.set_field HO.out.2.1 (fb := fb) (k := k) (c := 1) (val := .int .i64 h4) rfl HO.out.2.2.2.2 (by omega) (.inl ⟨by omega, _, rfl, HV.out.2.2.b4.1, HV.out.2.2.b4.2⟩) HFH.out.2.2
          exact h, H2.out.1.setCell (p := ⟨fb, _, none⟩) (by show w.heap.size ≤ fb; have := HW0.out; omega) _⟩
        go_wp2_with fail
        go_ret
        exact ⟨⟨_, rfl, HE.out.1⟩, HE.out.2⟩
end Go.Proofs.YtcnokccgdiodlaaGreatDoor
