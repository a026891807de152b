/- Two equal lists of numbers, strings or parts compare as equal. Conditions: both are readable. Rows of formats that are copied and grown: what an append of several formats leaves. No condition of its own. A call that gives the same value in every world that meets a condition, and leaves the world as it is, may be taken first in a region that draws its order. No condition of its own. The reference's search. Conditions: a table that can be read; its formats have at most a thousand fields. What a call of the reference's maker keeps of its own; rows that it makes. Conditions: the maker lies in memory. -/
import Derived.Test.YtdndmhlmbpgdeaaGreatDoorPb14
import Derived.BigQuiet
import Derived.Test.YtdndmhlmbpgdeaaGreatDoorPb04
import Derived.OrdersHeld
import Derived.Deep.RegionHeld
import Derived.Laws.OwnMore
namespace Go.Proofs.YtdndmhlmbpgdeaaGreatDoor
section CmpA
open Go.RowKit Fx Rec

theorem flatP_get : ∀ (ps : List Pt) (k j : Nat) (p : Pt), ps[k]? = some p → j < 6 → (flatP ps)[k * 6 + j]? = (ptC p)[j]?
  | [], k, j, p, h, _ => by simp at h
  | q :: t, 0, j, p, h, hj => by
    have e : q = p := by simpa using h
    subst e
    rw [flatP_cons, List.getElem?_append_left (by simp [ptC]; omega)]
    congr 1
    omega
  | q :: t, k + 1, j, p, h, hj => by
    rw [flatP_cons, List.getElem?_append_right (by simp [ptC]; omega), ← flatP_get t k j p (by simpa using h) hj]
    congr 1
    simp [ptC]
    omega
/-- A row in memory: n elements of K cells. -/
def RowA (w : World) (K : Nat) (v : Value) (n : Nat) (g : Nat → Option Value) : Prop :=
  ∃ a c, v = .slice a n c ∧ n ≤ c ∧ c ≤ maxLen ∧ (n = 0 ∨ ∃ b off, a = some ⟨b, off, none⟩ ∧ b < w.heap.size ∧ ∀ j, j < n * K → w.cell? ⟨b, off + j, none⟩ = g j)
theorem RowA.below {w w' : World} {K : Nat} {v : Value} {n : Nat} {g : Nat → Option Value} (h : RowA w K v n g) (hb : Below w.heap.size w w') : RowA w' K v n g := by
  obtain ⟨a, c, rfl, h1, h2, h3⟩ := h
  refine ⟨a, c, rfl, h1, h2, h3.imp_right ?_⟩
  rintro ⟨b, off, rfl, hl, hc⟩
  exact ⟨b, off, rfl, Nat.lt_of_lt_of_le hl hb.size, fun j hj => (hb.cell (p := ⟨b, off + j, none⟩) hl).trans (hc j hj)⟩
theorem RowA.of_own {w : World} {B K n : Nat} {e : TypeId} {v : Value} {xs : List Value} (h : w.ownsRow B e K v n xs) : RowA w K v n fun j => xs[j]? := by
  rcases h.2 with ⟨rfl, rfl⟩ | ⟨g, cap, cur, rfl, hg, hh, h1, h2, _⟩
  · exact ⟨none, 0, rfl, Nat.le_refl _, by unfold maxLen; omega, .inl rfl⟩
  · exact ⟨_, cap, rfl, h1, h2, .inr ⟨g, 0, rfl, lt_of_heap hh, fun j hj => by rw [Nat.zero_add]; exact (own_cell h rfl hj).1⟩⟩
theorem RowA.take {w : World} {K n m : Nat} {a : Option Addr} {c : Nat} {g : Nat → Option Value} (h : RowA w K (.slice a n c) n g) (hm : m ≤ n) : RowA w K (.slice a m c) m g := by
  obtain ⟨a', c', e, h1, h2, h3⟩ := h
  cases e
  refine ⟨a, c, rfl, by omega, h2, ?_⟩
  rcases h3 with rfl | ⟨b, off, e, hl, hc⟩
  · exact .inl (by omega)
  · exact .inr ⟨b, off, e, hl, fun j hj => hc j (Nat.lt_of_lt_of_le hj (Nat.mul_le_mul_right K hm))⟩
set_option maxRecDepth 100000 in
set_option maxHeartbeats 4000000 in
theorem sameInts_eq (u v : Value) (n : Nat) (g : Nat → Option Value) (w : World) (hu : RowA w 1 u n g) (hv : RowA w 1 v n g) (hg : ∀ j, j < n → ∃ z : Int, g j = some (.int .i64 z)) :
    Calls Tryz.prog 22 #[u, v] w fun e w' => e = .returned (.bool true) ∧ Below w.heap.size w w' := by
  obtain ⟨a1, c1, rfl, k1, m1, h1⟩ := hu
  obtain ⟨a2, c2, rfl, k2, m2, h2⟩ := hv
  unfold maxLen at m1 m2
  have hnn : ((n : Int) == (n : Int)) = true := by simp
  have HX := Lib.hid (And.intro h1 (And.intro h2 hg))
  clear h1 h2 hg
  go_enter Tryz.func22, Tryz.ntmps22
  go_wp2
  go_loopw [5] (fun c wr => ∃ k : Nat, k ≤ n ∧ c = .int .i64 k ∧ Hid (Below w.heap.size w wr)) (fun c _ => n - (intOf c).toNat)
  case atStart => exact ⟨0, by omega, rfl, Lib.hid (Below.refl _ _)⟩
  case round =>
    obtain ⟨k, hk, rfl, HB⟩ := hrel
    by_cases hkm : k < n
    · obtain ⟨b1, o1, rfl, l1, r1⟩ := HX.out.1.resolve_left (by omega)
      obtain ⟨b2, o2, rfl, l2, r2⟩ := HX.out.2.1.resolve_left (by omega)
      obtain ⟨x, hx⟩ := HX.out.2.2 k hkm
      have c1 : wr.cell? ⟨b1, o1 + k, none⟩ = some (.int .i64 x) := (HB.out.cell (p := ⟨b1, o1 + k, none⟩) l1).trans ((r1 k (by omega)).trans hx)
      have c2 : wr.cell? ⟨b2, o2 + k, none⟩ = some (.int .i64 x) := (HB.out.cell (p := ⟨b2, o2 + k, none⟩) l2).trans ((r2 k (by omega)).trans hx)
      have lb1 : b1 < wr.heap.size := Nat.lt_of_lt_of_le l1 HB.out.size
      have lb2 : b2 < wr.heap.size := Nat.lt_of_lt_of_le l2 HB.out.size
      have i0 : 0 ≤ (k : Int) := by omega
      have i1 : (k : Int) < (n : Int) := by omega
      have t1 : ((x : Int) == x) = true := by simp
      clear hx
      clear r1 r2
      go_wp2
      go_quiet (fail)
      go_wp2
      go_roundw
      case rel => exact ⟨k + 1, by omega, by go_num, Lib.hid (HB.out.trans ⟨rfl, rfl, rfl, Nat.le_refl _, fun _ _ => rfl⟩)⟩
      case measure => simp [intOf]; omega
    · obtain rfl : k = n := by omega
      go_wp2
      go_ret
      exact ⟨rfl, HB.out⟩
set_option maxRecDepth 100000 in
set_option maxHeartbeats 4000000 in
theorem same_eq (u v : Value) (n : Nat) (g : Nat → Option Value) (w : World) (hu : RowA w 1 u n g) (hv : RowA w 1 v n g) (hg : ∀ j, j < n → ∃ z : ByteArray, g j = some (.string z)) :
    Calls Tryz.prog 29 #[u, v] w fun e w' => e = .returned (.bool true) ∧ Below w.heap.size w w' := by
  obtain ⟨a1, c1, rfl, k1, m1, h1⟩ := hu
  obtain ⟨a2, c2, rfl, k2, m2, h2⟩ := hv
  unfold maxLen at m1 m2
  have hnn : ((n : Int) == (n : Int)) = true := by simp
  have HX := Lib.hid (And.intro h1 (And.intro h2 hg))
  clear h1 h2 hg
  go_enter Tryz.func29, Tryz.ntmps29
  go_wp2
  go_loopw [5] (fun c wr => ∃ k : Nat, k ≤ n ∧ c = .int .i64 k ∧ Hid (Below w.heap.size w wr)) (fun c _ => n - (intOf c).toNat)
  case atStart => exact ⟨0, by omega, rfl, Lib.hid (Below.refl _ _)⟩
  case round =>
    obtain ⟨k, hk, rfl, HB⟩ := hrel
    by_cases hkm : k < n
    · obtain ⟨b1, o1, rfl, l1, r1⟩ := HX.out.1.resolve_left (by omega)
      obtain ⟨b2, o2, rfl, l2, r2⟩ := HX.out.2.1.resolve_left (by omega)
      obtain ⟨x, hx⟩ := HX.out.2.2 k hkm
      have c1 : wr.cell? ⟨b1, o1 + k, none⟩ = some (.string x) := (HB.out.cell (p := ⟨b1, o1 + k, none⟩) l1).trans ((r1 k (by omega)).trans hx)
      have c2 : wr.cell? ⟨b2, o2 + k, none⟩ = some (.string x) := (HB.out.cell (p := ⟨b2, o2 + k, none⟩) l2).trans ((r2 k (by omega)).trans hx)
      have lb1 : b1 < wr.heap.size := Nat.lt_of_lt_of_le l1 HB.out.size
      have lb2 : b2 < wr.heap.size := Nat.lt_of_lt_of_le l2 HB.out.size
      have i0 : 0 ≤ (k : Int) := by omega
      have i1 : (k : Int) < (n : Int) := by omega
      have t1 : (x.toList == x.toList) = true := by simp
      clear hx
      clear r1 r2
      go_wp2
      go_quiet (fail)
      go_wp2
      go_roundw
      case rel => exact ⟨k + 1, by omega, by go_num, Lib.hid (HB.out.trans ⟨rfl, rfl, rfl, Nat.le_refl _, fun _ _ => rfl⟩)⟩
      case measure => simp [intOf]; omega
    · obtain rfl : k = n := by omega
      go_wp2
      go_ret
      exact ⟨rfl, HB.out⟩
set_option maxRecDepth 100000 in
set_option maxHeartbeats 4000000 in
theorem sameParts_eq (u v : Value) (n : Nat) (g : Nat → Option Value) (w : World) (hu : RowA w 6 u n g) (hv : RowA w 6 v n g) (hg : ∀ j, j < n → ∃ z0 z1 z2 z3 z4 z5 : Int, g (j * 6 + 0) = some (.int .i64 z0) ∧ g (j * 6 + 1) = some (.int .i64 z1) ∧ g (j * 6 + 2) = some (.int .i64 z2) ∧ g (j * 6 + 3) = some (.int .i64 z3) ∧ g (j * 6 + 4) = some (.int .i64 z4) ∧ g (j * 6 + 5) = some (.int .i64 z5)) :
    Calls Tryz.prog 21 #[u, v] w fun e w' => e = .returned (.bool true) ∧ Below w.heap.size w w' := by
  obtain ⟨a1, c1, rfl, k1, m1, h1⟩ := hu
  obtain ⟨a2, c2, rfl, k2, m2, h2⟩ := hv
  unfold maxLen at m1 m2
  have hnn : ((n : Int) == (n : Int)) = true := by simp
  have HX := Lib.hid (And.intro h1 (And.intro h2 hg))
  clear h1 h2 hg
  go_enter Tryz.func21, Tryz.ntmps21
  go_wp2
  go_loopw [5] (fun c wr => ∃ k : Nat, k ≤ n ∧ c = .int .i64 k ∧ Hid (Below w.heap.size w wr)) (fun c _ => n - (intOf c).toNat)
  case atStart => exact ⟨0, by omega, rfl, Lib.hid (Below.refl _ _)⟩
  case round =>
    obtain ⟨k, hk, rfl, HB⟩ := hrel
    by_cases hkm : k < n
    · obtain ⟨b1, o1, rfl, l1, r1⟩ := HX.out.1.resolve_left (by omega)
      obtain ⟨b2, o2, rfl, l2, r2⟩ := HX.out.2.1.resolve_left (by omega)
      obtain ⟨x0, x1, x2, x3, x4, x5, hx0, hx1, hx2, hx3, hx4, hx5⟩ := HX.out.2.2 k hkm
      have c10 : wr.cell? ⟨b1, o1 + k * 6, none⟩ = some (.int .i64 x0) := by have := (HB.out.cell (p := ⟨b1, o1 + (k * 6 + 0), none⟩) l1).trans ((r1 (k * 6 + 0) (by omega)).trans hx0); rwa [← Nat.add_assoc] at this
      have c20 : wr.cell? ⟨b2, o2 + k * 6, none⟩ = some (.int .i64 x0) := by have := (HB.out.cell (p := ⟨b2, o2 + (k * 6 + 0), none⟩) l2).trans ((r2 (k * 6 + 0) (by omega)).trans hx0); rwa [← Nat.add_assoc] at this
      have c11 : wr.cell? ⟨b1, o1 + k * 6 + 1, none⟩ = some (.int .i64 x1) := by have := (HB.out.cell (p := ⟨b1, o1 + (k * 6 + 1), none⟩) l1).trans ((r1 (k * 6 + 1) (by omega)).trans hx1); rwa [← Nat.add_assoc] at this
      have c21 : wr.cell? ⟨b2, o2 + k * 6 + 1, none⟩ = some (.int .i64 x1) := by have := (HB.out.cell (p := ⟨b2, o2 + (k * 6 + 1), none⟩) l2).trans ((r2 (k * 6 + 1) (by omega)).trans hx1); rwa [← Nat.add_assoc] at this
      have c12 : wr.cell? ⟨b1, o1 + k * 6 + 2, none⟩ = some (.int .i64 x2) := by have := (HB.out.cell (p := ⟨b1, o1 + (k * 6 + 2), none⟩) l1).trans ((r1 (k * 6 + 2) (by omega)).trans hx2); rwa [← Nat.add_assoc] at this
      have c22 : wr.cell? ⟨b2, o2 + k * 6 + 2, none⟩ = some (.int .i64 x2) := by have := (HB.out.cell (p := ⟨b2, o2 + (k * 6 + 2), none⟩) l2).trans ((r2 (k * 6 + 2) (by omega)).trans hx2); rwa [← Nat.add_assoc] at this
      have c13 : wr.cell? ⟨b1, o1 + k * 6 + 3, none⟩ = some (.int .i64 x3) := by have := (HB.out.cell (p := ⟨b1, o1 + (k * 6 + 3), none⟩) l1).trans ((r1 (k * 6 + 3) (by omega)).trans hx3); rwa [← Nat.add_assoc] at this
      have c23 : wr.cell? ⟨b2, o2 + k * 6 + 3, none⟩ = some (.int .i64 x3) := by have := (HB.out.cell (p := ⟨b2, o2 + (k * 6 + 3), none⟩) l2).trans ((r2 (k * 6 + 3) (by omega)).trans hx3); rwa [← Nat.add_assoc] at this
      have c14 : wr.cell? ⟨b1, o1 + k * 6 + 4, none⟩ = some (.int .i64 x4) := by have := (HB.out.cell (p := ⟨b1, o1 + (k * 6 + 4), none⟩) l1).trans ((r1 (k * 6 + 4) (by omega)).trans hx4); rwa [← Nat.add_assoc] at this
      have c24 : wr.cell? ⟨b2, o2 + k * 6 + 4, none⟩ = some (.int .i64 x4) := by have := (HB.out.cell (p := ⟨b2, o2 + (k * 6 + 4), none⟩) l2).trans ((r2 (k * 6 + 4) (by omega)).trans hx4); rwa [← Nat.add_assoc] at this
      have c15 : wr.cell? ⟨b1, o1 + k * 6 + 5, none⟩ = some (.int .i64 x5) := by have := (HB.out.cell (p := ⟨b1, o1 + (k * 6 + 5), none⟩) l1).trans ((r1 (k * 6 + 5) (by omega)).trans hx5); rwa [← Nat.add_assoc] at this
      have c25 : wr.cell? ⟨b2, o2 + k * 6 + 5, none⟩ = some (.int .i64 x5) := by have := (HB.out.cell (p := ⟨b2, o2 + (k * 6 + 5), none⟩) l2).trans ((r2 (k * 6 + 5) (by omega)).trans hx5); rwa [← Nat.add_assoc] at this
      have lb1 : b1 < wr.heap.size := Nat.lt_of_lt_of_le l1 HB.out.size
      have lb2 : b2 < wr.heap.size := Nat.lt_of_lt_of_le l2 HB.out.size
      have i0 : 0 ≤ (k : Int) := by omega
      have i1 : (k : Int) < (n : Int) := by omega
      clear hx0 hx1 hx2 hx3 hx4 hx5
      clear r1 r2
      go_wp2
      go_quiet (fail)
      go_wp2
      go_roundw
      case rel => exact ⟨k + 1, by omega, by go_num, Lib.hid (HB.out.trans ⟨rfl, rfl, rfl, Nat.le_refl _, fun _ _ => rfl⟩)⟩
      case measure => simp [intOf]; omega
    · obtain rfl : k = n := by omega
      go_wp2
      go_ret
      exact ⟨rfl, HB.out⟩
end CmpA
section RefRow
open Go.RowKit Fx

/-- A row of formats of the call's own, whose fields can be read. -/
structure RowM (w : World) (u : Value) (L : List Fm) (vs : List Value) : Prop where
  row : w.ownsRow 0 52 2 u L.length (flatM L vs)
  vsl : vs.length = L.length
  each : ∀ i, i < L.length → FldsAt w (vs.getD i undef) (L.getD i zm).fs ∧ ∀ g, (vs.getD i undef).ownBlock = some g → g < w.heap.size ∧ u.ownBlock ≠ some g
theorem RowM.fms {w : World} {u : Value} {L : List Fm} {vs : List Value} (h : RowM w u L vs) : FmsAt (· < w.heap.size) w u L := by
  rcases h.row.2 with ⟨rfl, h0⟩ | ⟨g, cap, cur, rfl, hg, hh, hl, hm, hsz, ht⟩
  · exact .inl ⟨none, 0, rfl, List.eq_nil_of_length_eq_zero h0⟩
  · rcases Nat.eq_zero_or_pos L.length with h0 | h0
    · exact .inl ⟨_, _, by rw [h0], List.eq_nil_of_length_eq_zero h0⟩
    · have hcell : ∀ j, j < L.length * 2 → w.cell? ⟨g, 0 + j, none⟩ = (flatM L vs)[j]? := fun j hj => by
        rw [cell_of_row w g _ cur _ (0, 0) hh, ← ht, List.getElem?_take, if_pos (by omega)]
        simp
      refine .inr ⟨g, 0, cap, rfl, h0, hl, hm, lt_of_heap hh, lt_of_heap hh, fun i hi => ⟨vs.getD i undef, ?_, ?_, (h.each i hi).1, fun g' hg' => ((h.each i hi).2 g' hg').1⟩⟩
      · exact (hcell (i * 2) (by omega)).trans (flatM_get h.vsl hi).1
      · exact (hcell (i * 2 + 1) (by omega)).trans (flatM_get h.vsl hi).2
theorem RowM.below {w w' : World} {u : Value} {L : List Fm} {vs : List Value} (h : RowM w u L vs) (hb : Below w.heap.size w w') : RowM w' u L vs :=
  ⟨ownsRow_below h.row hb, h.vsl, fun i hi => ⟨(h.each i hi).1.below hb, fun g hg => ⟨Nat.lt_of_lt_of_le ((h.each i hi).2 g hg).1 hb.size, ((h.each i hi).2 g hg).2⟩⟩⟩
theorem RowM.ints_ {w : World} {u : Value} {L : List Fm} {vs : List Value} (_ : RowM w u L vs) (h : IntsL L) : IntsL L := h
/-- What can be read as formats has cells. -/
theorem fms_cells {w : World} {b off n c : Nat} {L : List Fm} (h : FmsAt (· < w.heap.size) w (.slice (some ⟨b, off, none⟩) n c) L) (h1 : 1 ≤ L.length) :
    ∃ vs : List Value, vs.length = L.length ∧ (∀ (j : Nat) (u : Value), (flatM L vs)[j]? = some u → w.cell? (Addr.add ⟨b, off, none⟩ j) = some u) ∧ (∀ u ∈ flatM L vs, u.oneCell' = true) ∧ ∀ i, i < L.length → FldsAt w (vs.getD i undef) (L.getD i zm).fs ∧ ∀ g, (vs.getD i undef).ownBlock = some g → g < w.heap.size := by
  obtain ⟨b', off', e, _, _, _, _, _, hf⟩ := h.at_ h1
  cases e
  have key : ∀ k, k ≤ L.length → ∃ vs : List Value, vs.length = k ∧ ∀ i, i < k → FmAt (· < w.heap.size) w b (off + i * 2) (L.getD i zm) (vs.getD i undef) := by
    intro k
    induction k with
    | zero => exact fun _ => ⟨[], rfl, fun i hi => by omega⟩
    | succ k ih =>
      intro hk
      obtain ⟨vs, e1, e2⟩ := ih (by omega)
      obtain ⟨u, hu⟩ := hf k (by omega)
      refine ⟨vs ++ [u], by simp [e1], fun i hi => ?_⟩
      rcases Nat.lt_succ_iff_lt_or_eq.1 hi with h2 | rfl
      · rw [getD_snoc_lt (by omega)]; exact e2 i h2
      · rw [← e1, getD_snoc_eq, e1]; exact hu
  obtain ⟨vs, e1, e2⟩ := key L.length (Nat.le_refl _)
  have hlen : (flatM L vs).length = L.length * 2 := flatM_len e1
  have hsl : ∀ i, i < L.length → ∃ a c, vs.getD i undef = .slice a (L.getD i zm).fs.length c := fun i hi => by
    obtain ⟨a, c, e, _⟩ := (e2 i hi).fs.slice_
    exact ⟨a, c, e⟩
  have hpair : ∀ j, j < L.length * 2 → ∃ u, (flatM L vs)[j]? = some u ∧ w.cell? (Addr.add ⟨b, off, none⟩ j) = some u ∧ u.oneCell' = true := fun j hj => by
    have hadd : Addr.add ⟨b, off, none⟩ j = ⟨b, off + j, none⟩ := by unfold Addr.add; split <;> simp_all
    rw [hadd]
    have hi : j / 2 < L.length := by omega
    obtain ⟨f1, f2⟩ := flatM_get e1 hi
    have hF := e2 (j / 2) hi
    rcases Nat.mod_two_eq_zero_or_one j with h2 | h2
    · have ej : j = j / 2 * 2 := by omega
      rw [ej]
      exact ⟨_, f1, hF.c0, rfl⟩
    · have ej : j = j / 2 * 2 + 1 := by omega
      obtain ⟨a, c, hs⟩ := hsl (j / 2) hi
      rw [ej]
      exact ⟨_, f2, by rw [← Nat.add_assoc]; exact hF.c1, by rw [hs]; rfl⟩
  refine ⟨vs, e1, fun j u hu => ?_, fun u hu => ?_, fun i hi => ⟨(e2 i hi).fs, (e2 i hi).own⟩⟩
  · have hj : j < L.length * 2 := by
      rcases Nat.lt_or_ge j (L.length * 2) with h2 | h2
      · exact h2
      · rw [List.getElem?_eq_none (by omega)] at hu; cases hu
    obtain ⟨u', a, b, _⟩ := hpair j hj
    rw [a] at hu
    cases hu
    exact b
  · obtain ⟨j, hj, rfl⟩ := List.getElem_of_mem hu
    obtain ⟨u', a, _, b⟩ := hpair j (by omega)
    rw [List.getElem?_eq_getElem hj] at a
    cases a
    exact b

theorem run_append_fms (w : World) (ty : TypeId) (v : Value) (n : Nat) (xs : List Value) (hown : w.ownsRow 0 52 2 v n xs) (a : Addr) (m c : Nat) (news : List Value) (hl : news.length = m * 2) (hnews : ∀ (j : Nat) (u : Value), news[j]? = some u → w.cell? (a.add j) = some u) (h1 : ∀ u ∈ news, u.oneCell' = true) (hnm : n + m ≤ 1000) :
    ∃ v' w', (Builtin.append_ #[23, 23] ty #[v, .slice (some a) m c]).run Tryz.prog w = .ok v' w' ∧ Grew w w' 0 52 2 v v' (n + m) (xs ++ news) := by
  obtain ⟨i0, hi, hz0, hz1, hz2⟩ := info_parts infoFmt
  obtain ⟨v', w', e1, e2, e3, _, e5⟩ := run_append_own_at (P := Tryz.prog) w 0 23 ty 52 i0 _ 2 32 Tryz.underlying23 hi hz0 hz1 hz2 rfl (by decide) v n xs hown a m c news hl hnews h1 (by unfold maxLen; omega) (by omega) (Nat.zero_le _)
  exact ⟨v', w', e1, e2, e3, e5⟩
theorem wpList_append_fms {ops : Array Oper} {rest : List Oper} {o : Oper} {a : Act} {w : World} {Q : Exit → Act → World → Prop}
    (hg : o.guard = none) (s x : Operand) (hop : o.op = Op.call { callee := Callee.builtin Builtin.append, args := #[s, x], argTypes := #[23, 23] })
    (v : Value) (n : Nat) (xs : List Value) (hs : a.eval s = v) (hown : w.ownsRow 0 52 2 v n xs) (ad : Addr) (m c : Nat) (news : List Value) (hx : a.eval x = .slice (some ad) m c)
    (hl : news.length = m * 2) (hnews : ∀ (j : Nat) (u : Value), news[j]? = some u → w.cell? (ad.add j) = some u) (h1 : ∀ u ∈ news, u.oneCell' = true) (hnm : n + m ≤ 1000)
    (hK : ∀ v' w', Grew w w' 0 52 2 v v' (n + m) (xs ++ news) → wpList Tryz.prog ops Q rest (a.put o.dst v') w') : wpList Tryz.prog ops Q (o :: rest) a w :=
  wpList_plain hg fun _ hK' => by
    obtain ⟨v', w', hr, h2⟩ := run_append_fms w o.type v n xs hown ad m c news hl hnews h1 hnm
    unfold Oper.wp
    simp [execOp, hop, resolve, invoke, builtin, hs, hx, hr, Result.andThen]
    exact hK' _ _ (hK _ _ h2)
theorem step_append_fms {ops : Array Oper} {o : Oper} {a : Act} {w : World} {K : Act → World → Prop} {Q : Exit → Act → World → Prop} {E : Prop}
    (hg : o.guard = none) (s x : Operand) (hop : o.op = Op.call { callee := Callee.builtin Builtin.append, args := #[s, x], argTypes := #[23, 23] })
    (v : Value) (n : Nat) (xs : List Value) (hs : a.eval s = v) (hown : w.ownsRow 0 52 2 v n xs) (ad : Addr) (m c : Nat) (news : List Value) (hx : a.eval x = .slice (some ad) m c)
    (hl : news.length = m * 2) (hnews : ∀ (j : Nat) (u : Value), news[j]? = some u → w.cell? (ad.add j) = some u) (h1 : ∀ u ∈ news, u.oneCell' = true) (hnm : n + m ≤ 1000)
    (hK : ∀ v' w', Grew w w' 0 52 2 v v' (n + m) (xs ++ news) → K (a.put o.dst v') w') :
    if Region.wanted o (yielded ops a.tmps) = true then Oper.wp Tryz.prog o a w K Q else E := by
  have hw : Region.wanted o (yielded ops a.tmps) = true := by simp [Region.wanted, hg]
  rw [if_pos hw]
  obtain ⟨v', w', hr, h2⟩ := run_append_fms w o.type v n xs hown ad m c news hl hnews h1 hnm
  unfold Oper.wp
  simp [execOp, hop, resolve, invoke, builtin, hs, hx, hr, Result.andThen]
  exact hK _ _ h2
theorem wpList_append_fmt {ops : Array Oper} {rest : List Oper} {o : Oper} {a : Act} {w : World} {Q : Exit → Act → World → Prop}
    (hg : o.guard = none) (s x : Operand) (hop : o.op = Op.call { callee := Callee.builtin Builtin.append, args := #[s, x], argTypes := #[23, 23] })
    (v : Value) (n : Nat) (xs : List Value) (hs : a.eval s = v) (hown : w.ownsRow 0 52 2 v n xs) (hn : n ≤ 1000) (g : Nat) (id : Int) (u : Value) (hu : u.oneCell' = true) (hx : a.eval x = .slice (some ⟨g, 0, none⟩) 1 1)
    (hb : w.heap[g]? = some (.cells #[.int .i64 id, u] 52 (0, 0)))
    (hK : ∀ v' w', Grew w w' 0 52 2 v v' (n + 1) (xs ++ [.int .i64 id, u]) → wpList Tryz.prog ops Q rest (a.put o.dst v') w') : wpList Tryz.prog ops Q (o :: rest) a w :=
  wpList_plain hg fun _ hK' => by
    obtain ⟨v', w', hr, h2⟩ := run_append_fmt w o.type v n xs hown hn g id u hu hb
    unfold Oper.wp
    simp [execOp, hop, resolve, invoke, builtin, hs, hx, hr, Result.andThen]
    exact hK' _ _ (hK _ _ h2)
/-- A copy of what could be read. -/
theorem rowM_copy {w w' : World} {v0 v1 : Value} {L : List Fm} {vs : List Value} (hG : Grew w w' 0 52 2 v0 v1 L.length (flatM L vs)) (hv : vs.length = L.length) (he : ∀ i, i < L.length → FldsAt w (vs.getD i undef) (L.getD i zm).fs ∧ ∀ g, (vs.getD i undef).ownBlock = some g → g < w.heap.size ∧ v0.ownBlock ≠ some g) : RowM w' v1 L vs :=
  ⟨hG.own, hv, fun i hi => ⟨(he i hi).1.keep hG.grown.size fun g hg => hG.grown.block g ((he i hi).2 g hg).1 fun e => ((he i hi).2 g hg).2 e.symm, fun g hg => ⟨Nat.lt_of_lt_of_le ((he i hi).2 g hg).1 hG.grown.size, by
    have h := (he i hi).2 g hg
    rcases hG.blk with e | e
    · rw [e]; exact h.2
    · rw [e]; intro h2; cases h2; omega⟩⟩⟩
theorem RowM.snoc {w w' : World} {u u' x : Value} {L : List Fm} {vs : List Value} {f : Fm} (h : RowM w u L vs) (hG : Grew w w' 0 52 2 u u' (L.length + 1) (flatM L vs ++ [.int .i64 f.id, x])) (hx : FldsAt w x f.fs) (ho : ∀ g, x.ownBlock = some g → g < w.heap.size ∧ u.ownBlock ≠ some g) : RowM w' u' (L ++ [f]) (vs ++ [x]) := by
  have hv := h.vsl
  refine ⟨by rw [flatM_snoc hv, List.length_append]; exact hG.own, by simp [hv], fun i hi => ?_⟩
  have key : FldsAt w ((vs ++ [x]).getD i undef) ((L ++ [f]).getD i zm).fs ∧ ∀ g, ((vs ++ [x]).getD i undef).ownBlock = some g → g < w.heap.size ∧ u.ownBlock ≠ some g := by
    rcases getD_snoc (z := zm) hi with ⟨h1, e⟩ | ⟨rfl, e⟩
    · rw [e, getD_snoc_lt (by omega)]; exact h.each i h1
    · rw [e, ← hv, getD_snoc_eq]; exact ⟨hx, ho⟩
  exact ⟨key.1.keep hG.grown.size fun g hg => hG.grown.block g (key.2 g hg).1 fun e => (key.2 g hg).2 e.symm, fun g hg => ⟨Nat.lt_of_lt_of_le (key.2 g hg).1 hG.grown.size, by
    have h := key.2 g hg
    rcases hG.blk with e | e
    · rw [e]; exact h.2
    · rw [e]; intro h2; cases h2; omega⟩⟩
/-- An empty row of the call's own. -/
theorem own_empty (w : World) : (w.alloc (.cells #[] 52)).ownsRow 0 52 2 (.slice (some ⟨w.heap.size, 0, none⟩) 0 0) 0 [] :=
  World.ownsRow_lit w #[] 0 (Nat.zero_le _) (by unfold maxLen; omega) rfl
/-- Fields that were written out. -/
theorem flds_lit {w : World} {g : Nat} {cs : Array Value} {fs : List Fld} (h : w.heap[g]? = some (.cells cs 56 (0, 0))) (hc : cs.toList = flat fs) (h0 : 1 ≤ fs.length) (hm : fs.length ≤ 1000) : FldsAt w (.slice (some ⟨g, 0, none⟩) fs.length fs.length) fs := by
  refine FldsAt.of_own (B := 0) ⟨flat_len fs, .inr ⟨g, fs.length, cs, rfl, Nat.zero_le _, h, Nat.le_refl _, by unfold maxLen; omega, ?_, ?_⟩⟩
  · rw [← Array.length_toList, hc, flat_len]
  · rw [hc, List.take_of_length_le (by rw [flat_len]; exact Nat.le_refl _)]
theorem OwnM.apart {w : World} {B : Nat} {u : Value} {L : List Fm} {vs : List Value} (h : OwnM w B u L vs) {i : Nat} (hi : i < L.length) (g : Nat) (hg : (vs.getD i undef).ownBlock = some g) : g < w.heap.size ∧ u.ownBlock ≠ some g := by
  refine ⟨own_lt (h.each i hi) hg, fun e => ?_⟩
  obtain ⟨cur, h1⟩ := own_heap (h.each i hi) hg
  obtain ⟨cur', h2⟩ := own_heap h.row e
  rw [h1] at h2
  injection h2 with h2
  injection h2 with _ h3
  exact absurd h3 (by decide)
theorem OwnM.rowM {w : World} {B : Nat} {u : Value} {L : List Fm} {vs : List Value} (h : OwnM w B u L vs) : RowM w u L vs :=
  ⟨ownsRow_lower h.row (Nat.zero_le _), h.vsl, fun i hi => ⟨FldsAt.of_own (ownsRow_lower (h.each i hi) (Nat.zero_le _)), h.apart hi⟩⟩
/-- A row of formats of the call's own, in blocks made since. -/
structure Cp (w0 w : World) (u : Value) (L : List Fm) (vs : List Value) : Prop where
  row : RowM w u L vs
  b : Below w0.heap.size w0 w
  lo : ∀ g, u.ownBlock = some g → w0.heap.size ≤ g
theorem Cp.below {w0 w w' : World} {u : Value} {L : List Fm} {vs : List Value} (h : Cp w0 w u L vs) (hb : Below w.heap.size w w') : Cp w0 w' u L vs :=
  ⟨h.row.below hb, h.b.trans (hb.mono h.b.size), h.lo⟩
theorem Cp.fms {w0 w : World} {u : Value} {L : List Fm} {vs : List Value} (h : Cp w0 w u L vs) : FmsAt (· < w.heap.size) w u L := h.row.fms
theorem Cp.slice_ {w0 w : World} {u : Value} {L : List Fm} {vs : List Value} {n : Nat} (h : Cp w0 w u L vs) (hn : L.length = n) (h1 : 1 ≤ n) : ∃ g c, u = .slice (some ⟨g, 0, none⟩) n c ∧ n ≤ c ∧ c ≤ 9223372036854775807 := by
  subst hn
  rcases h.row.row.2 with ⟨_, h0⟩ | ⟨g, cap, cur, rfl, _, _, hl, hm, _, _⟩
  · omega
  · exact ⟨g, cap, rfl, hl, by unfold maxLen at hm; omega⟩
/-- What a copy of formats that can be read asks, and leaves. -/
theorem copy_ready {w : World} {b off n c k : Nat} {L : List Fm} (h : FmsAt (· < w.heap.size) w (.slice (some ⟨b, off, none⟩) n c) L) (hk : L.length = k) (h1 : 1 ≤ k) :
    ∃ news : List Value, (flatM L news).length = k * 2 ∧ (∀ (j : Nat) (u : Value), (flatM L news)[j]? = some u → (w.alloc (.cells #[] 52)).cell? (Addr.add ⟨b, off, none⟩ j) = some u) ∧ (∀ u ∈ flatM L news, u.oneCell' = true) ∧
      ∀ v1 wA, Grew (w.alloc (.cells #[] 52)) wA 0 52 2 (.slice (some ⟨w.heap.size, 0, none⟩) 0 0) v1 (0 + k) ([] ++ flatM L news) → Cp w wA v1 L news := by
  subst hk
  obtain ⟨news, hnv, hncell, hone, hnf⟩ := fms_cells h h1
  have hb0 : Below w.heap.size w (w.alloc (.cells #[] 52)) := bx _
  refine ⟨news, flatM_len hnv, fun j u hj => ?_, hone, fun v1 wA hG => ?_⟩
  · have h := hncell j u hj
    rw [hb0.cell (World.block_lt_of_cell? (h := h))]; exact h
  · rw [Nat.zero_add, List.nil_append] at hG
    refine ⟨rowM_copy hG hnv fun i hi => ⟨(hnf i hi).1.below hb0, fun g hg => ?_⟩, ?_, fun g hg => ?_⟩
    · have := (hnf i hi).2 g hg
      refine ⟨Nat.lt_of_lt_of_le this hb0.size, fun e => ?_⟩
      simp only [Value.ownBlock, Option.some.injEq] at e
      omega
    · exact hb0.grown hG.grown hb0.size (fun k hk => by simp only [Value.ownBlock, Option.some.injEq] at hk; omega)
    · rcases hG.blk with e | e
      · rw [e] at hg
        simp only [Value.ownBlock, Option.some.injEq] at hg
        omega
      · rw [e] at hg; cases hg; simp
/-- What an append of a format that was written out asks, and leaves. -/
theorem Cp.snoc_ready {w0 w : World} {u : Value} {L : List Fm} {vs : List Value} (h : Cp w0 w u L vs) (f : Fm) (cs : Array Value) (k n : Nat) (hn : L.length = n) (hc : cs.toList = flat f.fs) (hk : f.fs.length = k) (k0 : 1 ≤ k) (k1 : k ≤ 1000) :
    ((w.alloc (.cells cs 56)).alloc (.cells #[.int .i64 f.id, .slice (some ⟨w.heap.size, 0, none⟩) k k] 52)).ownsRow 0 52 2 u n (flatM L vs) ∧
    ((w.alloc (.cells cs 56)).alloc (.cells #[.int .i64 f.id, .slice (some ⟨w.heap.size, 0, none⟩) k k] 52)).heap[w.heap.size + 1]? = some (.cells #[.int .i64 f.id, .slice (some ⟨w.heap.size, 0, none⟩) k k] 52 (0, 0)) ∧
    ∀ v' w', Grew ((w.alloc (.cells cs 56)).alloc (.cells #[.int .i64 f.id, .slice (some ⟨w.heap.size, 0, none⟩) k k] 52)) w' 0 52 2 u v' (n + 1) (flatM L vs ++ [.int .i64 f.id, .slice (some ⟨w.heap.size, 0, none⟩) k k]) →
      Cp w0 w' v' (L ++ [f]) (vs ++ [.slice (some ⟨w.heap.size, 0, none⟩) k k]) := by
  subst hk
  subst hn
  have hb : Below w.heap.size w ((w.alloc (.cells cs 56)).alloc (.cells #[.int .i64 f.id, .slice (some ⟨w.heap.size, 0, none⟩) f.fs.length f.fs.length] 52)) := (bx _).alloc (by simp) _
  have h2 := h.below hb
  refine ⟨h2.row.row, heap_alloc2_new _ _ _, fun v' w' hG => ⟨h2.row.snoc hG (flds_lit (heap_alloc2_old _ _ _) hc k0 k1) fun g hg => ?_, h2.b.grown hG.grown h2.b.size h.lo, fun g hg => ?_⟩⟩
  · simp only [Value.ownBlock, Option.some.injEq] at hg
    subst hg
    refine ⟨by simp; omega, fun e => ?_⟩
    have := own_lt h.row.row e
    omega
  · rcases hG.blk with e | e
    · exact h.lo g (e ▸ hg)
    · rw [e] at hg; cases hg; exact h2.b.size
/-- An append of formats of the call's own, or of none. -/
theorem run_append_rowM (w : World) (ty : TypeId) (v : Value) (n : Nat) (xs : List Value) (hown : w.ownsRow 0 52 2 v n xs) (u : Value) (L : List Fm) (vs : List Value) (hR : RowM w u L vs) (hnm : n + L.length ≤ 1000) :
    ∃ v' w', (Builtin.append_ #[23, 23] ty #[v, u]).run Tryz.prog w = .ok v' w' ∧ Grew w w' 0 52 2 v v' (n + L.length) (xs ++ flatM L vs) := by
  obtain ⟨i0, hi, hz0, hz1, hz2⟩ := info_parts infoFmt
  have hlen : (flatM L vs).length = L.length * 2 := flatM_len hR.vsl
  rcases hR.row.2 with ⟨rfl, h0⟩ | ⟨g, cap, cur, rfl, hg, hh, hl, hm, hsz, ht⟩
  · have e : L = [] := List.eq_nil_of_length_eq_zero h0
    subst e
    refine ⟨v, w, run_append_owned_none (P := Tryz.prog) w 0 23 ty 52 i0 2 Tryz.underlying23 hi v n xs hown, ⟨by simpa [flatM] using hown, ⟨rfl, rfl, rfl, Nat.le_refl _, fun _ _ _ => rfl⟩, .inl rfl⟩⟩
  · refine run_append_fms w ty v n xs hown ⟨g, 0, none⟩ L.length cap (flatM L vs) hlen (fun j y hy => ?_) (fun y hy => ?_) hnm
    · have hadd : (⟨g, 0, none⟩ : Addr).add j = ⟨g, j, none⟩ := by unfold Addr.add; split <;> simp_all
      have hj : j < L.length * 2 := by
        rcases Nat.lt_or_ge j (L.length * 2) with h2 | h2
        · exact h2
        · rw [List.getElem?_eq_none (by omega)] at hy; cases hy
      rw [hadd, cell_of_row w g j cur _ (0, 0) hh, ← hy, ← ht, List.getElem?_take, if_pos (by omega)]
      simp
    · obtain ⟨j, hj, rfl⟩ := List.getElem_of_mem hy
      have hi2 : j / 2 < L.length := by omega
      obtain ⟨f1, f2⟩ := flatM_get hR.vsl hi2
      rcases Nat.mod_two_eq_zero_or_one j with h2 | h2
      · have ej : j / 2 * 2 = j := by omega
        rw [ej, List.getElem?_eq_getElem hj] at f1
        show ((flatM L vs)[j]).oneCell' = true
        rw [Option.some.inj f1]
        rfl
      · have ej : j / 2 * 2 + 1 = j := by omega
        rw [ej, List.getElem?_eq_getElem hj] at f2
        obtain ⟨a, c, hs, _⟩ := (hR.each (j / 2) hi2).1.slice_
        rw [hs] at f2
        show ((flatM L vs)[j]).oneCell' = true
        rw [Option.some.inj f2]
        rfl
theorem step_append_rowM {ops : Array Oper} {o : Oper} {a : Act} {w : World} {K : Act → World → Prop} {Q : Exit → Act → World → Prop} {E : Prop}
    (hg : o.guard = none) (s x : Operand) (hop : o.op = Op.call { callee := Callee.builtin Builtin.append, args := #[s, x], argTypes := #[23, 23] })
    (v : Value) (n : Nat) (xs : List Value) (hs : a.eval s = v) (u : Value) (L : List Fm) (vs : List Value) (hx : a.eval x = u) (hown : w.ownsRow 0 52 2 v n xs) (hR : RowM w u L vs) (hnm : n + L.length ≤ 1000)
    (hK : ∀ v' w', Grew w w' 0 52 2 v v' (n + L.length) (xs ++ flatM L vs) → K (a.put o.dst v') w') :
    if Region.wanted o (yielded ops a.tmps) = true then Oper.wp Tryz.prog o a w K Q else E := by
  have hw : Region.wanted o (yielded ops a.tmps) = true := by simp [Region.wanted, hg]
  rw [if_pos hw]
  obtain ⟨v', w', hr, h2⟩ := run_append_rowM w o.type v n xs hown u L vs hR hnm
  unfold Oper.wp
  simp [execOp, hop, resolve, invoke, builtin, hs, hx, hr, Result.andThen]
  exact hK _ _ h2
theorem own_empty2 (w : World) (o : Obj) : ((w.alloc o).alloc (.cells #[] 52)).ownsRow 0 52 2 (.slice (some ⟨w.heap.size + 1, 0, none⟩) 0 0) 0 [] := by
  have h := own_empty (w.alloc o)
  simpa using h
/-- A copy into a row that was made since. -/
theorem cp_of_copy {wr W wA : World} {u v1 : Value} {g0 : Nat} {L : List Fm} {vs : List Value} (hR : RowM wr u L vs) (hb : Below wr.heap.size wr W) (hg0 : wr.heap.size ≤ g0)
    (hG : Grew W wA 0 52 2 (.slice (some ⟨g0, 0, none⟩) 0 0) v1 (0 + L.length) ([] ++ flatM L vs)) : Cp wr wA v1 L vs ∧ ∀ g, g < W.heap.size → g ≠ g0 → wA.heap[g]? = W.heap[g]? := by
  rw [Nat.zero_add, List.nil_append] at hG
  refine ⟨⟨rowM_copy hG hR.vsl fun i hi => ⟨(hR.each i hi).1.below hb, fun g hg => ?_⟩, hb.grown hG.grown hb.size fun k hk => ?_, fun g hg => ?_⟩, fun g hg hne => hG.grown.block g hg fun e => ?_⟩
  · have h := ((hR.each i hi).2 g hg).1
    refine ⟨Nat.lt_of_lt_of_le h hb.size, fun e => ?_⟩
    simp only [Value.ownBlock, Option.some.injEq] at e
    omega
  · simp only [Value.ownBlock, Option.some.injEq] at hk
    omega
  · rcases hG.blk with e | e
    · rw [e] at hg
      simp only [Value.ownBlock, Option.some.injEq] at hg
      omega
    · rw [e] at hg; cases hg; exact hb.size
  · simp only [Value.ownBlock, Option.some.injEq] at e
    exact hne e
/-- .. and one format more. -/
theorem cp_snoc {wr W wB : World} {v1 v2 fv : Value} {L : List Fm} {vs : List Value} {id : Int} {fs : List Fld} (hC : Cp wr W v1 L vs) (hF : FldsAt wr fv fs) (hfo : ∀ g, fv.ownBlock = some g → g < wr.heap.size)
    (hG : Grew W wB 0 52 2 v1 v2 (L.length + 1) (flatM L vs ++ [.int .i64 id, fv])) : Cp wr wB v2 (L ++ [⟨id, fs⟩]) (vs ++ [fv]) := by
  refine ⟨hC.row.snoc (f := ⟨id, fs⟩) hG (hF.below hC.b) fun g hg => ⟨Nat.lt_of_lt_of_le (hfo g hg) hC.b.size, fun e => ?_⟩, hC.b.grown hG.grown hC.b.size hC.lo, fun g hg => ?_⟩
  · have := hC.lo g e
    have := hfo g hg
    omega
  · rcases hG.blk with e | e
    · exact hC.lo g (e ▸ hg)
    · rw [e] at hg; cases hg; exact hC.b.size
theorem cp_nil (w : World) : Cp w w (.slice none 0 0) [] [] := ⟨⟨World.ownsRow_nil _ _ _ _, rfl, fun i h => by simp at h⟩, Below.refl _ _, fun g hg => by simp [Value.ownBlock] at hg⟩
end RefRow
section FmtTake
open Go.RowKit

section
variable {P : Program} {ops : Array Oper} {Q : Exit → Act → World → Prop} {md : Region.Mode} {S : World → Prop}
/-- The operation calls a function that gives v and leaves the world as it is. -/
def GivesIf (P : Program) (ops : Array Oper) (S : World → Prop) (o : Oper) (v : Value) (a : Act) : Prop :=
  Region.wanted o (yielded ops a.tmps) = true ∧ ∃ f args, ∀ w, S w → (execOp a.eval o).run P w = .ok (.enter f args) w ∧ Calls P f args w fun e w' => e = .returned v ∧ w' = w
theorem gives_step {i : Nat} {o : Oper} {v : Value} {a : Act} (hi : ops[i]? = some o) (hy : GivesIf P ops S o v a) {K : Act → World → Prop} {w : World} (hS : S w) (h : K (a.put o.dst v) w) : wpOp P ops Q i K a w := by
  obtain ⟨hw, f, args, hc⟩ := hy
  obtain ⟨h1, h2⟩ := hc w hS
  unfold Go.wpOp
  simp only [hi, hw, if_true]
  refine .inl ?_
  unfold Oper.wp
  rw [h1]
  exact h2.mono fun e w' ⟨he, hw'⟩ => by subst he; subst hw'; exact h
theorem gives_same {o : Oper} {v : Value} {a a' : Act} (hy : GivesIf P ops S o v a) (he : execOp a'.eval o = execOp a.eval o) (hw : Region.wanted o (yielded ops a'.tmps) = Region.wanted o (yielded ops a.tmps)) : GivesIf P ops S o v a' := by
  obtain ⟨h1, f, args, h2⟩ := hy
  exact ⟨by rw [hw]; exact h1, f, args, fun w hS => by rw [he]; exact h2 w hS⟩
theorem gives_put {j : Nat} {oi oj : Oper} {v : Value} (hj : ops[j]? = some oj) (hap : oi.apart ops oj = true) (hsi : ∀ cs b, oi.op ≠ .select cs b) (hsj : ∀ cs b, oj.op ≠ .select cs b)
    (hQ : ∀ c a w, Q (.panic c) (a.put oi.dst v) w → Q (.panic c) a w) {K : Act → World → Prop} {a : Act} {w : World} (hy : GivesIf P ops S oi v a) (h : wpOp P ops Q j K (a.put oi.dst v) w) :
    wpOp P ops Q j (fun a' w' => GivesIf P ops S oi v a' ∧ K (a'.put oi.dst v) w') a w := by
  obtain ⟨h1, h2, h3⟩ := Oper.apart_spec hap
  have keep : ∀ u, GivesIf P ops S oi v (a.put oj.dst u) := fun u => gives_same hy (execOp_put oi hsi a oj.dst u h3) (wanted_put oi a oj.dst u h3)
  have next : ∀ (u : Value) (w' : World), K ((a.put oi.dst v).put oj.dst u) w' → GivesIf P ops S oi v (a.put oj.dst u) ∧ K ((a.put oj.dst u).put oi.dst v) w' := fun u w' hk => ⟨keep u, by rw [← Act.put_comm a v u h2]; exact hk⟩
  unfold wpOp at h ⊢
  simp only [hj] at h ⊢
  rw [wanted_put oj a oi.dst v h1] at h
  by_cases hw : Region.wanted oj (yielded ops a.tmps) = true
  · rw [if_pos hw] at h ⊢
    rcases h with h | ⟨hasks, hlets⟩
    · left
      unfold Oper.wp at h ⊢
      rw [execOp_put oj hsj a oi.dst v h1] at h
      generalize (execOp a.eval oj).run P w = r at h ⊢
      match r, h with
      | .ok (.value u) w', h => exact next u w' h
      | .ok .skip w', h => exact next undef w' h
      | .ok (.defer d) w', h =>
        have hd : GivesIf P ops S oi v ({ a with defers := d :: a.defers } : Act) := gives_same hy rfl rfl
        refine ⟨gives_same hd (execOp_put oi hsi _ oj.dst undef h3) (wanted_put oi _ oj.dst undef h3), ?_⟩
        rw [← Act.put_comm _ v undef h2, ← Act.put_defers]
        exact h
      | .ok (.enter f args) w', h =>
        refine Calls.mono h fun e w'' he => ?_
        cases e with
        | returned u => exact next u w'' he
        | panicked c => exact hQ _ _ _ he
        | outgrown => exact he
      | .ok (.row row args) w', h => exact Rows.mono h fun u w'' he => next u w'' he
      | .halt (.panic u) w', h => exact hQ _ _ _ h
    · right
      refine ⟨?_, hlets⟩
      unfold Oper.asks at hasks ⊢
      rw [execOp_put oj hsj a oi.dst v h1] at hasks
      exact hasks
  · rw [if_neg hw] at h ⊢
    exact next undef w h
theorem gives_first {i : Nat} {oi : Oper} {v : Value} (hi : ops[i]? = some oi) (hsel : ∀ (j : Nat) (o : Oper) cs b, ops[j]? = some o → o.op ≠ .select cs b) (hQ : ∀ c a w, Q (.panic c) (a.put oi.dst v) w → Q (.panic c) a w) :
    ∀ (fuel : Nat) (listed : Array Bool) (a : Act) (w : World),
      (∀ j oj, ops[j]? = some oj → j ≠ i → listed.getD j true = false → (∀ e ∈ oj.after, Region.binds md e = true → e.on ≠ i) → oi.apart ops oj = true) →
      i ∈ Region.ready md ops listed → GivesIf P ops S oi v a → S w → wpAnyH P md ops Q S fuel (listed.setIfInBounds i true) (a.put oi.dst v) w → wpAnyH P md ops Q S (fuel + 1) listed a w := by
  intro fuel
  induction fuel with
  | zero =>
    intro listed a w _ hr hy hS H
    refine ⟨fun h => absurd hr (by rw [h]; simp), fun j hj => ?_⟩
    by_cases hji : j = i
    · subst hji; exact gives_step hi hy hS ⟨hS, H⟩
    · exact absurd (ready_mono hj hji) (by rw [H.1]; simp)
  | succ fuel ih =>
    intro listed a w hfree hr hy hS H
    refine ⟨fun h => absurd hr (by rw [h]; simp), fun j hj => ?_⟩
    by_cases hji : j = i
    · subst hji; exact gives_step hi hy hS ⟨hS, H⟩
    · obtain ⟨hjun, oj, hoj, hall⟩ := mem_ready.1 hj
      have hiun := (mem_ready.1 hr).1
      have hnot : ∀ e ∈ oj.after, Region.binds md e = true → e.on ≠ i := fun e he hb heq => by
        have h1 := hall e he hb
        rw [heq] at h1
        rcases Nat.lt_or_ge i listed.size with h' | h'
        · simp [h'] at hiun h1
          rw [hiun] at h1
          cases h1
        · simp [Array.getElem?_eq_none h'] at h1
      have h2 := gives_put hoj (hfree j oj hoj hji hjun hnot) (fun cs b => hsel i oi cs b hi) (fun cs b => hsel j oj cs b hoj) hQ hy (H.2 j (ready_mono hj hji))
      refine wpOp_mono (fun a' w' h3 => ⟨h3.2.1, ih (listed.setIfInBounds j true) a' w' (fun k ok hk hki hun hno => hfree k ok hk hki ?_ hno) (ready_mono hr (Ne.symm hji)) h3.1 h3.2.1 ?_⟩) h2
      · by_cases hjk : j = k
        · subst hjk; exact hjun
        · rw [getD_set_ne true hjk] at hun; exact hun
      · rw [Array.setIfInBounds_comm _ _ hji]
        exact h3.2.2
/-- The call is taken first. -/
theorem wpAnyH_call {i : Nat} {oi : Oper} {v : Value} {fuel : Nat} {listed : Array Bool} {a : Act} {w : World} (hi : ops[i]? = some oi) (hs : Region.noSelect ops = true) (hf : Region.free md ops listed i = true) (hr : (Region.ready md ops listed).contains i = true)
    (hQ : ∀ c a w, Q (.panic c) (a.put oi.dst v) w → Q (.panic c) a w) (hw : Region.wanted oi (yielded ops a.tmps) = true) (f : FuncId) (args : Array Value) (he : ∀ w, S w → (execOp a.eval oi).run P w = .ok (.enter f args) w) (hc : ∀ w, S w → Calls P f args w fun e w' => e = .returned v ∧ w' = w) (hS : S w)
    (h : wpAnyH P md ops Q S fuel (listed.setIfInBounds i true) (a.put oi.dst v) w) : wpAnyH P md ops Q S (fuel + 1) listed a w :=
  gives_first hi (Region.noSelect_spec hs) hQ fuel listed a w (Region.free_spec hi hf) (by simpa using hr) ⟨hw, f, args, fun w hS => ⟨he w hS, hc w hS⟩⟩ hS h
end
/-- The condition may be made stronger on the way. -/
theorem wpAnyH_weaken {P : Program} {ops : Array Oper} {Q : Exit → Act → World → Prop} {md : Region.Mode} {S S' : World → Prop} (hS : ∀ w, S' w → S w) : ∀ (fuel : Nat) (listed : Array Bool) (a : Act) (w : World), wpAnyH P md ops Q S' fuel listed a w → wpAnyH P md ops Q S fuel listed a w
  | 0, _, _, _, h => h
  | fuel + 1, _, _, _, h => ⟨h.1, fun i hi => wpOp_mono (fun a' w' h' => ⟨hS w' h'.1, wpAnyH_weaken hS fuel _ a' w' h'.2⟩) (h.2 i hi)⟩
end FmtTake
section RefT
open Go.RowKit Go.Shelf Fx Go.Sort

theorem append_none_c {w : World} (base : Nat) (ty : TypeId) (i : TypeInfo) (hi : Tryz.prog.info? 56 = some i) (v : Value) (n c : Nat) (xs : List Value) (hown : w.ownsRow base 56 4 v n xs) :
    (Builtin.append_ #[50, 50] ty #[v, .slice none 0 c]).run Tryz.prog w = .ok v w := by
  rcases hown.2 with ⟨rfl, rfl⟩ | ⟨g, cap, cur, rfl, _, _, hnc, _⟩
  · simp [Builtin.append_, run_underlying Tryz.underlying50, sizeOf, typeInfo, hi, Builtin.lenOf, Builtin.firstCells]
  · simp [Builtin.append_, run_underlying Tryz.underlying50, sizeOf, typeInfo, hi, Builtin.lenOf, Builtin.firstCells, hnc, storeCells]
theorem flat_one (fs : List Fld) : ∀ u ∈ flat fs, u.oneCell' = true := by
  intro u hu
  unfold flat at hu
  obtain ⟨f, _, hf⟩ := List.mem_flatMap.1 hu
  simp only [fldC, List.mem_cons, List.not_mem_nil, or_false] at hf
  rcases hf with rfl | rfl | rfl | rfl <;> rfl
theorem run_append_flds (w : World) (B : Nat) (ty : TypeId) (v : Value) (n : Nat) (xs : List Value) (hown : w.ownsRow B 56 4 v n xs) (hB : B ≤ w.heap.size) (u : Value) (fs : List Fld) (hF : FldsAt w u fs) (hnm : n + fs.length ≤ 1000) :
    ∃ v' w', (Builtin.append_ #[50, 50] ty #[v, u]).run Tryz.prog w = .ok v' w' ∧ Grew w w' B 56 4 v v' (n + fs.length) (xs ++ flat fs) := by
  obtain ⟨i0, hi, hz0, hz1, hz2⟩ := info_parts infoFld
  rcases hF with ⟨a, c, rfl, rfl⟩ | ⟨b, off, cap, rfl, h1, h2, h3, h4, h5⟩
  · cases a with
    | none => exact ⟨v, w, append_none_c B ty i0 hi v n c xs hown, ⟨by simpa [flat] using hown, ⟨rfl, rfl, rfl, Nat.le_refl _, fun _ _ _ => rfl⟩, .inl rfl⟩⟩
    | some ad =>
      obtain ⟨v', w', e1, e2, e3, _, e5⟩ := run_append_own_at (P := Tryz.prog) w B 50 ty 56 i0 _ 4 _ Tryz.underlying50 hi hz0 hz1 hz2 rfl (by decide) v n xs hown ad 0 c [] rfl (fun j y hy => by simp at hy) (fun y hy => by simp at hy) (by unfold maxLen; omega) (by simp at hnm; omega) hB
      exact ⟨v', w', e1, e2, e3, e5⟩
  · obtain ⟨v', w', e1, e2, e3, _, e5⟩ := run_append_own_at (P := Tryz.prog) w B 50 ty 56 i0 _ 4 _ Tryz.underlying50 hi hz0 hz1 hz2 rfl (by decide) v n xs hown ⟨b, off, none⟩ fs.length cap (flat fs) (flat_len fs)
      (fun j y hy => by
        have hj : j < fs.length * 4 := by
          rcases Nat.lt_or_ge j (fs.length * 4) with h | h
          · exact h
          · rw [List.getElem?_eq_none (by rw [flat_len]; omega)] at hy; cases hy
        have hadd : (⟨b, off, none⟩ : Addr).add j = ⟨b, off + j, none⟩ := by unfold Addr.add; split <;> simp_all
        have hf := h5 (j / 4) (by omega)
        have hg := flat_get (fs := fs) (i := j / 4) (by omega) (j % 4) (by omega)
        rw [show j / 4 * 4 + j % 4 = j by omega, hy] at hg
        rw [hadd]
        obtain h | h | h | h : j % 4 = 0 ∨ j % 4 = 1 ∨ j % 4 = 2 ∨ j % 4 = 3 := by omega
        all_goals rw [h] at hg; simp [fldC] at hg; subst hg
        · rw [show off + j = off + j / 4 * 4 by omega]; exact hf.c0
        · rw [show off + j = off + j / 4 * 4 + 1 by omega]; exact hf.c1
        · rw [show off + j = off + j / 4 * 4 + 2 by omega]; exact hf.c2
        · rw [show off + j = off + j / 4 * 4 + 3 by omega]; exact hf.c3)
      (flat_one fs) (by unfold maxLen; omega) (by omega) hB
    exact ⟨v', w', e1, e2, e3, e5⟩
theorem wpList_append_flds {ops : Array Oper} {rest : List Oper} {o : Oper} {a : Act} {w : World} {Q : Exit → Act → World → Prop}
    (hg : o.guard = none) (s x : Operand) (hop : o.op = Op.call { callee := Callee.builtin Builtin.append, args := #[s, x], argTypes := #[50, 50] })
    (B : Nat) (v : Value) (n : Nat) (xs : List Value) (hs : a.eval s = v) (hown : w.ownsRow B 56 4 v n xs) (hB : B ≤ w.heap.size) (u : Value) (fs : List Fld) (hx : a.eval x = u) (hF : FldsAt w u fs) (hnm : n + fs.length ≤ 1000)
    (hK : ∀ v' w', Grew w w' B 56 4 v v' (n + fs.length) (xs ++ flat fs) → wpList Tryz.prog ops Q rest (a.put o.dst v') w') : wpList Tryz.prog ops Q (o :: rest) a w :=
  wpList_plain hg fun _ hK' => by
    obtain ⟨v', w', hr, h2⟩ := run_append_flds w B o.type v n xs hown hB u fs hF hnm
    unfold Oper.wp
    simp [execOp, hop, resolve, invoke, builtin, hs, hx, hr, Result.andThen]
    exact hK' _ _ (hK _ _ h2)
theorem findO_step {l : List Fm} {id : Int} {k : Nat} (hk : k < l.length) (h : (l.getD k zm).id ≠ id) : findO (l.drop k) id = findO (l.drop (k + 1)) id := by
  have e : l.getD k zm = l[k] := by simp [List.getD, List.getElem?_eq_getElem hk]
  rw [e] at h
  rw [List.drop_eq_getElem_cons hk]
  unfold findO
  rw [List.find?_cons_of_neg (by simpa using h)]
theorem findO_here {l : List Fm} {id : Int} {k : Nat} (hk : k < l.length) (h : (l.getD k zm).id = id) : findO (l.drop k) id = some (l.getD k zm) := by
  have e : l.getD k zm = l[k] := by simp [List.getD, List.getElem?_eq_getElem hk]
  rw [e] at h ⊢
  rw [List.drop_eq_getElem_cons hk]
  unfold findO
  rw [List.find?_cons_of_pos (by simpa using h)]
theorem own_from {w : World} {B : Nat} {e : TypeId} {size : Nat} {v : Value} {n : Nat} {xs : List Value} (h : w.ownsRow B e size v n xs) {g : Nat} (hg : v.ownBlock = some g) : B ≤ g := by
  rcases h.2 with ⟨rfl, _⟩ | ⟨g', cap, cur, rfl, hg', _⟩
  · simp [Value.ownBlock] at hg
  · simp only [Value.ownBlock, Option.some.injEq] at hg; omega
/-- What a search comes to; the fields are copied. -/
def FindPost3 (o : Option Fm) (id : Int) (w : World) (e : Ending) (w' : World) : Prop :=
  (match o with
  | some f => ∃ v, e = .returned (.tuple #[.agg #[.int .i64 id, v], .bool true]) ∧ FldsAt w' v f.fs ∧ ∀ g, v.ownBlock = some g → w.heap.size ≤ g ∧ g < w'.heap.size
  | none => e = .returned (.tuple #[.agg #[.int .i64 (0), .slice none 0 0], .bool false])) ∧ Below w.heap.size w w'
set_option maxRecDepth 100000 in
set_option maxHeartbeats 2000000 in
theorem rFind3_any (v : Value) (l : List Fm) (id : Int) (w : World) (hV : FmsAt (· < w.heap.size) w v l) (hS : ∀ i, i < l.length → (l.getD i zm).fs.length ≤ 1000) :
    Calls Tryz.prog 28 #[v, .int .i64 id] w (FindPost3 (findO l id) id w) := by
  obtain ⟨a, c, rfl, hlc⟩ := hV.slice_
  obtain ⟨n, hn⟩ : ∃ n, n = l.length := ⟨_, rfl⟩
  rw [← hn] at hV hlc ⊢
  have HV := Lib.hid (And.intro hV (And.intro hn hS))
  clear hV hS hn
  go_enter Tryz.func28, Tryz.ntmps28
  go_wp2_with fail
  obtain ⟨w0, hw0⟩ : ∃ w0, w0 = w.alloc (.cells #[.int .i64 0, .slice none 0 0] 52) := ⟨_, rfl⟩
  rw [← hw0]
  have H0 : Hid (Below w.heap.size w w0 ∧ w0.heap[w.heap.size]? = some (.cells #[.int .i64 0, .slice none 0 0] 52 (0, 0))) := Lib.hid ⟨by rw [hw0]; exact bx _, by rw [hw0]; exact heap_alloc_new _ _⟩
  clear hw0
  go_loop [6] (fun i => ∃ k : Nat, k ≤ n ∧ i = .int .i64 k ∧ Hid (findO l id = findO (l.drop k) id)) (fun i => n - (intOf i).toNat)
  case atStart => exact ⟨0, Nat.zero_le _, rfl, Lib.hid rfl⟩
  case round =>
    obtain ⟨k, hk, rfl, HI⟩ := hrel
    by_cases hkn : k < n
    · have hkl : k < l.length := by have := HV.out.2.1; omega
      obtain ⟨b, off, rfl, -, hbl, -, m1, m2, hfm⟩ := HV.out.1.at_ (by omega)
      obtain ⟨f, hf⟩ : ∃ f, f = l.getD k zm := ⟨_, rfl⟩
      obtain ⟨u, hu⟩ := hfm k hkl
      rw [← hf] at hu
      have hu1 := hu.kept (Kept.of_below H0.out.1 fun _ h => h) hbl
      have c0 := hu1.c0
      have c1 := hu1.c1
      obtain ⟨ua, uc, rfl, hucl⟩ := hu1.fs.slice_
      obtain ⟨m, hm⟩ : ∃ m, m = f.fs.length := ⟨_, rfl⟩
      rw [← hm] at hucl hu hu1 c1
      have lb := World.block_lt_of_cell? (h := c0)
      have hmn : m ≤ 1000 := by rw [hm, hf]; exact HV.out.2.2 k hkl
      have HF := Lib.hid (And.intro hu1.fs (And.intro hm hf))
      unfold maxLen at m2
      by_cases hid : f.id = id
      · have HFO : Hid (findO l id = some f) := Lib.hid (by rw [HI.out, hf]; exact findO_here hkl (by rw [← hf]; exact hid))
        rw [hid] at c0
        have HW : Hid ((w0.alloc (.cells #[] 56)).ownsRow w.heap.size 56 4 (.slice (some ⟨w0.heap.size, 0, none⟩) 0 0) 0 [] ∧ w.heap.size ≤ (w0.alloc (.cells #[] 56)).heap.size ∧ FldsAt (w0.alloc (.cells #[] 56)) (.slice ua m uc) f.fs) := Lib.hid
          ⟨World.ownsRow_lit w0 #[] 0 H0.out.1.size (by unfold maxLen; omega) rfl, by have := H0.out.1.size; simp; omega, HF.out.1.below (bx _)⟩
        have HK : Hid (∀ v1 wA, Grew (w0.alloc (.cells #[] 56)) wA w.heap.size 56 4 (.slice (some ⟨w0.heap.size, 0, none⟩) 0 0) v1 (0 + f.fs.length) ([] ++ flat f.fs) → ∃ a1 c1, v1 = .slice a1 m c1 ∧ Hid (Below w.heap.size w wA ∧ wA.heap[w.heap.size]? = some (.cells #[.int .i64 0, .slice none 0 0] 52 (0, 0)) ∧ FldsAt wA v1 f.fs ∧ ∀ g, v1.ownBlock = some g → (g ≠ w.heap.size ∧ g < wA.heap.size) ∧ w.heap.size ≤ g)) := Lib.hid fun v1 wA hG => by
          rw [Nat.zero_add, List.nil_append] at hG
          have hlt : w.heap.size < w0.heap.size := lt_of_heap H0.out.2
          have hA : wA.heap[w.heap.size]? = some (.cells #[.int .i64 0, .slice none 0 0] 52 (0, 0)) := by
            refine (hG.grown.block _ (by simp; omega) fun e => ?_).trans (((bx _).block _ hlt).trans H0.out.2)
            simp only [Value.ownBlock, Option.some.injEq] at e
            omega
          obtain ⟨a1, c1, rfl, _, _⟩ := own_slice hG.own
          refine ⟨a1, c1, by rw [hm], Lib.hid ⟨(H0.out.1.trans ((bx _).mono H0.out.1.size)).grown hG.grown (by have := H0.out.1.size; simp; omega) (fun g hg => ?_), hA, FldsAt.of_own hG.own, fun g hg => ⟨⟨fun e => ?_, own_lt hG.own hg⟩, own_from hG.own hg⟩⟩⟩
          · simp only [Value.ownBlock, Option.some.injEq] at hg; omega
          · obtain ⟨cur, hh⟩ := own_heap hG.own hg
            rw [e, hA] at hh; cases hh
        clear hfm hu hu1 hm hf hid
        go_wp2_with (first
          | (at_builtin; refine wpList_append_flds rfl (.tmp 21) (.tmp 26) rfl w.heap.size (.slice (some ⟨w0.heap.size, 0, none⟩) 0 0) 0 [] rfl HW.out.1 HW.out.2.1 (.slice ua m uc) f.fs rfl HW.out.2.2 (by have := HF.out.2.1; omega) ?_; intro v1 wA hG; obtain ⟨a1, d1, rfl, H2⟩ := HK.out v1 wA hG; clear hG)
          | (refine wpList_store_row rfl 52 _ _ rfl w.heap.size #[.int .i64 id, .slice a1 m d1] rfl rfl 52 _ H2.out.2.1 (infoFmt2.trans rfl) rfl (by simp [Value.oneCell']) ?_))
        refine bodyPost_ret (v := .tuple #[.agg #[.int .i64 id, .slice a1 m d1], .bool true]) (results_ct_fmt (p := 4) (u := 5) rfl _ _ w.heap.size #[.int .i64 id, .slice a1 m d1] rfl (setRow_heap _ _ _ _ _ _ H2.out.2.1) rfl) rfl ?_
        rw [HFO.out]
        have hk2 : ∀ q, q ≠ w.heap.size → (wA.setRow w.heap.size #[.int .i64 id, .slice a1 m d1]).heap[q]? = wA.heap[q]? := fun q hq => by
          simp only [World.setRow, Array.getElem?_modify]
          rw [if_neg (by omega)]
        exact ⟨⟨_, rfl, H2.out.2.2.1.keep (by simp) (fun g hg => hk2 g (H2.out.2.2.2 g hg).1.1), fun g hg => ⟨(H2.out.2.2.2 g hg).2, by have := (H2.out.2.2.2 g hg).1.2; simpa [World.setRow] using this⟩⟩, H2.out.1.trans ⟨rfl, rfl, rfl, by simp, fun q h => hk2 q (by omega)⟩⟩
      · have HN : Hid (findO l id = findO (l.drop (k + 1)) id) := Lib.hid (by rw [HI.out]; exact findO_step hkl (by rw [← hf]; exact hid))
        clear hfm hu hu1 hm hf
        go_wp2_with fail
        exact ⟨⟨k + 1, by omega, by go_num, HN⟩, by simp [intOf]; omega⟩
    · obtain rfl : k = n := by omega
      have HE : Hid (findO l id = none) := Lib.hid (by rw [HI.out, HV.out.2.1, List.drop_length]; rfl)
      go_wp2_with (first | (refine wpList_store_row rfl 52 _ _ rfl w.heap.size #[.int .i64 0, .slice none 0 0] rfl rfl 52 _ H0.out.2 (infoFmt2.trans rfl) rfl (by simp [Value.oneCell']) ?_))
      refine bodyPost_ret (v := .tuple #[.agg #[.int .i64 0, .slice none 0 0], .bool false]) (results_ct_fmt (p := 4) (u := 5) rfl _ _ w.heap.size #[.int .i64 0, .slice none 0 0] rfl (setRow_heap _ _ _ _ _ _ H0.out.2) rfl) rfl ?_
      rw [HE.out]
      refine ⟨rfl, H0.out.1.trans ⟨rfl, rfl, rfl, by simp, fun q hq => ?_⟩⟩
      simp only [World.setRow, Array.getElem?_modify]
      rw [if_neg (by omega)]
theorem rFind2_any (v : Value) (l : List Fm) (id : Int) (w : World) (hV : FmsAt (· < w.heap.size) w v l) (hS : ∀ i, i < l.length → (l.getD i zm).fs.length ≤ 1000) :
    Calls Tryz.prog 28 #[v, .int .i64 id] w (FindPost2 (findO l id) id w) := (rFind3_any v l id w hV hS).mono fun e w' h => by
  refine ⟨?_, h.2⟩
  have h1 := h.1
  cases hf : findO l id with
  | none => rw [hf] at h1; exact h1
  | some f =>
    rw [hf] at h1
    obtain ⟨u, h2, h3, h4⟩ := h1
    exact ⟨u, h2, h3, fun g hg => (h4 g hg).2⟩
end RefT
section MakC
open Go.RowKit Fx Rec

theorem made_ints (w : World) (m : Nat) (hm : m ≤ 1000) : ∃ w', (Instr.makeSlice 24 (.int .i64 (m : Nat)) (.int .i64 (m : Nat))).run Tryz.prog w = .ok (.slice (some ⟨w.heap.size, 0, none⟩) m m) w' ∧ Below w.heap.size w w' ∧ Blk w' w.heap.size 3 ((List.replicate m (0 : Int)).map fun z => Value.int .i64 z).toArray := by
  obtain ⟨i0, hi, hz0, hz1, hz2⟩ := info_parts infoInt5
  obtain ⟨w', h1, h2, h3⟩ := run_makeSlice_full (P := Tryz.prog) w 0 24 3 i0 _ 1 Tryz.underlying24 hi hz0 hz1 .i64 .i64 m (by omega) (by rw [hz2]; omega) (by unfold maxLen; omega) (Nat.zero_le _)
  refine ⟨w', h1, ⟨h3.os, h3.tape, h3.output, h3.size, fun k hk => h3.block k hk (by simp)⟩, ?_⟩
  rcases h2.2 with ⟨h, _⟩ | ⟨g, cap, cur, e, _, hh, _, _, hs, ht⟩
  · cases h
  · cases e
    have hcur : cur.toList = (List.replicate m (0 : Int)).map fun z => Value.int .i64 z := by
      have h9 : cur.toList.take (m * 1) = cur.toList := List.take_of_length_le (by simp [hs])
      rw [h9] at ht
      rw [ht]
      apply List.ext_getElem
      · simp [madeCells]
      · intro i h1 h2
        simp [madeCells, Value.cells, Nat.mod_one]
    have : cur = ((List.replicate m (0 : Int)).map fun z => Value.int .i64 z).toArray := by rw [← hcur]
    rw [← this]
    exact hh
theorem infoStr : (Tryz.prog.info? 9).map (fun i => (i.zero, i.size, i.bytes)) = some (some (.string ⟨#[]⟩), 1, 16) := by kernel_rfl
theorem run_append_strg (w : World) (ty : TypeId) (v : Value) (n : Nat) (xs : List Value) (hown : w.ownsRow 0 9 1 v n xs) (hn : n ≤ 100000000) (g : Nat) (s : ByteArray) (hg : w.heap[g]? = some (.cells #[.string s] 9 (0, 0))) :
    ∃ v' w', (Builtin.append_ #[34, 34] ty #[v, .slice (some ⟨g, 0, none⟩) 1 1]).run Tryz.prog w = .ok v' w' ∧ Grew w w' 0 9 1 v v' (n + 1) (xs ++ [.string s]) := by
  obtain ⟨i0, hi, hz0, hz1, hz2⟩ := info_parts infoStr
  obtain ⟨v', w', h1, h2, h3, _, h5⟩ := run_append_own_at (P := Tryz.prog) w 0 34 ty 9 i0 _ 1 16 Tryz.underlying34 hi hz0 hz1 hz2 rfl (by decide) v n xs hown ⟨g, 0, none⟩ 1 1 [.string s] rfl
    (fun j u hu => by
      have hadd : (⟨g, 0, none⟩ : Addr).add j = ⟨g, j, none⟩ := by unfold Addr.add; split <;> simp_all
      rw [hadd, cell_of_row w g j _ _ _ hg]; simpa using hu)
    (fun u hu => by simp at hu; subst hu; rfl) (by unfold maxLen; omega) (by omega) (Nat.zero_le _)
  exact ⟨v', w', h1, h2, h3, h5⟩
theorem wpList_append_strg {ops : Array Oper} {rest : List Oper} {o : Oper} {a : Act} {w : World} {Q : Exit → Act → World → Prop}
    (hg : o.guard = none) (s x : Operand) (hop : o.op = Op.call { callee := Callee.builtin Builtin.append, args := #[s, x], argTypes := #[34, 34] })
    (v : Value) (n : Nat) (xs : List Value) (hs : a.eval s = v) (hown : w.ownsRow 0 9 1 v n xs) (hn : n ≤ 100000000) (g : Nat) (y : ByteArray) (hx : a.eval x = .slice (some ⟨g, 0, none⟩) 1 1)
    (hb : w.heap[g]? = some (.cells #[.string y] 9 (0, 0)))
    (hK : ∀ v' w', Grew w w' 0 9 1 v v' (n + 1) (xs ++ [.string y]) → wpList Tryz.prog ops Q rest (a.put o.dst v') w') : wpList Tryz.prog ops Q (o :: rest) a w :=
  wpList_plain hg fun _ hK' => by
    obtain ⟨v', w', hr, h2⟩ := run_append_strg w o.type v n xs hown hn g y hb
    unfold Oper.wp
    simp [execOp, hop, resolve, invoke, builtin, hs, hx, hr, Result.andThen]
    exact hK' _ _ (hK _ _ h2)
/-- A table that the laws make. -/
structure Nice (L : List Fm) : Prop where
  ok : Ok L
  few : L.length ≤ 6
  fs : ∀ j, j < L.length → (L.getD j zm).fs.length ≤ 6
  n4 : ∀ j, j < L.length → ∀ k, k < (L.getD j zm).fs.length → ((L.getD j zm).fs.getD k zf).kind = 3 → 0 ≤ ((L.getD j zm).fs.getD k zf).n ∧ ((L.getD j zm).fs.getD k zf).n ≤ 4
  ints : IntsL L
/-- What a call of value has of its own: its format, how many values of lists there are. -/
structure Loc (w0 w : World) (mb fb cb : Nat) (id : Int) (fv : Value) (fs : List Fld) (cs : List Int) : Prop where
  fblk : Blk w fb 52 #[.int .i64 id, fv]
  cblk : Blk w cb 3 (cs.map fun z => Value.int .i64 z).toArray
  sf : SafeK w mb fb
  sc : SafeK w mb cb
  flo : w0.heap.size ≤ fb
  clo : w0.heap.size ≤ cb
  cl : cs.length = fs.length
  c02 : ∀ j, 0 ≤ cs.getD j 0 ∧ cs.getD j 0 ≤ 2
  flds : FldsAt w fv fs
  fs_ : ∀ b, fv.ownBlock = some b → SafeK w mb b ∧ b < w0.heap.size
section
variable {w0 w w' : World} {mb fb cb : Nat} {id : Int} {fv : Value} {fs : List Fld} {cs : List Int}
theorem Loc.step (h : Loc w0 w mb fb cb id fv fs cs) (hs : StepK mb w w') : Loc w0 w' mb fb cb id fv fs cs :=
  { h with fblk := (hs.same h.sf).trans h.fblk, cblk := (hs.same h.sc).trans h.cblk, sf := hs.safe _ h.sf, sc := hs.safe _ h.sc, flds := h.flds.keep hs.base.size fun b hb => hs.same (h.fs_ b hb).1, fs_ := fun b hb => ⟨hs.safe _ (h.fs_ b hb).1, (h.fs_ b hb).2⟩ }
theorem Loc.cell (h : Loc w0 w mb fb cb id fv fs cs) {j : Nat} (hj : j < fs.length) : w.cell? ⟨cb, j, none⟩ = some (.int .i64 (cs.getD j 0)) ∧ w.frozen? ⟨cb, j, none⟩ = false := by
  refine ⟨?_, h.cblk.frozen j⟩
  rw [h.cblk.cell]
  have hl := h.cl
  simp [List.getD, List.getElem?_eq_getElem (show j < cs.length by omega)]
/-- A number of values is set. -/
theorem Loc.count (h : Loc w0 w mb fb cb id fv fs cs) {j : Nat} {z : Int} (z0 : 0 ≤ z) (z2 : z ≤ 2) (hsafe : ∀ k, SafeK w mb k → SafeK (w.setCell ⟨cb, j, none⟩ (.int .i64 z)) mb k) :
    Loc w0 (w.setCell ⟨cb, j, none⟩ (.int .i64 z)) mb fb cb id fv fs (cs.set j z) := by
  have E : ∀ q, q ≠ cb → (w.setCell ⟨cb, j, none⟩ (.int .i64 z)).heap[q]? = w.heap[q]? := fun q hq => Below.heap_setCell _ _ _ _ hq
  have hsz : (w.setCell ⟨cb, j, none⟩ (.int .i64 z)).heap.size = w.heap.size := by simp [World.setCell]
  refine { h with fblk := (E fb (Blk.ne_ h.fblk h.cblk (by decide))).trans h.fblk, cblk := ?_, sf := hsafe _ h.sf, sc := hsafe _ h.sc, cl := by rw [List.length_set]; exact h.cl, c02 := fun i => ?_, flds := h.flds.keep (by rw [hsz]; exact Nat.le_refl _) fun b hb => E b (by have := (h.fs_ b hb).2; have := h.clo; omega), fs_ := fun b hb => ⟨hsafe _ (h.fs_ b hb).1, (h.fs_ b hb).2⟩ }
  · have := h.cblk.set_ j (.int .i64 z)
    have e : ((cs.map fun z => Value.int .i64 z).toArray).setIfInBounds j (.int .i64 z) = ((cs.set j z).map fun z => Value.int .i64 z).toArray := by
      rw [List.setIfInBounds_toArray, List.map_set]
    rw [e] at this
    exact this
  · rw [List.getD_eq_getElem?_getD, List.getElem?_set]
    split
    · split
      · exact ⟨z0, z2⟩
      · exact ⟨Int.le_refl 0, show (0 : Int) ≤ 2 by decide⟩
    · rw [← List.getD_eq_getElem?_getD]; exact h.c02 i
theorem StepK.other (h : StepK mb w0 w) {q i : Nat} {u : Value} (hq : w0.heap.size ≤ q) (hsafe : ∀ k, SafeK w mb k → SafeK (w.setCell ⟨q, i, none⟩ u) mb k) : StepK mb w0 (w.setCell ⟨q, i, none⟩ u) :=
  ⟨h.base.setCell (fun e => by have := e.lt; simp only at this; omega) _, fun k hk => hsafe k (h.safe k hk)⟩
end
end MakC
end Go.Proofs.YtdndmhlmbpgdeaaGreatDoor
