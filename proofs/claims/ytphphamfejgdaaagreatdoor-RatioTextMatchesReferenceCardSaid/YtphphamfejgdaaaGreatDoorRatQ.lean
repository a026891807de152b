/- is and made. Conditions: ints; the variable of the error holds a pointer. -/
import Derived.Test.YtphphamfejgdaaaGreatDoorRatV
import Derived.Deep.RegionHeld3
namespace Go.Proofs.YtphphamfejgdaaaGreatDoor
open Go.RowKit

theorem is_any (n d : Int) (w : World) :
    Calls Tryz.prog 9 #[.int .i64 n, .int .i64 d] w fun e w' => e = .returned (frac n d) ∧ Below w.heap.size w w' := by
  go_enter Tryz.func9, Tryz.ntmps9
  go_wp2
  exact bodyPost_ret (v := frac n d) (by simp [results, Tryz.results9, go_sem]) rfl ⟨rfl, (Below.refl _ _).alloc (Nat.le_refl _) _⟩

theorem cell_set {w : World} {a b : Addr} {v u : Value} (h : w.cell? b = some u) : (w.setCell a v).cell? b = some (if a = b then v else u) := by
  by_cases e : a = b
  · subst e; rw [if_pos rfl, World.cell?_setCell_same _ _ _ h]
  · rw [if_neg e, World.cell?_setCell_other _ _ _ _ e, h]
/-- The memory of made: what came in, the result, the row of fractions. -/
structure MadeAt (w : World) (B : Nat) (X L : Nat → Int) : Prop where
  x : ∀ k, k < 6 → w.cell? ⟨B, k, none⟩ = some (.int .i64 (X k))
  r : ∀ k, k < 6 → w.cell? ⟨B + 1, k, none⟩ = some (.int .i64 0)
  rz : ∀ k, k < 6 → w.frozen? ⟨B + 1, k, none⟩ = false
  l : ∀ k, k < 6 → w.cell? ⟨B + 1 + 1, k, none⟩ = some (.int .i64 (L k))
  lz : ∀ k, k < 6 → w.frozen? ⟨B + 1 + 1, k, none⟩ = false
  lt : B + 1 + 1 < w.heap.size
theorem MadeAt.below {w w' : World} {B : Nat} {X L : Nat → Int} (h : MadeAt w B X L) (hb : Below w.heap.size w w') : MadeAt w' B X L := by
  obtain ⟨hc, hz⟩ := bcell hb
  have := h.lt
  exact ⟨fun k hk => by rw [hc _ _ (by omega)]; exact h.x k hk, fun k hk => by rw [hc _ _ (by omega)]; exact h.r k hk, fun k hk => by rw [hz _ _ (by omega)]; exact h.rz k hk,
    fun k hk => by rw [hc _ _ (by omega)]; exact h.l k hk, fun k hk => by rw [hz _ _ (by omega)]; exact h.lz k hk, by have := hb.size; omega⟩
/-- The row when i of its fractions are made. -/
def madeL (X : Nat → Int) (i k : Nat) : Int := if k < 2 * i then (if k % 2 = 0 then Rt.nm (Rt.mk (X k) (X (k + 1))) else Rt.dn (Rt.mk (X (k - 1)) (X k))) else 0
theorem MadeAt.set {w : World} {B i : Nat} {X : Nat → Int} {x y : Int} (h : MadeAt w B X (madeL X i)) (hi : i < 3) (hx : Rt.nm (Rt.mk (X (i * 2)) (X (i * 2 + 1))) = x) (hy : Rt.dn (Rt.mk (X (i * 2)) (X (i * 2 + 1))) = y) :
    MadeAt ((w.setCell ⟨B + 1 + 1, i * 2, none⟩ (.int .i64 x)).setCell ⟨B + 1 + 1, i * 2 + 1, none⟩ (.int .i64 y)) B X (madeL X (i + 1)) := by
  have hlt := h.lt
  refine ⟨fun k hk => ?_, fun k hk => ?_, fun k hk => ?_, fun k hk => ?_, fun k hk => ?_, by simp; omega⟩
  · rw [cell_set (cell_set (h.x k hk)), if_neg (by simp), if_neg (by simp)]
  · rw [cell_set (cell_set (h.r k hk)), if_neg (by simp), if_neg (by simp)]
  · rw [World.frozen?_setCell, World.frozen?_setCell]; exact h.rz k hk
  · rw [cell_set (cell_set (h.l k hk))]
    by_cases h1 : k = i * 2 + 1
    · subst h1
      rw [if_pos rfl]
      unfold madeL
      rw [if_pos (by omega), if_neg (by omega), show i * 2 + 1 - 1 = i * 2 by omega, hy]
    · rw [if_neg (fun e => h1 (by injection e with _ e2; exact e2.symm))]
      by_cases h2 : k = i * 2
      · subst h2
        rw [if_pos rfl]
        unfold madeL
        rw [if_pos (by omega), if_pos (by omega), hx]
      · rw [if_neg (fun e => h2 (by injection e with _ e2; exact e2.symm))]
        unfold madeL
        by_cases h3 : k < 2 * i
        · rw [if_pos h3, if_pos (show k < 2 * (i + 1) by omega)]
        · rw [if_neg h3, if_neg (show ¬ k < 2 * (i + 1) by omega)]
  · rw [World.frozen?_setCell, World.frozen?_setCell]; exact h.lz k hk
end Go.Proofs.YtphphamfejgdaaaGreatDoor
