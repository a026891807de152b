/- Rows of numbers in memory: how they read, and what a store does to them. No condition of its own. -/
import Derived.Test.YtlnlhjkdbpkaiaaDoorDigA
import Derived.Laws.Rows
import Derived.Laws.Tables
namespace Go.Proofs.YtlnlhjkdbpkaiaaDoor
open Go.RowKit

def cellsN (k : IntKind) (l : List Nat) : Array Value := (l.map fun (n : Nat) => Value.int k (n : Int)).toArray
theorem cellsN_size (k : IntKind) (l : List Nat) : (cellsN k l).size = l.length := by simp [cellsN]
theorem cellsN_one (k : IntKind) (l : List Nat) : (cellsN k l).all (·.oneCell') = true := by
  rw [Array.all_eq_true_iff_forall_mem]
  intro v hv
  simp only [cellsN, List.mem_toArray, List.mem_map] at hv
  obtain ⟨n, _, rfl⟩ := hv
  rfl
/-- Block B is the row of these numbers. -/
def Row (W : World) (B : Nat) (T : TypeId) (k : IntKind) (l : List Nat) : Prop := W.heap[B]? = some (.cells (cellsN k l) T (0, 0))
theorem Row.cell {W : World} {B : Nat} {T : TypeId} {k : IntKind} {l : List Nat} (h : Row W B T k l) {j : Nat} (hj : j < l.length) : W.cell? ⟨B, j, none⟩ = some (.int k ((l.getD j 0 : Nat) : Int)) := by
  unfold Row at h
  rw [cell_of_row W B j _ T _ h]
  simp [cellsN, List.getD, List.getElem?_eq_getElem hj]
theorem Row.frozen {W : World} {B : Nat} {T : TypeId} {k : IntKind} {l : List Nat} (h : Row W B T k l) (j : Nat) : W.frozen? ⟨B, j, none⟩ = false := by
  unfold Row at h
  simp [World.frozen?, h]
theorem Row.lt {W : World} {B : Nat} {T : TypeId} {k : IntKind} {l : List Nat} (h : Row W B T k l) : B < W.heap.size := (Array.getElem?_eq_some_iff.1 h).1
theorem Row.below {W W' : World} {B n : Nat} {T : TypeId} {k : IntKind} {l : List Nat} (h : Row W B T k l) (hb : Below n W W') (hB : B < n) : Row W' B T k l := (hb.block B hB).trans h
theorem Row.alloc {W : World} {B : Nat} {T : TypeId} {k : IntKind} {l : List Nat} (h : Row W B T k l) (o : Obj) : Row (W.alloc o) B T k l := (Below.heap_alloc W o B h.lt).trans h
theorem Row.other {W : World} {B : Nat} {T : TypeId} {k : IntKind} {l : List Nat} (h : Row W B T k l) (p : Addr) (hp : B ≠ p.block) (v : Value) : Row (W.setCell p v) B T k l := (Below.heap_setCell W p v B hp).trans h
theorem Row.set {W : World} {B : Nat} {T : TypeId} {k : IntKind} {l : List Nat} (h : Row W B T k l) (j v : Nat) : Row (W.setCell ⟨B, j, none⟩ (.int k (v : Int))) B T k (l.set j v) := by
  unfold Row at h ⊢
  have h' := heap_setCell_same W B j _ T (.int k (v : Int)) h
  rw [h']
  simp [cellsN]
theorem Row.drewN {W : World} {B : Nat} {T : TypeId} {k : IntKind} {l : List Nat} (h : Row W B T k l) (q : Nat) : Row (W.drewN q) B T k l := by
  unfold Row at h ⊢; simpa using h
theorem Row.drew {W : World} {B : Nat} {T : TypeId} {k : IntKind} {l : List Nat} (h : Row W B T k l) : Row W.drew B T k l := h
theorem Row.new (W : World) (T : TypeId) (k : IntKind) (l : List Nat) : Row (W.alloc (.cells (cellsN k l) T)) W.heap.size T k l := heap_alloc_new W _
theorem Row.new' (W : World) (T : TypeId) (k : IntKind) (l : List Nat) {B : Nat} {cs : Array Value} (hB : B = W.heap.size) (hc : cs = cellsN k l) : Row (W.alloc (.cells cs T)) B T k l := by subst hB; subst hc; exact Row.new W T k l
/-- A new row that is filled at once. -/
theorem alloc_setRow (w : World) (cs cs' : Array Value) (T : TypeId) (fr : Nat × Nat) : (w.alloc (.cells cs T fr)).setRow w.heap.size cs' = w.alloc (.cells cs' T fr) := by
  simp only [World.setRow, World.alloc]
  congr 1
  apply Array.ext_getElem?
  intro i
  rw [Array.getElem?_modify, Array.getElem?_push, Array.getElem?_push]
  by_cases h : w.heap.size = i
  · subst h; simp
  · rw [if_neg h, if_neg (by omega), if_neg (by omega)]
/-- A list filled with zeros up to 64 places. -/
def fill (l : List Nat) : List Nat := l ++ List.replicate (64 - l.length) 0
theorem fill_len {l : List Nat} (h : l.length ≤ 64) : (fill l).length = 64 := by simp [fill]; omega
theorem fill_get (l : List Nat) (j : Nat) : (fill l).getD j 0 = l.getD j 0 := by
  simp only [fill, List.getD, List.getElem?_append]
  split
  · rfl
  · rename_i h
    rw [List.getElem?_eq_none (by omega : l.length ≤ j), List.getElem?_replicate]
    split <;> rfl
theorem fill_zero {l : List Nat} (h : l.length < 64) : fill (l ++ [0]) = fill l := by
  unfold fill
  rw [List.append_assoc, List.length_append, List.length_singleton, show 64 - l.length = (64 - (l.length + 1)) + 1 by omega, List.replicate_succ]
  rfl
theorem fill_put {l : List Nat} (x v : Nat) : (fill (l ++ [x])).set l.length v = fill (l ++ [v]) := by
  unfold fill
  simp [List.append_assoc]
theorem fill_full {l : List Nat} (h : l.length = 64) : fill l = l := by simp [fill, h]
end Go.Proofs.YtlnlhjkdbpkaiaaDoor
