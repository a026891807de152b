/- Sum, Leaf, Node and Chain return the SHA-256 of what the chapter says. Conditions: the strings are together less than 2^40 bytes; the tables digest.initial and digest.constants hold their numbers. -/
import Derived.Test.YtlnlhjkdbpkaiaaDoorDigG
import Derived.Test.YtlnlhjkdbpkaiaaDoorDigTree
namespace Go.Proofs.YtlnlhjkdbpkaiaaDoor
open Go.RowKit

/-- The digest of a string. -/
def shaB (s : ByteArray) : ByteArray := ⟨(Ds.sha s.data.toList).toArray⟩
theorem shaB_size (s : ByteArray) : (shaB s).size = 32 := by
  show (Ds.sha s.data.toList).toArray.size = 32
  rw [List.size_toArray]; exact Ds.sha_len _
theorem cat_list (l : List ByteArray) : ∀ k, k ≤ l.length → cat (fun i => l.getD i ByteArray.empty) k = ((l.take k).map fun s => s.data.toList).flatten := by
  intro k
  induction k with
  | zero => intro _; rfl
  | succ k ih =>
    intro h
    rw [cat, ih (by omega), List.take_succ_eq_append_getElem (by omega)]
    rw [List.map_append, List.flatten_append]
    congr 1
    simp [List.getD, show k < l.length by omega]
theorem cat_all (l : List ByteArray) : cat (fun i => l.getD i ByteArray.empty) l.length = (l.map fun s => s.data.toList).flatten := by
  rw [cat_list l _ (Nat.le_refl _), List.take_length]

/-- sum of the strings of a fresh row. -/
theorem sum_list (l : List ByteArray) (pb c : Nat) (w : World) (V : ByteArray) (hV : V.data.toList = (l.map fun s => s.data.toList).flatten) (hP : ∀ k, k < l.length → w.cell? ⟨pb, 0 + k, none⟩ = some (.string (l.getD k ByteArray.empty))) (hpb : pb < w.heap.size) (hT : Tabs w) (hlen : V.size ≤ 1099511627776) (n : Nat) (hn : n = l.length) (h3 : n ≤ 3) :
    Calls Tryd.prog 37 #[.slice (some ⟨pb, 0, none⟩) n c] w fun e w' => e = .returned (.string (shaB V)) ∧ Below w.heap.size w w' := by
  subst hn
  have h := sum_any pb 0 l.length c (fun i => l.getD i ByteArray.empty) w hP hpb hT (by rw [cat_all, ← hV, ← Lib.size_eq]; exact hlen) (by unfold maxLen; omega)
  rw [cat_all, ← hV] at h
  exact h

set_option maxHeartbeats 1000000 in
theorem Sum_any (s : ByteArray) (w : World) (hT : Tabs w) (hs : s.size ≤ 549755813888) :
    Calls Tryd.prog 12 #[.string s] w fun e w' => e = .returned (.string (shaB s)) ∧ Below w.heap.size w w' := by
  have HT := Lib.hid hT
  clear hT
  go_enter Tryd.func12, Tryd.ntmps12
  go_wp2_with fail
  refine (sum_list [s] w.heap.size 1 _ s (by simp) (fun k hk => ?_) (by simp) (HT.out.below ((Below.refl _ w).alloc (Nat.le_refl _) _)) (by omega) 1 rfl (by omega)).mono ?_
  · obtain rfl : k = 0 := by simpa using hk
    go_simp
  rintro e w' ⟨rfl, hB⟩
  go_wp2_with fail
  go_ret
  exact ⟨rfl, ((Below.refl _ w).alloc (Nat.le_refl _) _).trans (hB.mono (by simp))⟩


set_option maxHeartbeats 1000000 in
theorem Leaf_any (s : ByteArray) (w : World) (hT : Tabs w) (hs : s.size ≤ 549755813888) :
    Calls Tryd.prog 14 #[.string s] w fun e w' => e = .returned (.string (Dt.leaf shaB s)) ∧ Below w.heap.size w w' := by
  have HT := Lib.hid hT
  clear hT
  go_enter Tryd.func14, Tryd.ntmps14
  go_wp2_with fail
  refine (sum_list [⟨#[0]⟩, s] w.heap.size 2 _ (Dt.leafS s) (by simp [Dt.leafS]) (fun k hk => ?_) (by simp) (HT.out.below ((Below.refl _ w).alloc (Nat.le_refl _) _)) (by simp [Dt.leafS, ByteArray.size_append]; have : (⟨#[0]⟩ : ByteArray).size = 1 := rfl; omega) 2 rfl (by omega)).mono ?_
  · obtain rfl | rfl : k = 0 ∨ k = 1 := by have : k < 2 := hk; omega
    all_goals go_simp
  rintro e w' ⟨rfl, hB⟩
  go_wp2_with fail
  go_ret
  exact ⟨rfl, ((Below.refl _ w).alloc (Nat.le_refl _) _).trans (hB.mono (by simp))⟩

set_option maxHeartbeats 1000000 in
theorem Node_any (a b : ByteArray) (w : World) (hT : Tabs w) (hs : a.size + b.size ≤ 549755813888) :
    Calls Tryd.prog 16 #[.string a, .string b] w fun e w' => e = .returned (.string (Dt.node shaB a b)) ∧ Below w.heap.size w w' := by
  have HT := Lib.hid hT
  clear hT
  go_enter Tryd.func16, Tryd.ntmps16
  go_wp2_with fail
  refine (sum_list [⟨#[1]⟩, a, b] w.heap.size 3 _ (Dt.nodeS a b) (by simp [Dt.nodeS]) (fun k hk => ?_) (by simp) (HT.out.below ((Below.refl _ w).alloc (Nat.le_refl _) _)) (by simp [Dt.nodeS, ByteArray.size_append]; have : (⟨#[1]⟩ : ByteArray).size = 1 := rfl; omega) 3 rfl (by omega)).mono ?_
  · obtain rfl | rfl | rfl : k = 0 ∨ k = 1 ∨ k = 2 := by have : k < 3 := hk; omega
    all_goals go_simp
  rintro e w' ⟨rfl, hB⟩
  go_wp2_with fail
  go_ret
  exact ⟨rfl, ((Below.refl _ w).alloc (Nat.le_refl _) _).trans (hB.mono (by simp))⟩

set_option maxHeartbeats 1000000 in
theorem Chain_any (a b : ByteArray) (w : World) (hT : Tabs w) (hs : a.size + b.size ≤ 549755813888) :
    Calls Tryd.prog 18 #[.string a, .string b] w fun e w' => e = .returned (.string (Dt.chain shaB a b)) ∧ Below w.heap.size w w' := by
  have HT := Lib.hid hT
  clear hT
  go_enter Tryd.func18, Tryd.ntmps18
  go_wp2_with fail
  refine (sum_list [⟨#[2]⟩, a, b] w.heap.size 3 _ (Dt.chainS a b) (by simp [Dt.chainS]) (fun k hk => ?_) (by simp) (HT.out.below ((Below.refl _ w).alloc (Nat.le_refl _) _)) (by simp [Dt.chainS, ByteArray.size_append]; have : (⟨#[2]⟩ : ByteArray).size = 1 := rfl; omega) 3 rfl (by omega)).mono ?_
  · obtain rfl | rfl | rfl : k = 0 ∨ k = 1 ∨ k = 2 := by have : k < 3 := hk; omega
    all_goals go_simp
  rintro e w' ⟨rfl, hB⟩
  go_wp2_with fail
  go_ret
  exact ⟨rfl, ((Below.refl _ w).alloc (Nat.le_refl _) _).trans (hB.mono (by simp))⟩
end Go.Proofs.YtlnlhjkdbpkaiaaDoor
