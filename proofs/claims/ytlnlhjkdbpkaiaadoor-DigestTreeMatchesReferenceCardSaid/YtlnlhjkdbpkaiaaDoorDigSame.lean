/- Same returns whether two lists are equal. Conditions: both are readable. -/
import Derived.Test.YtlnlhjkdbpkaiaaDoorDigApp
namespace Go.Proofs.YtlnlhjkdbpkaiaaDoor
open Go.RowKit

theorem list_eq_of_get {la lb : List ByteArray} (h : la.length = lb.length) (h2 : ∀ k, k < la.length → la.getD k ByteArray.empty = lb.getD k ByteArray.empty) : la = lb := by
  refine List.ext_getElem h (fun k h1 h3 => ?_)
  have := h2 k h1
  simpa [List.getD, List.getElem?_eq_getElem h1, List.getElem?_eq_getElem h3] using this

set_option maxRecDepth 100000 in
set_option maxHeartbeats 4000000 in
theorem same_some (la lb : List ByteArray) (b off cap b2 off2 cap2 : Nat) (w : World) (hl : la.length = lb.length) (hma : la.length ≤ 9223372036854775807) (hSa : StrsAt w b off la) (hSb : StrsAt w b2 off2 lb) :
    Calls Tryd.prog 25 #[.slice (some ⟨b, off, none⟩) la.length cap, .slice (some ⟨b2, off2, none⟩) lb.length cap2] w fun e w' => e = .returned (.bool (decide (la = lb))) ∧ Below w.heap.size w w' := by
  obtain ⟨m, hm⟩ : ∃ m, m = la.length := ⟨_, rfl⟩
  have HSA : Hid (∀ k, k < m → w.cell? ⟨b, off + k, none⟩ = some (.string (la.getD k ByteArray.empty))) := Lib.hid (fun k hk => hSa k (by omega))
  have HSB : Hid (∀ k, k < m → w.cell? ⟨b2, off2 + k, none⟩ = some (.string (lb.getD k ByteArray.empty))) := Lib.hid (fun k hk => hSb k (by omega))
  have HEQ : Hid ((∀ k, k < m → la.getD k ByteArray.empty = lb.getD k ByteArray.empty) → la = lb) := Lib.hid (fun h => list_eq_of_get hl (fun k hk => h k (by omega)))
  have HW : Hid (∀ n, Below w.heap.size w (w.drewN n)) := Lib.hid (fun n => ⟨rfl, rfl, rfl, Nat.le_refl _, fun _ _ => rfl⟩)
  rw [← hl, ← hm]
  rw [← hm] at hma
  clear hSa hSb hl hm
  go_enter Tryd.func25, Tryd.ntmps25
  go_wp2
  go_loopw [5] (fun c wr => ∃ k : Nat, k ≤ m ∧ c = .int .i64 k ∧ (∀ W b o v, w.cell? ⟨b, o, none⟩ = some v → W = wr → W.cell? ⟨b, o, none⟩ = some v) ∧ Below w.heap.size w wr ∧ (∀ j, j < k → la.getD j ByteArray.empty = lb.getD j ByteArray.empty)) (fun c _ => m - (intOf c).toNat)
  case atStart => exact ⟨0, by omega, rfl, fun W b o v h e => by subst e; exact h, Below.refl _ _, fun j hj => by omega⟩
  case round =>
    obtain ⟨k, hk, rfl, hST, hB, hE⟩ := hrel
    have HST := Lib.hid hST
    have HB := Lib.hid hB
    have HE := Lib.hid hE
    clear hST hB hE
    by_cases hkm : k < m
    · have hc1 := HST.out wr b (off + k) _ (HSA.out k hkm) rfl
      have hc2 := HST.out wr b2 (off2 + k) _ (HSB.out k hkm) rfl
      obtain ⟨x, hx⟩ : ∃ x, x = la.getD k ByteArray.empty := ⟨_, rfl⟩
      obtain ⟨y, hy⟩ : ∃ y, y = lb.getD k ByteArray.empty := ⟨_, rfl⟩
      rw [← hx] at hc1
      rw [← hy] at hc2
      have HX := Lib.hid hx
      have HY := Lib.hid hy
      have i0 : 0 ≤ (k : Int) := by omega
      have i1 : (k : Int) < (m : Int) := by omega
      clear hx hy
      by_cases hxy : x = y
      · have t1 : (x.toList == y.toList) = true := by rw [str_beq]; simpa using hxy
        have HXY := Lib.hid hxy
        clear hxy
        go_wp2
        go_quiet (fail)
        go_wp2
        go_roundw
        case rel => exact ⟨k + 1, by omega, by go_num, fun W b o v h e => by subst e; exact HST.out wr b o v h rfl, HB.out.trans ⟨rfl, rfl, rfl, Nat.le_refl _, fun _ _ => rfl⟩, fun j hj => by
          by_cases h : j = k
          · subst h; rw [← HX.out, ← HY.out]; exact HXY.out
          · exact HE.out j (by omega)⟩
        case measure => simp [intOf]; omega
      · have t1 : (x.toList == y.toList) = false := by rw [str_beq]; simpa using hxy
        have HV : Hid (decide (la = lb) = false) := Lib.hid (by
          simp only [decide_eq_false_iff_not]
          rintro rfl
          exact hxy (by rw [HX.out, HY.out]))
        clear hxy
        go_wp2
        go_quiet (fail)
        go_wp2
        go_ret
        exact ⟨by rw [HV.out]; rfl, HB.out.trans ⟨rfl, rfl, rfl, Nat.le_refl _, fun _ _ => rfl⟩⟩
    · have HV : Hid (decide (la = lb) = true) := Lib.hid (by
        simp only [decide_eq_true_eq]
        exact HEQ.out (fun j hj => HE.out j (by omega)))
      go_wp2
      go_ret
      exact ⟨by rw [HV.out]; rfl, HB.out⟩
set_option maxRecDepth 100000 in
set_option maxHeartbeats 4000000 in
theorem same_off (a1 a2 : Option Addr) (n1 n2 c1 c2 : Nat) (w : World) (h : n1 ≠ n2) :
    Calls Tryd.prog 25 #[.slice a1 n1 c1, .slice a2 n2 c2] w fun e w' => e = .returned (.bool false) ∧ Below w.heap.size w w' := by
  have q : ((n1 : Int) == (n2 : Int)) = false := by simp; omega
  have q' : (n1 : Int) ≠ (n2 : Int) := by omega
  go_enter Tryd.func25, Tryd.ntmps25
  go_wp2
  go_ret
  exact ⟨rfl, Below.refl _ _⟩
set_option maxRecDepth 100000 in
set_option maxHeartbeats 4000000 in
theorem same_nil (a1 a2 : Option Addr) (c1 c2 : Nat) (w : World) :
    Calls Tryd.prog 25 #[.slice a1 0 c1, .slice a2 0 c2] w fun e w' => e = .returned (.bool true) ∧ Below w.heap.size w w' := by
  go_enter Tryd.func25, Tryd.ntmps25
  go_wp2
  refine wp_loop_rounds 1 ?_
  rw [rounds_succ]
  go_wp2
  go_ret
  exact ⟨rfl, Below.refl _ _⟩
theorem ListAt.form {W : World} {v : Value} {l : List ByteArray} (h : ListAt W v l) : ∃ a c, v = .slice a l.length c := by
  obtain ⟨_, ⟨a, c, rfl, rfl⟩ | ⟨b, off, cap, rfl, _⟩⟩ := h
  · exact ⟨_, _, rfl⟩
  · exact ⟨_, _, rfl⟩
theorem same_any (va vb : Value) (la lb : List ByteArray) (w : World) (hA : ListAt w va la) (hB : ListAt w vb lb) :
    Calls Tryd.prog 25 #[va, vb] w fun e w' => e = .returned (.bool (decide (la = lb))) ∧ Below w.heap.size w w' := by
  by_cases hl : la.length = lb.length
  · obtain ⟨_, ha⟩ := hA
    obtain ⟨_, hb⟩ := hB
    rcases ha with ⟨a, c, rfl, rfl⟩ | ⟨b, off, cap, rfl, k1, k2, k3, k4, k5⟩
    · rcases hb with ⟨a2, c2, rfl, rfl⟩ | ⟨b2, off2, cap2, rfl, j1, j2, j3, j4, j5⟩
      · exact same_nil _ _ _ _ w
      · simp at hl; omega
    · rcases hb with ⟨a2, c2, rfl, rfl⟩ | ⟨b2, off2, cap2, rfl, j1, j2, j3, j4, j5⟩
      · rw [hl] at k1; simp at k1
      · exact same_some la lb b off cap b2 off2 cap2 w hl (by omega) k4 j4
  · obtain ⟨a, c, rfl⟩ := hA.form
    obtain ⟨a2, c2, rfl⟩ := hB.form
    rw [show decide (la = lb) = false by simp only [decide_eq_false_iff_not]; rintro rfl; exact hl rfl]
    exact same_off a a2 _ _ c c2 w hl
end Go.Proofs.YtlnlhjkdbpkaiaaDoor
