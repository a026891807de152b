/- The law DigestSumMatchesReference returns true and leaves what lay before the call as it was. Conditions: the arguments are readable; the tables digest.initial and digest.constants hold their numbers. -/
import Derived.Test.YtlnlhjkdbpkaiaaDoorDigRd
import Derived.Test.YtlnlhjkdbpkaiaaDoorDigS
namespace Go.Proofs.YtlnlhjkdbpkaiaaDoor
open Go.RowKit

theorem min_cut500 (x : ByteArray) (q : Nat) (hq : q = min x.size 500) : ∀ (ts : Array TypeId) (t : TypeId) (W : World), (Builtin.min_ ts t #[.int .i64 (x.size : Int), .int .i64 500]).run Tryd.prog W = .ok (.int .i64 (q : Int)) W := by
  intro ts t W
  rw [run_min2, hq]
  congr 2
  split <;> omega
set_option maxRecDepth 100000 in
set_option maxHeartbeats 8000000 in
theorem sumMatches_any (s t : ByteArray) (w : World) (_ws : s.size ≤ maxLen) (_wt : t.size ≤ maxLen) (hT : Tabs w) :
    Calls Tryd.prog 3 #[.string s, .string t] w fun e w' => e = .returned (.bool true) ∧ Below w.heap.size w w' := by
  have HT := Lib.hid hT
  obtain ⟨qs, hqs⟩ : ∃ q, q = min s.size 500 := ⟨_, rfl⟩
  obtain ⟨qt, hqt⟩ : ∃ q, q = min t.size 500 := ⟨_, rfl⟩
  have hmin1 := min_cut500 s qs hqs
  have hmin2 := min_cut500 t qt hqt
  have s1 : qs ≤ s.size := by omega
  have t1 : qt ≤ t.size := by omega
  have s2 : (qs : Int) ≤ (s.size : Int) := by omega
  have t2 : (qt : Int) ≤ (t.size : Int) := by omega
  have s3 : (s.extract 0 qs).size ≤ 500 := by simp; omega
  have t3 : (t.extract 0 qt).size ≤ 500 := by simp; omega
  clear hT hqs hqt
  go_enter Tryd.func3, Tryd.ntmps3
  go_wp2_with fail
  refine (sane_any _ HT.out).mono ?_
  rintro e w0 ⟨rfl, hB0⟩
  have HB0 := Lib.hid hB0
  obtain ⟨sx, hsx⟩ : ∃ x, x = s.extract 0 qs := ⟨_, rfl⟩
  obtain ⟨tx, htx⟩ : ∃ x, x = t.extract 0 qt := ⟨_, rfl⟩
  rw [← hsx] at s3
  rw [← htx] at t3
  have HSX := Lib.hid hsx
  have HTX := Lib.hid htx
  clear hB0 hsx htx
  go_wp2_with fail
  (try rw [← HSX.out])
  (try rw [← HTX.out])
  refine (Sum_any sx _ (HT.out.below HB0.out) (by omega)).mono ?_
  rintro e w1 ⟨rfl, hB1⟩
  have HB1 := Lib.hid (HB0.out.trans (hB1.mono HB0.out.size))
  clear hB1
  go_wp2_with fail
  (try rw [← HSX.out])
  (try rw [← HTX.out])
  refine (rSum_any sx _ (by omega)).mono ?_
  rintro e w2 ⟨rfl, hB2⟩
  have HB2 := Lib.hid (HB1.out.trans (hB2.mono HB1.out.size))
  clear hB2
  go_wp2_with fail
  (try rw [← HSX.out])
  (try rw [← HTX.out])
  refine (Leaf_any tx _ (HT.out.below HB2.out) (by omega)).mono ?_
  rintro e w3 ⟨rfl, hB3⟩
  have HB3 := Lib.hid (HB2.out.trans (hB3.mono HB2.out.size))
  clear hB3
  go_wp2_with fail
  (try rw [← HSX.out])
  (try rw [← HTX.out])
  refine (rLeaf_any tx _ (by omega)).mono ?_
  rintro e w4 ⟨rfl, hB4⟩
  have HB4 := Lib.hid (HB3.out.trans (hB4.mono HB3.out.size))
  clear hB4
  go_wp2_with fail
  (try rw [← HSX.out])
  (try rw [← HTX.out])
  refine (Node_any sx tx _ (HT.out.below HB4.out) (by omega)).mono ?_
  rintro e w5 ⟨rfl, hB5⟩
  have HB5 := Lib.hid (HB4.out.trans (hB5.mono HB4.out.size))
  clear hB5
  go_wp2_with fail
  (try rw [← HSX.out])
  (try rw [← HTX.out])
  refine (rNode_any sx tx _ (by omega)).mono ?_
  rintro e w6 ⟨rfl, hB6⟩
  have HB6 := Lib.hid (HB5.out.trans (hB6.mono HB5.out.size))
  clear hB6
  go_wp2_with fail
  (try rw [← HSX.out])
  (try rw [← HTX.out])
  refine (Chain_any tx sx _ (HT.out.below HB6.out) (by omega)).mono ?_
  rintro e w7 ⟨rfl, hB7⟩
  have HB7 := Lib.hid (HB6.out.trans (hB7.mono HB6.out.size))
  clear hB7
  go_wp2_with fail
  (try rw [← HSX.out])
  (try rw [← HTX.out])
  refine (rChain_any tx sx _ (by omega)).mono ?_
  rintro e w8 ⟨rfl, hB8⟩
  have HB8 := Lib.hid (HB7.out.trans (hB8.mono HB7.out.size))
  clear hB8
  go_wp2_with fail
  go_ret
  exact ⟨rfl, HB8.out⟩
end Go.Proofs.YtlnlhjkdbpkaiaaDoor
