/- sane returns true. Condition: the table wire.steps holds its sixteen numbers. -/
import Derived.Test.YteenhpfafomeiaaDoorWireS
import Derived.Test.YteenhpfafomeiaaDoorWireC
namespace Go.Proofs.YteenhpfafomeiaaDoor
open Go.RowKit

theorem putInt_as (k : Int) (l : Array UInt8) (w : World) (h : (Wm.encI k).toArray = l) (hk : Wm.Fits k) :
    Calls Tryd.prog 12 #[.int .i64 k] w fun e w' => e = .returned (.tuple #[.string ⟨l⟩, .int .i64 0]) ∧ Below w.heap.size w w' := by
  subst h; exact putInt_ok k w hk
theorem putString_as (s : ByteArray) (V : Value) (w : World) (hs : s.size ≤ maxLen) (h : putSV s = V) :
    Calls Tryd.prog 19 #[.string s] w fun e w' => e = .returned V ∧ Below w.heap.size w w' := by
  subst h; exact putString_any s w hs
theorem string_as (s : ByteArray) (p : Int) (V : Value) (w : World) (hs : s.size ≤ maxLen) (h : strV s.data.toList p = V) :
    Calls Tryd.prog 17 #[.string s, .int .i64 p] w fun e w' => e = .returned V ∧ Below w.heap.size w w' := by
  subst h; exact string_any s p w hs
theorem sum_as (s : ByteArray) (n : Int) (w : World) (hs : s.size ≤ maxLen) (hT : TabAt w) (h : ((Wm.crc s.data.toList : Nat) : Int) = n) :
    Calls Tryd.prog 21 #[.string s] w fun e w' => e = .returned (.int .i64 n) ∧ w = w' := by
  subst h; exact sum_any s w hs hT

set_option maxRecDepth 100000 in
set_option maxHeartbeats 4000000 in
theorem sane_any (w : World) (hT : TabAt w) (hg : 0 < w.heap.size) :
    Calls Tryd.prog 10 #[] w fun e w' => e = .returned (.bool true) ∧ Below w.heap.size w w' := by
  have HT := Lib.hid hT
  clear hT
  go_enter Tryd.func10, Tryd.ntmps10
  go_wp2_with fail
  refine (putInt_as (-64) #[127] _ (by decide) ⟨by decide, by decide⟩).mono ?_; rintro e w1 ⟨rfl, hB1⟩
  go_wp2_with fail
  refine (putInt_as 64 #[128, 1] _ (by decide) ⟨by decide, by decide⟩).mono ?_; rintro e w2 ⟨rfl, hB2⟩
  go_wp2_with fail
  refine (int_as _ _ (.tuple #[.int .i64 150, .int .i64 3, .int .i64 0]) _ (by decide) (by rfl)).mono ?_; rintro e w' ⟨rfl, rfl⟩
  go_wp2_with fail
  refine (int_as _ _ (.tuple #[.int .i64 0, .int .i64 0, .int .i64 10]) _ (by decide) (by rfl)).mono ?_; rintro e w' ⟨rfl, rfl⟩
  go_wp2_with fail
  refine (putString_as _ (.tuple #[.string ⟨#[4, 97, 98]⟩, .int .i64 0]) _ (by decide) (by rfl)).mono ?_; rintro e w3 ⟨rfl, hB3⟩
  go_wp2_with fail
  refine (string_as _ _ (.tuple #[.string ⟨#[97, 98]⟩, .int .i64 3, .int .i64 0]) _ (by decide) (by rfl)).mono ?_; rintro e w4 ⟨rfl, hB4⟩
  go_wp2_with fail
  refine (string_as _ _ (.tuple #[.string ⟨#[]⟩, .int .i64 0, .int .i64 10]) _ (by decide) (by rfl)).mono ?_; rintro e w5 ⟨rfl, hB5⟩
  go_wp2_with fail
  refine (putInt_no _ _ (by unfold Wm.Fits; omega)).mono ?_; rintro e w' ⟨rfl, rfl⟩
  go_wp2_with fail
  refine (int_as _ _ (.tuple #[.int .i64 0, .int .i64 0, .int .i64 2]) _ (by decide) (by rfl)).mono ?_; rintro e w' ⟨rfl, rfl⟩
  go_wp2_with fail
  have hB : Below w.heap.size w w5 := ((((hB1.trans (hB2.mono hB1.size)).trans (hB3.mono (Nat.le_trans hB1.size hB2.size))).trans (hB4.mono (Nat.le_trans (Nat.le_trans hB1.size hB2.size) hB3.size))).trans (hB5.mono (Nat.le_trans (Nat.le_trans (Nat.le_trans hB1.size hB2.size) hB3.size) hB4.size)))
  refine (sum_as _ 3808858755 _ (by decide) (HT.out.below hB hg) (by decide +kernel)).mono ?_; rintro e w' ⟨rfl, rfl⟩
  go_wp2_with fail
  go_ret
  exact ⟨rfl, hB⟩
end Go.Proofs.YteenhpfafomeiaaDoor
