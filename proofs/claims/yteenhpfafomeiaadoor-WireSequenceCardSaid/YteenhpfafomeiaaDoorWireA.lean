/- The functions fold, zigzag, unfold, pick and NumberFrom return what the plain definitions say. Conditions: each argument within the bounds that its theorem names. -/
import Derived.Test.YteenhpfafomeiaaDoorRows
import Derived.Test.YteenhpfafomeiaaDoorWireMath
import Derived.WalkKit
import Derived.WalkSpells
import Derived.WalkLawsBesides
import Derived.IntWalk
import Derived.Lib.Hide
import Derived.Deep.QuietTactic
import Derived.BigQuiet
namespace Go.Proofs.YteenhpfafomeiaaDoor
open Go.RowKit

theorem ret_int {k : IntKind} {a b : Int} (h : a = b) : Ending.returned (.int k a) = .returned (.int k b) := by rw [h]

theorem zz_neg {n : Int} (h : n < 0) : ((Wm.zz n : Nat) : Int) = 2 * -n - 1 := by unfold Wm.zz; rw [if_pos h]; omega
theorem zz_pos {n : Int} (h : ¬ n < 0) : ((Wm.zz n : Nat) : Int) = 2 * n := by unfold Wm.zz; rw [if_neg h]; omega

set_option maxHeartbeats 400000 in
theorem fold_any (n : Int) (w : World) (h1 : -4611686018427387903 ≤ n) (h2 : n ≤ 4611686018427387903) :
    Calls Tryd.prog 24 #[.int .i64 n] w fun e w' => e = .returned (.int .u64 (Wm.zz n)) ∧ w = w' := by
  by_cases h : n < 0
  · go_enter Tryd.func24, Tryd.ntmps24
    go_wp2
    go_ret
    exact ⟨ret_int (zz_neg h).symm, rfl⟩
  · go_enter Tryd.func24, Tryd.ntmps24
    go_wp2
    go_ret
    exact ⟨ret_int (zz_pos (by omega)).symm, rfl⟩

set_option maxHeartbeats 400000 in
theorem zigzag_any (n : Int) (w : World) (h1 : -4611686018427387903 ≤ n) (h2 : n ≤ 4611686018427387903) :
    Calls Tryd.prog 25 #[.int .i64 n] w fun e w' => e = .returned (.int .u64 (Wm.zz n)) ∧ w = w' := by
  by_cases h : n < 0
  · go_enter Tryd.func25, Tryd.ntmps25
    go_wp2
    go_ret
    exact ⟨ret_int (by rw [zz_neg h]; show -n * 2 - 1 = _; omega), rfl⟩
  · go_enter Tryd.func25, Tryd.ntmps25
    go_wp2
    go_ret
    exact ⟨ret_int (by rw [zz_pos (by omega)]; show n * 2 = _; omega), rfl⟩

set_option maxHeartbeats 400000 in
theorem unfold_any (z : Nat) (w : World) (h1 : z < 9223372036854775808) :
    Calls Tryd.prog 27 #[.int .u64 z] w fun e w' => e = .returned (.int .i64 (Wm.unz z)) ∧ w = w' := by
  by_cases h : z % 2 = 1
  · go_enter Tryd.func27, Tryd.ntmps27
    go_wp2
    go_ret
    exact ⟨ret_int (by unfold Wm.unz; rw [if_pos h]; show _ = _; omega), rfl⟩
  · go_enter Tryd.func27, Tryd.ntmps27
    go_wp2
    go_ret
    exact ⟨ret_int (by unfold Wm.unz; rw [if_neg h]; show _ = _; omega), rfl⟩

def pickI (c n : Int) : Int := (if c < 0 then -(c + 1) else c) % n
set_option maxHeartbeats 400000 in
theorem neg_tmod (c n : Int) (h : c < 0) : -(c + 1).tmod n = -(c + 1) % n := by
  rw [← Int.neg_tmod, Int.tmod_eq_emod_of_nonneg (by omega)]
set_option maxHeartbeats 400000 in
theorem pick_any (c n : Int) (w : World) (h1 : -9223372036854775808 ≤ c) (h2 : c ≤ 9223372036854775807) (h3 : 1 ≤ n) (h4 : n ≤ 9223372036854775807) :
    Calls Tryd.prog 14 #[.int .i64 c, .int .i64 n] w fun e w' => e = .returned (.int .i64 (pickI c n)) ∧ w = w' := by
  by_cases h : c < 0
  · go_enter Tryd.func14, Tryd.ntmps14
    go_wp2
    go_ret
    exact ⟨ret_int (by unfold pickI; rw [if_pos h]; exact neg_tmod c n h), rfl⟩
  · go_enter Tryd.func14, Tryd.ntmps14
    go_wp2
    go_ret
    exact ⟨ret_int (by unfold pickI; rw [if_neg (by omega)]), rfl⟩

theorem pick_eq (c n v : Int) (w : World) (hv : pickI c n = v) (h1 : -9223372036854775808 ≤ c) (h2 : c ≤ 9223372036854775807) (h3 : 1 ≤ n) (h4 : n ≤ 9223372036854775807) :
    Calls Tryd.prog 14 #[.int .i64 c, .int .i64 n] w fun e w' => e = .returned (.int .i64 v) ∧ w = w' := by
  subst hv; exact pick_any c n w h1 h2 h3 h4

theorem pickI_lt (c n : Int) (h3 : 1 ≤ n) : 0 ≤ pickI c n ∧ pickI c n < n := by
  unfold pickI; exact ⟨Int.emod_nonneg _ (by omega), Int.emod_lt_of_pos _ (by omega)⟩

/-- The numbers by which NumberFrom reduces. -/
def nfm (k : Int) : Int := if k = 0 then 64 else if k = 1 then 128 else if k = 2 then 8192 else if k = 3 then 16384 else if k = 4 then 1073741824 else if k = 5 then 36028797018963968 else if k = 6 then 576460752303423488 else 2
/-- What NumberFrom returns. -/
def nfI (c : Int) : Int := if 8 ≤ pickI c 16 then -pickI (pickI c 4611686018427387904 / 8) (nfm (pickI c 8)) else pickI (pickI c 4611686018427387904 / 8) (nfm (pickI c 8))
theorem nfI_fits (c : Int) : Wm.Fits (nfI c) := by
  have h : 1 ≤ nfm (pickI c 8) ∧ nfm (pickI c 8) ≤ 576460752303423488 := by unfold nfm; (repeat' split) <;> simp
  have := pickI_lt (pickI c 4611686018427387904 / 8) _ h.1
  unfold nfI Wm.Fits; split <;> omega

set_option maxHeartbeats 1000000 in
theorem number_any (c : Int) (w : World) (h1 : -9223372036854775808 ≤ c) (h2 : c ≤ 9223372036854775807) :
    Calls Tryd.prog 11 #[.int .i64 c] w fun e w' => e = .returned (.int .i64 (nfI c)) ∧ Below w.heap.size w w' := by
  have hb := pickI_lt c 8 (by omega)
  have hq := pickI_lt c 4611686018427387904 (by omega)
  have hs := pickI_lt c 16 (by omega)
  have h8 : pickI c 8 = 0 ∨ pickI c 8 = 1 ∨ pickI c 8 = 2 ∨ pickI c 8 = 3 ∨ pickI c 8 = 4 ∨ pickI c 8 = 5 ∨ pickI c 8 = 6 ∨ pickI c 8 = 7 := by omega
  rcases h8 with h8 | h8 | h8 | h8 | h8 | h8 | h8 | h8
  all_goals
    have hm := pickI_lt (pickI c 4611686018427387904 / 8) (nfm (pickI c 8)) (by rw [h8]; decide)
    have hn : nfI c = if 8 ≤ pickI c 16 then -pickI (pickI c 4611686018427387904 / 8) (nfm (pickI c 8)) else pickI (pickI c 4611686018427387904 / 8) (nfm (pickI c 8)) := rfl
    rw [h8] at hn hm
    simp only [nfm, Int.reduceEq, if_true, if_false] at hn hm
    have HN := Lib.hid hn
    have H8 := Lib.hid h8
    clear hn h8
    go_enter Tryd.func11, Tryd.ntmps11
    go_wp2_with fail
    refine (pick_any _ _ _ (by omega) (by omega) (by omega) (by omega)).mono ?_; rintro e w' ⟨rfl, rfl⟩
    go_wp2_with fail
    refine (pick_eq _ _ _ _ H8.out (by omega) (by omega) (by omega) (by omega)).mono ?_; rintro e w' ⟨rfl, rfl⟩
    go_wp2_with fail
    refine (pick_any _ _ _ (by omega) (by omega) (by omega) (by omega)).mono ?_; rintro e w' ⟨rfl, rfl⟩
    go_wp2_with fail
    refine (pick_any _ _ _ (by omega) (by omega) (by omega) (by omega)).mono ?_; rintro e w' ⟨rfl, rfl⟩
    go_wp2_with fail
    all_goals
      go_ret
      refine ⟨ret_int ?_, (Below.refl _ _).alloc (Nat.le_refl _) _⟩
      rw [HN.out]
      first | exact (if_pos (by omega)).symm | exact (if_neg (by omega)).symm
end Go.Proofs.YteenhpfafomeiaaDoor
