/- The size of an integer and the greatest common divisor. Conditions: the integer is an int; the numbers fit 64 bits. -/
import Derived.Test.YtphphamfejgdaaaGreatDoorProg
import Derived.Test.YtphphamfejgdaaaGreatDoorRatRound
import Derived.WalkKit
import Derived.Outline
import Derived.Below
import Derived.IntWalk
import Derived.LoopTactic
import Derived.Lib.Hide
import Derived.Deep.QuietTactic
import Derived.BigQuiet
namespace Go.Proofs.YtphphamfejgdaaaGreatDoor
open Go.RowKit

theorem u64_neg (n : Int) (h1 : -9223372036854775808 ≤ n) (hn : n < 0) : IntKind.u64.wrap (-(IntKind.u64.wrap n)) = ((n.natAbs : Nat) : Int) := by
  show (-(n % 18446744073709551616)) % 18446744073709551616 = _
  omega
theorem u64_pos (n : Int) (h2 : n ≤ 9223372036854775807) (hn : ¬ n < 0) : IntKind.u64.wrap n = ((n.natAbs : Nat) : Int) := by
  show n % 18446744073709551616 = _
  omega
theorem magnitude_any (n : Int) (m : Nat) (w : World) (h1 : -9223372036854775808 ≤ n) (h2 : n ≤ 9223372036854775807) (hm : n.natAbs = m) :
    Calls Tryz.prog 62 #[.int .i64 n] w fun e w' => e = .returned (.int .u64 m) ∧ w = w' := by
  by_cases hn : n < 0
  · have a2 := u64_neg n h1 hn
    obtain ⟨u, hu⟩ : ∃ u, IntKind.u64.wrap n = u := ⟨_, rfl⟩
    rw [hu, hm] at a2
    clear h1 h2 hm
    go_enter Tryz.func62, Tryz.ntmps62
    go_wp2
    go_ret
    exact ⟨rfl, rfl⟩
  · have a2 := u64_pos n h2 hn
    rw [hm] at a2
    clear h1 h2 hm
    go_enter Tryz.func62, Tryz.ntmps62
    go_wp2
    go_ret
    exact ⟨rfl, rfl⟩

theorem divisor_any (a b g : Nat) (w : World) (ha : a ≤ 9223372036854775808) (hb : b ≤ 9223372036854775808) (hg : Nat.gcd a b = g) :
    Calls Tryz.prog 63 #[.int .u64 a, .int .u64 b] w fun e w' => e = .returned (.int .u64 g) ∧ ∃ n, w' = w.drewN n := by
  have HG : Hid (Nat.gcd a b = g ∧ a ≤ 9223372036854775808 ∧ b ≤ 9223372036854775808) := Lib.hid ⟨hg, ha, hb⟩
  clear ha hb hg
  go_enter Tryz.func63, Tryz.ntmps63
  go_wp2
  go_loopw [0, 1] (fun p q wr => ∃ x y : Nat, p = .int .u64 x ∧ q = .int .u64 y ∧ Hid (Nat.gcd x y = g ∧ x ≤ 9223372036854775808 ∧ y ≤ 9223372036854775808) ∧ ∃ n, wr = w.drewN n) (fun _ q _ => (intOf q).toNat)
  case atStart => exact ⟨a, b, rfl, rfl, HG, 0, rfl⟩
  case round =>
    obtain ⟨x, y, rfl, rfl, HX, n, rfl⟩ := hrel
    by_cases hy : 0 < y
    · have hy0 : ¬ (y : Int) = 0 := by omega
      have HN : Hid (Nat.gcd y (x % y) = g ∧ y ≤ 9223372036854775808 ∧ x % y ≤ 9223372036854775808) := Lib.hid (by
        obtain ⟨h1, h2, h3⟩ := HX.out
        refine ⟨?_, h3, ?_⟩
        · rw [← h1, Nat.gcd_comm x y, Nat.gcd_rec y x, Nat.gcd_comm]
        · have := Nat.mod_lt x hy; omega)
      go_wp2
      go_quiet (fail)
      go_wp2
      go_roundw
      case rel => exact ⟨y, x % y, rfl, by rw [Int.natCast_emod], HN, n + nq, World.drewN_drewN ..⟩
      case measure => simp only [intOf]; have := Nat.mod_lt x hy; show (((x : Int) % (y : Int))).toNat < ((y : Int)).toNat; omega
    · have hy0 : y = 0 := by omega
      subst hy0
      have HV : Hid (x = g) := Lib.hid (by have := HX.out.1; rwa [Nat.gcd_zero_right] at this)
      go_wp2
      go_ret
      exact ⟨by rw [HV.out]; rfl, _, rfl⟩
end Go.Proofs.YtphphamfejgdaaaGreatDoor
