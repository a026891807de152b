/- Words rotated: RotateLeft32 and right, and the reference's rotated. Conditions: the number of bits is from 1 to 31. -/
import Derived.Test.YtlnlhjkdbpkaiaaDoorProg
import Derived.Test.YtlnlhjkdbpkaiaaDoorDigSha
import Derived.WalkKit
import Derived.Outline
import Derived.Below
import Derived.IntWalk
import Derived.LoopTactic
import Derived.Lib.Hide
import Derived.Laws.BitsAllLaws
import Derived.Deep.QuietTactic
import Derived.BigQuiet
namespace Go.Proofs.YtlnlhjkdbpkaiaaDoor
open Go.RowKit

theorem ret_int {k : IntKind} {a b : Int} (h : a = b) : Ending.returned (.int k a) = .returned (.int k b) := by rw [h]

/-- A call that leaves the world alone, in a region behind another one that has drawn. -/
theorem quiet2 {P : Program} {f : FuncId} {args : Array Value} {w : World} {a n : Nat} {v : Value}
    (h : Calls P f args (w.drewN (a + n)) fun e w' => e = .returned v ∧ w' = w.drewN (a + n)) :
    Calls P f args (w.drewN (a + n)) fun e w'' => e = .returned v ∧ ∃ m, w'' = w.drewN (a + m) := h.mono fun _ _ h => ⟨h.1, n, h.2⟩
theorem quiet2N {P : Program} {f : FuncId} {args : Array Value} {w : World} {a n : Nat} {v : Value}
    (h : Calls P f args (w.drewN (a + n)) fun e w' => e = .returned v ∧ ∃ m, w' = (w.drewN (a + n)).drewN m) :
    Calls P f args (w.drewN (a + n)) fun e w'' => e = .returned v ∧ ∃ m, w'' = w.drewN (a + m) := h.mono fun _ _ ⟨h1, m, h2⟩ => ⟨h1, n + m, by rw [h2, World.drewN_drewN, Nat.add_assoc]⟩
theorem neg_and (n : Nat) (h1 : 1 ≤ n) (h2 : n ≤ 31) : bits .and .u64 (IntKind.u64.wrap (-(n : Int))) 31 = ((32 - n : Nat) : Int) := by
  have all : ∀ n : Nat, n < 32 → 1 ≤ n → bits .and .u64 (IntKind.u64.wrap (-(n : Int))) 31 = ((32 - n : Nat) : Int) := by decide
  exact all n (by omega) h1
theorem shl_nat (x m : Nat) : (x : Int) * 2 ^ m % 4294967296 = ((x <<< m % 4294967296 : Nat) : Int) := by rw [Nat.shiftLeft_eq]; simp
theorem shr_nat (x m : Nat) : (x : Int) / 2 ^ m = ((x >>> m : Nat) : Int) := by rw [Nat.shiftRight_eq_div_pow]; simp
theorem rot_eq (x n m : Nat) (hx : x < 4294967296) (hm : m = 32 - n) : bits .or .u32 ((x : Int) * 2 ^ m % 4294967296) ((x : Int) / 2 ^ n) = (Ds.rotr x n : Nat) := by
  rw [shl_nat, shr_nat, u32_or_nat _ _ (Ds.mod_lt _) (Ds.shr_lt n hx), hm]; rfl
theorem rot_eq' (x n m : Nat) (hx : x < 4294967296) (hm : m = 32 - n) : bits .or .u32 ((x : Int) / 2 ^ n) ((x : Int) * 2 ^ m % 4294967296) = (Ds.rotr x n : Nat) := by
  rw [shl_nat, shr_nat, u32_or_nat _ _ (Ds.shr_lt n hx) (Ds.mod_lt _), hm, Nat.or_comm]; rfl

set_option maxHeartbeats 400000 in
theorem rotl_any (x n : Nat) (w : World) (hx : x < 4294967296) (h1 : 1 ≤ n) (h2 : n ≤ 31) :
    Calls Tryd.prog 58 #[.int .u32 x, .int .i64 (-(n : Int))] w fun e w' => e = .returned (.int .u32 (Ds.rotr x n : Nat)) ∧ w = w' := by
  have ha := neg_and n h1 h2
  obtain ⟨m, hm⟩ : ∃ m, m = 32 - n := ⟨_, rfl⟩
  rw [← hm] at ha
  have hm31 : m ≤ 31 := by omega
  have hn : IntKind.u64.wrap (32 - (m : Int)) = (n : Int) := by show (32 - (m : Int)) % 18446744073709551616 = _; omega
  have HO := Lib.hid (rot_eq x n m hx hm)
  clear hm
  go_enter Tryd.func58, Tryd.ntmps58
  go_wp2
  go_ret
  exact ⟨ret_int HO.out, rfl⟩

set_option maxHeartbeats 400000 in
theorem right_any (x n : Nat) (w : World) (hx : x < 4294967296) (h1 : 1 ≤ n) (h2 : n ≤ 31) :
    Calls Tryd.prog 55 #[.int .u32 x, .int .i64 n] w fun e w' => e = .returned (.int .u32 (Ds.rotr x n : Nat)) ∧ w = w' := by
  have hn : IntKind.i64.wrap (-(n : Int)) = -(n : Int) := IntWalk.i64_in _ (by omega)
  go_enter Tryd.func55, Tryd.ntmps55
  go_wp2_with fail
  refine (rotl_any _ _ _ hx h1 h2).mono ?_; rintro e w' ⟨rfl, rfl⟩
  go_wp2
  go_ret
  exact ⟨rfl, rfl⟩

theorem right_int (x : Nat) (m : Int) (w : World) (hx : x < 4294967296) (h1 : 1 ≤ m) (h2 : m ≤ 31) :
    Calls Tryd.prog 55 #[.int .u32 x, .int .i64 m] w fun e w' => e = .returned (.int .u32 (Ds.rotr x m.toNat : Nat)) ∧ w' = w := by
  obtain ⟨n, rfl⟩ := Int.eq_ofNat_of_zero_le (by omega : 0 ≤ m)
  exact (right_any x n w hx (by omega) (by omega)).mono fun _ _ ⟨h, k⟩ => ⟨h, k.symm⟩

set_option maxHeartbeats 400000 in
theorem rotated_any (x n : Nat) (w : World) (hx : x < 4294967296) (h1 : 1 ≤ n) (h2 : n ≤ 31) :
    Calls Tryd.prog 50 #[.int .u32 x, .int .i64 n] w fun e w' => e = .returned (.int .u32 (Ds.rotr x n : Nat)) ∧ ∃ q, w' = w.drewN q := by
  obtain ⟨m, hm⟩ : ∃ m, m = 32 - n := ⟨_, rfl⟩
  have hn : IntKind.i64.wrap (32 - (n : Int)) = (m : Int) := by rw [IntWalk.i64_in _ (by omega)]; omega
  have hn' : 32 - (n : Int) = (m : Int) := by omega
  have HO := Lib.hid (rot_eq' x n m hx hm)
  clear hm
  go_enter Tryd.func50, Tryd.ntmps50
  go_wp2
  go_quiet (fail)
  go_wp2
  go_ret
  exact ⟨ret_int HO.out, _, rfl⟩
theorem rotated_int (x : Nat) (m : Int) (w : World) (hx : x < 4294967296) (h1 : 1 ≤ m) (h2 : m ≤ 31) :
    Calls Tryd.prog 50 #[.int .u32 x, .int .i64 m] w fun e w' => e = .returned (.int .u32 (Ds.rotr x m.toNat : Nat)) ∧ ∃ q, w' = w.drewN q := by
  obtain ⟨n, rfl⟩ := Int.eq_ofNat_of_zero_le (by omega : 0 ≤ m)
  exact rotated_any x n w hx (by omega) (by omega)

theorem xor3 {a b c d : Nat} (ha : a < 4294967296) (hb : b < 4294967296) (hc : c < 4294967296) (h : a ^^^ b ^^^ c = d) : bits .xor .u32 (bits .xor .u32 (a : Int) (b : Int)) (c : Int) = (d : Int) := by
  rw [u32_xor_nat _ _ ha hb, u32_xor_nat _ _ (Ds.xor_lt ha hb) hc, h]
theorem sig0_raw {x s : Nat} (hx : x < 4294967296) (h : Ds.sig0 x = s) : bits .xor .u32 (bits .xor .u32 (Ds.rotr x 7 : Int) (Ds.rotr x 18 : Int)) ((x : Int) / 8) = (s : Int) := by
  rw [show (x : Int) / (8 : Int) = ((x >>> 3 : Nat) : Int) from shr_nat x 3]
  exact xor3 (Ds.rotr_lt _ hx) (Ds.rotr_lt _ hx) (Ds.shr_lt _ hx) h
theorem sig1_raw {x s : Nat} (hx : x < 4294967296) (h : Ds.sig1 x = s) : bits .xor .u32 (bits .xor .u32 (Ds.rotr x 17 : Int) (Ds.rotr x 19 : Int)) ((x : Int) / 1024) = (s : Int) := by
  rw [show (x : Int) / (1024 : Int) = ((x >>> 10 : Nat) : Int) from shr_nat x 10]
  exact xor3 (Ds.rotr_lt _ hx) (Ds.rotr_lt _ hx) (Ds.shr_lt _ hx) h
end Go.Proofs.YtlnlhjkdbpkaiaaDoor
