/- Sum and the reference's Sum return the plain checksum. Conditions: the string's length fits an int; for Sum, the table wire.steps holds its sixteen numbers. -/
import Derived.Test.YteenhpfafomeiaaDoorWireA
import Derived.LoopTactic
import Derived.Laws.BitsAllLaws
namespace Go.Proofs.YteenhpfafomeiaaDoor
open Go.RowKit

/-- The table holds its sixteen numbers. -/
def TabAt (w : World) : Prop := ∀ i, i < 16 → w.cell? ⟨0, i, none⟩ = some (.int .u32 ((Wm.tab.getD i 0 : Nat) : Int))
theorem TabAt.below {B : Nat} {w w' : World} (h : TabAt w) (hb : Below B w w') (hB : 0 < B) : TabAt w' := fun i hi => (hb.cell (p := ⟨0, i, none⟩) hB).trans (h i hi)

theorem tab_lt (i : Nat) : Wm.tab.getD i 0 < 4294967296 := by
  rcases Nat.lt_or_ge i 16 with h | h
  · have all : ∀ i, i < 16 → Wm.tab.getD i 0 < 4294967296 := by decide
    exact all i h
  · rw [List.getD, List.getElem?_eq_none (by exact h)]; decide
theorem not_u32 (r : Nat) (h : r < 4294967296) : 4294967295 ^^^ r = 4294967295 - r := by
  apply Nat.eq_of_testBit_eq
  intro i
  have e : 4294967295 - r = 2 ^ 32 - (r + 1) := by simp
  rw [e, Nat.testBit_two_pow_sub_succ (by simpa using h), Nat.testBit_xor, show (4294967295 : Nat) = 2 ^ 32 - 1 from rfl, Nat.testBit_two_pow_sub_one]
  by_cases hi : i < 32
  · simp [hi]
  · have : r.testBit i = false := Nat.testBit_lt_two_pow (Nat.lt_of_lt_of_le h (by simpa using Nat.pow_le_pow_right (n := 2) (by omega) (by omega : 32 ≤ i)))
    simp [hi, this]
theorem xor_lt {a b : Nat} (ha : a < 4294967296) (hb : b < 4294967296) : a ^^^ b < 4294967296 := Nat.xor_lt_two_pow (n := 32) ha hb

/-- The checksum of the first bytes. -/
def regAt (s : ByteArray) (i : Nat) : Nat := Wm.crcL 4294967295 (s.data.toList.take i)
theorem regAt_lt (s : ByteArray) (i : Nat) : regAt s i < 4294967296 := Wm.crcL_lt _ (by decide)
theorem regAt_succ (s : ByteArray) (i : Nat) (h : i < s.size) : regAt s (i + 1) = Wm.crcStep (regAt s i) s[i] := by
  unfold regAt
  have hl : i < s.data.toList.length := by simpa using h
  rw [List.take_succ_eq_append_getElem hl]
  unfold Wm.crcL
  rw [List.foldl_append]
  simp only [List.foldl_cons, List.foldl_nil]
  congr 1

set_option maxRecDepth 100000 in
set_option maxHeartbeats 2000000 in
theorem sum_any (s : ByteArray) (w : World) (hs : s.size ≤ maxLen) (hT : TabAt w) :
    Calls Tryd.prog 21 #[.string s] w fun e w' => e = .returned (.int .i64 (Wm.crc s.data.toList : Nat)) ∧ w = w' := by
  unfold maxLen at hs
  have HT := Lib.hid hT
  clear hT
  go_enter Tryd.func21, Tryd.ntmps21
  go_wp2
  go_loop [3, 7] (fun g c => ∃ i r : Nat, c = .int .i64 i ∧ g = .int .u32 r ∧ i ≤ s.size ∧ r = regAt s i) (fun _ c => s.size - (intOf c).toNat)
  case atStart => exact ⟨0, 4294967295, rfl, rfl, by omega, rfl⟩
  case round =>
    obtain ⟨i, r, rfl, rfl, hi, hr⟩ := hrel
    have hrl : r < 4294967296 := by rw [hr]; exact regAt_lt _ _
    have HR := Lib.hid hr
    clear hr
    by_cases hlt : i < s.size
    · have hb := s[i].toNat_lt
      obtain ⟨x, hx⟩ : ∃ x, x = r ^^^ s[i].toNat := ⟨_, rfl⟩
      have hxl : x < 4294967296 := by rw [hx]; exact xor_lt hrl (by omega)
      have h1 : bits .xor .u32 (r : Int) (s[i].toNat : Int) = (x : Int) := by rw [u32_xor_nat _ _ hrl (by omega), hx]
      obtain ⟨t1, ht1⟩ : ∃ t, t = Wm.tab.getD (x % 16) 0 := ⟨_, rfl⟩
      have ht1l : t1 < 4294967296 := by rw [ht1]; exact tab_lt _
      have c1 : w.cell? ⟨0, x % 16, none⟩ = some (.int .u32 (t1 : Int)) := by rw [ht1]; exact HT.out _ (Nat.mod_lt _ (by decide))
      obtain ⟨y, hy⟩ : ∃ y, y = x / 16 ^^^ t1 := ⟨_, rfl⟩
      have hyl : y < 4294967296 := by rw [hy]; exact xor_lt (by omega) ht1l
      have h2 : bits .xor .u32 ((x : Int) / 16) (t1 : Int) = (y : Int) := by rw [hy, show ((x : Int) / 16) = ((x / 16 : Nat) : Int) by omega, u32_xor_nat _ _ (by omega) ht1l]
      obtain ⟨t2, ht2⟩ : ∃ t, t = Wm.tab.getD (y % 16) 0 := ⟨_, rfl⟩
      have ht2l : t2 < 4294967296 := by rw [ht2]; exact tab_lt _
      have c2 : w.cell? ⟨0, y % 16, none⟩ = some (.int .u32 (t2 : Int)) := by rw [ht2]; exact HT.out _ (Nat.mod_lt _ (by decide))
      obtain ⟨z, hz⟩ : ∃ z, z = y / 16 ^^^ t2 := ⟨_, rfl⟩
      have h3 : bits .xor .u32 ((y : Int) / 16) (t2 : Int) = (z : Int) := by rw [hz, show ((y : Int) / 16) = ((y / 16 : Nat) : Int) by omega, u32_xor_nat _ _ (by omega) ht2l]
      have HZ : Hid (z = regAt s (i + 1)) := Lib.hid (by rw [regAt_succ s i hlt, Wm.crcStep_tab, ← HR.out, hz, ht2, hy, ht1, hx])
      clear hx ht1 hy ht2 hz
      go_wp2
      go_round
      case rel => exact ⟨i + 1, z, by go_num, by rfl, by omega, HZ.out⟩
      case measure => simp [intOf]; omega
    · have hi' : i = s.size := by omega
      have HF : Hid (wrap64 (bits .xor .u32 IntKind.u32.max (r : Int)) = (Wm.crc s.data.toList : Nat)) := Lib.hid (by
        rw [show IntKind.u32.max = ((4294967295 : Nat) : Int) from rfl, u32_xor_nat 4294967295 r (by decide) hrl, not_u32 r hrl]
        have e : Wm.crc s.data.toList = 4294967295 - r := by
          rw [HR.out, hi']; unfold Wm.crc regAt; rw [List.take_of_length_le (by simp)]
        rw [e]
        exact IntWalk.wrap64_in _ ⟨by omega, by omega⟩)
      clear hi'
      go_wp2
      go_ret
      exact ⟨ret_int HF.out, rfl⟩

set_option maxRecDepth 100000 in
set_option maxHeartbeats 2000000 in
theorem rSum_any (s : ByteArray) (w : World) (hs : s.size ≤ maxLen) :
    Calls Tryd.prog 22 #[.string s] w fun e w' => e = .returned (.int .i64 (Wm.crc s.data.toList : Nat)) ∧ w = w' := by
  unfold maxLen at hs
  go_enter Tryd.func22, Tryd.ntmps22
  go_wp2
  go_loop [3, 4] (fun g c => ∃ i r : Nat, c = .int .i64 i ∧ g = .int .u32 r ∧ i ≤ s.size ∧ r = regAt s i) (fun _ c => s.size - (intOf c).toNat)
  case atStart => exact ⟨0, 4294967295, rfl, rfl, by omega, rfl⟩
  case round =>
    obtain ⟨i, r, rfl, rfl, hi, hr⟩ := hrel
    have hrl : r < 4294967296 := by rw [hr]; exact regAt_lt _ _
    have HR := Lib.hid hr
    clear hr
    by_cases hlt : i < s.size
    · have hb := s[i].toNat_lt
      obtain ⟨x, hx⟩ : ∃ x, x = r ^^^ s[i].toNat := ⟨_, rfl⟩
      have hxl : x < 4294967296 := by rw [hx]; exact xor_lt hrl (by omega)
      have h1 : bits .xor .u32 (r : Int) (s[i].toNat : Int) = (x : Int) := by rw [u32_xor_nat _ _ hrl (by omega), hx]
      have HZ : Hid (Wm.cfN 8 x = regAt s (i + 1)) := Lib.hid (by rw [regAt_succ s i hlt, ← HR.out, hx]; rfl)
      clear hx
      go_wp2
      go_loop [3, 5, 6] (fun g c _ => ∃ k y : Nat, c = .int .i64 k ∧ g = .int .u32 y ∧ k ≤ 8 ∧ y < 4294967296 ∧ Wm.cfN (8 - k) y = Wm.cfN 8 x) (fun _ c _ => 8 - (intOf c).toNat)
      case atStart => exact ⟨0, x, rfl, rfl, by omega, hxl, rfl⟩
      case round =>
        obtain ⟨k, y, rfl, rfl, hk, hyl, hy⟩ := hrel
        have HY := Lib.hid hy
        clear hy
        by_cases hk8 : k < 8
        · by_cases hp : (y : Int) % 2 = 1
          · obtain ⟨z, hz⟩ : ∃ z, z = y / 2 ^^^ 2197175160 := ⟨_, rfl⟩
            have h2 : bits .xor .u32 ((y : Int) / 2) 2197175160 = (z : Int) := by rw [hz, show ((y : Int) / 2) = ((y / 2 : Nat) : Int) by omega]; exact u32_xor_nat _ 2197175160 (by omega) (by decide)
            have hzl : z < 4294967296 := by rw [hz]; exact xor_lt (by omega) (by decide)
            have HZ2 : Hid (Wm.cf y = z) := Lib.hid (by unfold Wm.cf; rw [if_pos (by omega), hz])
            clear hz
            go_wp2
            go_round
            case rel => exact ⟨k + 1, z, by go_num, by rfl, by omega, hzl, by rw [← HY.out, ← HZ2.out, show 8 - k = (8 - (k + 1)) + 1 by omega]; rfl⟩
            case measure => simp [intOf]; omega
          · have HZ2 : Hid (Wm.cf y = y / 2) := Lib.hid (by unfold Wm.cf; rw [if_neg (by omega)]; simp)
            go_wp2
            go_round
            case rel => exact ⟨k + 1, y / 2, by go_num, by go_num, by omega, by omega, by rw [← HY.out, ← HZ2.out, show 8 - k = (8 - (k + 1)) + 1 by omega]; rfl⟩
            case measure => simp [intOf]; omega
        · have HF : Hid (y = regAt s (i + 1)) := Lib.hid (by rw [← HZ.out, ← HY.out, show 8 - k = 0 by omega]; rfl)
          go_wp2
          go_round
          case rel => exact ⟨i + 1, y, by go_num, by rfl, by omega, HF.out⟩
          case measure => simp [intOf]; omega
    · have hi' : i = s.size := by omega
      have HF : Hid (wrap64 (bits .xor .u32 IntKind.u32.max (r : Int)) = (Wm.crc s.data.toList : Nat)) := Lib.hid (by
        rw [show IntKind.u32.max = ((4294967295 : Nat) : Int) from rfl, u32_xor_nat 4294967295 r (by decide) hrl, not_u32 r hrl]
        have e : Wm.crc s.data.toList = 4294967295 - r := by
          rw [HR.out, hi']; unfold Wm.crc regAt; rw [List.take_of_length_le (by simp)]
        rw [e]
        exact IntWalk.wrap64_in _ ⟨by omega, by omega⟩)
      clear hi'
      go_wp2
      go_ret
      exact ⟨ret_int HF.out, rfl⟩
end Go.Proofs.YteenhpfafomeiaaDoor
