/- join and Int return what the plain decoder says. Condition: the string's length fits an int. -/
import Derived.Test.YteenhpfafomeiaaDoorWireR
import Derived.Lib.Strings
import Derived.Lib.IndexBytes
namespace Go.Proofs.YteenhpfafomeiaaDoor
open Go.RowKit

/-- What join returns. -/
def joinV (l : List UInt8) : Value := match Wm.dec 9 0 l with
  | none => .tuple #[.int .u64 0, .int .i64 0, .bool false]
  | some (z, k) => .tuple #[.int .u64 (z : Int), .int .i64 (k : Int), .bool true]

/-- What is still to be done when i bytes have given z. -/
def decAt (i z : Nat) (l : List UInt8) : Option (Nat × Nat) := match Wm.dec (9 - i) i (l.drop i) with
  | none => none
  | some (z', k) => some (z + 128 ^ i * z', i + k)
theorem decAt_zero (l : List UInt8) : decAt 0 0 l = Wm.dec 9 0 l := by
  unfold decAt; simp only [Nat.sub_zero, List.drop_zero]
  cases Wm.dec 9 0 l with
  | none => rfl
  | some p => obtain ⟨z, k⟩ := p; simp
theorem decAt_end {i z : Nat} {l : List UInt8} (h : i = 9 ∨ l.length ≤ i) : decAt i z l = none := by
  unfold decAt
  have : Wm.dec (9 - i) i (l.drop i) = none := by
    rcases h with rfl | h
    · rfl
    · rw [List.drop_eq_nil_of_le h]; cases 9 - i <;> rfl
  rw [this]
theorem decAt_open {i z : Nat} {l : List UInt8} (h9 : i < 9) (hl : i < l.length) : decAt i z l =
    if l[i].toNat < 128 then (if l[i].toNat = 0 ∧ 0 < i then none else some (z + l[i].toNat * 128 ^ i, i + 1)) else decAt (i + 1) (z + l[i].toNat % 128 * 128 ^ i) l := by
  unfold decAt
  obtain ⟨f, hf⟩ : ∃ f, 9 - i = f + 1 := ⟨8 - i, by omega⟩
  rw [hf, List.drop_eq_getElem_cons hl, Wm.dec, show 9 - (i + 1) = f by omega]
  by_cases hb : l[i].toNat < 128
  · simp only [hb, if_true]
    by_cases hc : l[i].toNat = 0 ∧ 0 < i
    · rw [if_pos hc, if_pos hc]
    · rw [if_neg hc, if_neg hc]
      show some _ = some _
      rw [Nat.mul_comm]
  · simp only [hb, if_false]
    cases Wm.dec f (i + 1) (l.drop (i + 1)) with
    | none => rfl
    | some p =>
      obtain ⟨z', k⟩ := p
      show some _ = some _
      congr 2
      · rw [Nat.mul_add, Nat.pow_succ, Nat.mul_comm (128 ^ i) (l[i].toNat % 128), Nat.mul_assoc, Nat.add_assoc]
      · omega

theorem pow_le8 (i : Nat) (h : i < 9) : 128 ^ i ≤ 72057594037927936 := Nat.le_trans (Nat.pow_le_pow_right (by decide) (by omega : i ≤ 8)) (by decide)
theorem shl_eq (i z b : Nat) (h9 : i < 9) (hz : z < 128 ^ i) : IntKind.u64.wrap ((z : Int) + IntKind.u64.wrap ((b : Int) % 128 * 2 ^ (7 * i))) = ((z + b % 128 * 128 ^ i : Nat) : Int) := by
  have e : (2 : Int) ^ (7 * i) = ((128 ^ i : Nat) : Int) := by rw [Int.pow_mul]; simp
  have hp := pow_le8 i h9
  have hm : b % 128 * 128 ^ i ≤ 127 * 128 ^ i := Nat.mul_le_mul_right _ (by omega)
  rw [e]
  clear e
  generalize 128 ^ i = p at *
  have e2 : ((b : Int) % 128 * (p : Int)) = ((b % 128 * p : Nat) : Int) := by simp
  rw [e2]
  obtain ⟨q, hq⟩ : ∃ q, b % 128 * p = q := ⟨_, rfl⟩
  rw [hq] at hm ⊢
  have h1 : IntKind.u64.wrap (q : Int) = q := IntWalk.u64_in _ (by omega)
  rw [h1, IntWalk.u64_in _ (by omega)]
  omega
theorem shl_lt (i z b : Nat) (hz : z < 128 ^ i) : z + b % 128 * 128 ^ i < 128 ^ (i + 1) := by
  have hm : b % 128 * 128 ^ i ≤ 127 * 128 ^ i := Nat.mul_le_mul_right _ (by omega)
  rw [Nat.pow_succ]
  generalize 128 ^ i = p at *
  omega
theorem byte_list (s : ByteArray) (i : Nat) (h : i < s.size) : ∃ h' : i < s.data.toList.length, s.data.toList[i] = s[i] := ⟨by simpa using h, by simp; rfl⟩

theorem joinV_none {l : List UInt8} (h : Wm.dec 9 0 l = none) : joinV l = .tuple #[.int .u64 0, .int .i64 0, .bool false] := by unfold joinV; rw [h]
theorem joinV_some {l : List UInt8} {z k : Nat} (h : Wm.dec 9 0 l = some (z, k)) : joinV l = .tuple #[.int .u64 (z : Int), .int .i64 (k : Int), .bool true] := by unfold joinV; rw [h]

set_option maxRecDepth 100000 in
set_option maxHeartbeats 2000000 in
theorem join_any (s : ByteArray) (w : World) (hs : s.size ≤ maxLen) :
    Calls Tryd.prog 26 #[.string s] w fun e w' => e = .returned (joinV s.data.toList) ∧ w = w' := by
  unfold maxLen at hs
  have hmin : (s.size : Int) ≤ 9 ∨ (9 : Int) < s.size := by omega
  rcases hmin with hmin | hmin
  all_goals
    go_enter Tryd.func26, Tryd.ntmps26
    go_wp2
    go_loop [5, 10] (fun t c => ∃ i z : Nat, c = .int .i64 i ∧ t = .int .u64 z ∧ i ≤ 9 ∧ i ≤ s.size ∧ z < 128 ^ i ∧ Wm.dec 9 0 s.data.toList = decAt i z s.data.toList) (fun _ c => 9 - (intOf c).toNat)
    case atStart => exact ⟨0, 0, rfl, rfl, by omega, by omega, by decide, (decAt_zero _).symm⟩
    case round =>
      obtain ⟨i, z, rfl, rfl, h9, hl, hz, hd⟩ := hrel
      by_cases hlt : i < 9 ∧ i < s.size
      · obtain ⟨a1, a2⟩ := hlt
        obtain ⟨a3, hbyte⟩ := byte_list s i a2
        have hopen := decAt_open (z := z) a1 a3
        rw [hbyte] at hopen
        have hsh := shl_eq i z s[i].toNat a1 hz
        have HO := Lib.hid hopen
        have HSH := Lib.hid hsh
        have HD := Lib.hid hd
        have HZ := Lib.hid hz
        have HBY := Lib.hid hbyte
        clear hd hz hopen hbyte hsh
        by_cases b1 : 128 ≤ (s[i].toNat : Int)
        · go_wp2
          go_round
          case rel => exact ⟨i + 1, z + s[i].toNat % 128 * 128 ^ i, by go_num, by rw [HSH.out], by omega, by omega, shl_lt i z _ HZ.out, by rw [HD.out, HO.out, if_neg (by omega)]⟩
          case measure => simp [intOf]; omega
        · by_cases b2 : (s[i].toNat : Int) < 1
          · by_cases b3 : 0 < i
            · have HV := Lib.hid (joinV_none (l := s.data.toList) (by rw [HD.out, HO.out, if_pos (by omega), if_pos (by omega)]))
              go_wp2
              go_ret3
              exact ⟨by rw [HV.out]; rfl, rfl⟩
            · have HV := Lib.hid (joinV_some (l := s.data.toList) (z := z) (k := i + 1) (by rw [HD.out, HO.out, if_pos (by omega), if_neg (by omega)]; congr 2; rw [show s[i].toNat = 0 by omega]; simp))
              have HW : Hid (IntKind.u64.wrap ((z : Int) + IntKind.u64.wrap 0) = z) := Lib.hid (by
                have hz0 : z < 128 ^ 0 := by have := HZ.out; rwa [show i = 0 by omega] at this
                have hz1 : z = 0 := by simpa using hz0
                subst hz1; rfl)
              go_wp2
              go_ret3
              refine ⟨?_, rfl⟩
              rw [HV.out]
              show Ending.returned (.tuple #[.int .u64 (IntKind.u64.wrap ((z : Int) + IntKind.u64.wrap 0)), .int .i64 ((i : Int) + 1), .bool true]) = _
              rw [HW.out]; simp
          · have HV := Lib.hid (joinV_some (l := s.data.toList) (z := z + s[i].toNat % 128 * 128 ^ i) (k := i + 1) (by rw [HD.out, HO.out, if_pos (by omega), if_neg (by omega), Nat.mod_eq_of_lt (by omega)]))
            go_wp2
            go_ret3
            refine ⟨?_, rfl⟩
            rw [HV.out]
            show Ending.returned (.tuple #[.int .u64 (IntKind.u64.wrap ((z : Int) + IntKind.u64.wrap ((s[i].toNat : Int) % 128 * 2 ^ (7 * i)))), .int .i64 ((i : Int) + 1), .bool true]) = _
            rw [HSH.out]; simp
      · have hd0 := decAt_end (i := i) (z := z) (l := s.data.toList) (by simp; omega)
        rw [hd0] at hd
        have HV := Lib.hid (joinV_none hd)
        clear hd hd0 hz
        go_wp2
        go_ret3
        exact ⟨by rw [HV.out]; rfl, rfl⟩

theorem join_none (s : ByteArray) (w : World) (hs : s.size ≤ maxLen) (h : Wm.dec 9 0 s.data.toList = none) :
    Calls Tryd.prog 26 #[.string s] w fun e w' => e = .returned (.tuple #[.int .u64 0, .int .i64 0, .bool false]) ∧ w = w' := by
  rw [← joinV_none h]; exact join_any s w hs
theorem join_some (s : ByteArray) (w : World) (hs : s.size ≤ maxLen) {z k : Nat} (h : Wm.dec 9 0 s.data.toList = some (z, k)) :
    Calls Tryd.prog 26 #[.string s] w fun e w' => e = .returned (.tuple #[.int .u64 (z : Int), .int .i64 (k : Int), .bool true]) ∧ w = w' := by
  rw [← joinV_some h]; exact join_any s w hs

/-- What Int returns. -/
def intV (l : List UInt8) (p : Int) : Value :=
  if p < 0 ∨ (l.length : Int) < p then .tuple #[.int .i64 0, .int .i64 0, .int .i64 2] else
  match Wm.decI (l.drop p.toNat) with
  | none => .tuple #[.int .i64 0, .int .i64 0, .int .i64 10]
  | some (n, k) => .tuple #[.int .i64 n, .int .i64 (p + k), .int .i64 0]

theorem drop_data (s : ByteArray) (a : Nat) : (s.extract a s.size).data.toList = s.data.toList.drop a := Lib.extract_to_end s a
theorem decI_dec {l : List UInt8} {z k : Nat} (h : Wm.dec 9 0 l = some (z, k)) (h' : ¬ Wm.unz z < -4611686018427387903) : Wm.decI l = some (Wm.unz z, k) := by
  unfold Wm.decI; rw [h]; exact if_neg h'

set_option maxRecDepth 100000 in
set_option maxHeartbeats 2000000 in
theorem int_any (s : ByteArray) (p : Int) (w : World) (hs : s.size ≤ maxLen) :
    Calls Tryd.prog 15 #[.string s, .int .i64 p] w fun e w' => e = .returned (intV s.data.toList p) ∧ w = w' := by
  have hml : s.data.toList.length = s.size := by simp
  by_cases h1 : p < 0
  · have HV : Hid (intV s.data.toList p = .tuple #[.int .i64 0, .int .i64 0, .int .i64 2]) := Lib.hid (by unfold intV; rw [if_pos (by omega)])
    clear hml
    go_enter Tryd.func15, Tryd.ntmps15
    go_wp2_with fail
    go_ret3
    exact ⟨by rw [HV.out]; rfl, rfl⟩
  · by_cases h2 : (s.size : Int) < p
    · have HV : Hid (intV s.data.toList p = .tuple #[.int .i64 0, .int .i64 0, .int .i64 2]) := Lib.hid (by unfold intV; rw [if_pos (by omega)])
      clear hml
      go_enter Tryd.func15, Tryd.ntmps15
      go_wp2_with fail
      go_ret3
      exact ⟨by rw [HV.out]; rfl, rfl⟩
    · obtain ⟨a, rfl⟩ := Int.eq_ofNat_of_zero_le (by omega : 0 ≤ p)
      have hv : intV s.data.toList (a : Int) = match Wm.decI (s.data.toList.drop a) with
          | none => .tuple #[.int .i64 0, .int .i64 0, .int .i64 10]
          | some (n, k) => .tuple #[.int .i64 n, .int .i64 ((a : Int) + k), .int .i64 0] := by
        unfold intV; rw [if_neg (by omega)]; simp
      have hsz : (s.extract a s.size).size ≤ maxLen := by unfold maxLen at *; simp; omega
      have hda := drop_data s a
      cases hd : Wm.dec 9 0 (s.data.toList.drop a) with
      | none =>
        have HV : Hid (intV s.data.toList (a : Int) = .tuple #[.int .i64 0, .int .i64 0, .int .i64 10]) := Lib.hid (by rw [hv]; unfold Wm.decI; rw [hd])
        have HJ := Lib.hid (hda ▸ hd : Wm.dec 9 0 (s.extract a s.size).data.toList = none)
        have HS := Lib.hid hsz
        clear hv hsz hda hd hml
        go_enter Tryd.func15, Tryd.ntmps15
        go_wp2_with fail
        refine (join_none _ _ HS.out HJ.out).mono ?_; rintro e w' ⟨rfl, rfl⟩
        go_wp2_with fail
        go_ret3
        exact ⟨by rw [HV.out]; rfl, rfl⟩
      | some q =>
        obtain ⟨z, k⟩ := q
        have hb := Wm.dec_bound _ _ _ _ _ hd
        have hzb : z < 9223372036854775808 := by omega
        have hkb : k ≤ 9 := hb.2.2.1
        have hkl : a + k ≤ s.size := by have := hb.2.2.2; simp at this; omega
        have hun : -4611686018427387904 ≤ Wm.unz z ∧ Wm.unz z ≤ 4611686018427387903 := by unfold Wm.unz; split <;> omega
        have HJ := Lib.hid (hda ▸ hd : Wm.dec 9 0 (s.extract a s.size).data.toList = some (z, k))
        have HS := Lib.hid hsz
        by_cases h3 : Wm.unz z < -4611686018427387903
        · have HV : Hid (intV s.data.toList (a : Int) = .tuple #[.int .i64 0, .int .i64 0, .int .i64 10]) := Lib.hid (by rw [hv]; unfold Wm.decI; rw [hd]; simp [h3])
          clear hv hsz hda hd hml hb
          go_enter Tryd.func15, Tryd.ntmps15
          go_wp2_with fail
          refine (join_some _ _ HS.out HJ.out).mono ?_; rintro e w' ⟨rfl, rfl⟩
          go_wp2_with fail
          refine (unfold_any _ _ hzb).mono ?_; rintro e w' ⟨rfl, rfl⟩
          go_wp2_with fail
          go_ret3
          exact ⟨by rw [HV.out]; rfl, rfl⟩
        · have HV : Hid (intV s.data.toList (a : Int) = .tuple #[.int .i64 (Wm.unz z), .int .i64 ((a : Int) + k), .int .i64 0]) := Lib.hid (by rw [hv, decI_dec hd h3])
          clear hv hsz hda hd hml hb
          unfold maxLen at hs
          go_enter Tryd.func15, Tryd.ntmps15
          go_wp2_with fail
          refine (join_some _ _ HS.out HJ.out).mono ?_; rintro e w' ⟨rfl, rfl⟩
          go_wp2_with fail
          refine (unfold_any _ _ hzb).mono ?_; rintro e w' ⟨rfl, rfl⟩
          go_wp2_with fail
          go_ret3
          exact ⟨by rw [HV.out]; rfl, rfl⟩
end Go.Proofs.YteenhpfafomeiaaDoor
