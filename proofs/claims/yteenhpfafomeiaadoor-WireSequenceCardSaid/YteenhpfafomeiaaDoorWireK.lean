/- The reference's Int returns what the plain decoder says. Condition: the string's length fits an int. -/
import Derived.Test.YteenhpfafomeiaaDoorWireJ
namespace Go.Proofs.YteenhpfafomeiaaDoor
open Go.RowKit

/-- What stands at the first byte below 128: the number, and whether it was encoded as it should be. -/
theorem ref_canon {L : List UInt8} {i z' : Nat} (_h9 : i < 9) (h : Wm.dec 9 0 L = some (z', i + 1)) : Wm.enc z' = L.take (i + 1) := (Wm.enc_dec 8 0 L z' (i + 1) h).1.symm
theorem ref_not_canon {L : List UInt8} {i z' : Nat} (hz : z' < 9223372036854775808) (h : Wm.dec 9 0 L = none) : Wm.enc z' ≠ L.take (i + 1) := by
  intro e
  have h1 := Wm.dec_enc 8 0 z' (L.drop (i + 1)) (by omega) (by omega)
  have e' : Wm.encF 8 z' = L.take (i + 1) := e
  rw [e', List.take_append_drop, h] at h1
  cases h1
theorem pow_le9 (i : Nat) (h : i < 9) : 128 ^ (i + 1) ≤ 9223372036854775808 := Nat.le_trans (Nat.pow_le_pow_right (by decide) (by omega : i + 1 ≤ 9)) (by decide)

theorem rPutInt_as (m k : Int) (w : World) (h : m = k) (hk : Wm.Fits k) :
    Calls Tryd.prog 13 #[.int .i64 m] w fun e w' => e = .returned (.tuple #[.string ⟨(Wm.encI k).toArray⟩, .int .i64 0]) ∧ Below w.heap.size w w' := by
  subst h; exact rPutInt_ok m w hk
theorem rPutInt_not (m k : Int) (w : World) (h : m = k) (hk : ¬ Wm.Fits k) :
    Calls Tryd.prog 13 #[.int .i64 m] w fun e w' => e = .returned (.tuple #[.string ByteArray.empty, .int .i64 10]) ∧ w = w' := by
  subst h; exact rPutInt_no m w hk
theorem unz_odd (z : Nat) (X : Int) (h : X = (z : Int)) (hp : X % 2 = 1) : -(X / 2) - 1 = Wm.unz z := by
  subst h; unfold Wm.unz; rw [if_pos (by omega)]; omega
theorem unz_even (z : Nat) (X : Int) (h : X = (z : Int)) (hp : ¬ X % 2 = 1) : X / 2 = Wm.unz z := by
  subst h; unfold Wm.unz; rw [if_neg (by omega)]; omega

theorem unz_par (z : Nat) (X : Int) (h : X = (z : Int)) (_ : X % 2 = 1 ∨ ¬ X % 2 = 1) : (X % 2 = 1 → -(X / 2) - 1 = Wm.unz z) ∧ (¬ X % 2 = 1 → X / 2 = Wm.unz z) := ⟨unz_odd z X h, unz_even z X h⟩
theorem toList_data (s : ByteArray) : s.toList = s.data.toList := Go.ByteArray.toList_eq s
theorem cut_data (s : ByteArray) (a k : Nat) : (s.extract a (a + k)).toList = (s.data.toList.drop a).take k := by
  rw [toList_data, Lib.extract_data, show a + k - a = k by omega]
/-- The three ends of the reference's Int. -/
theorem fin_no {s : ByteArray} {a i z' : Nat} {b : Nat} {V : Value} (h : (!Wm.encI (Wm.unz z') == (s.extract a (a + i + 1)).toList) = true)
    (hv : V = match Wm.decI (s.data.toList.drop a) with
          | none => .tuple #[.int .i64 0, .int .i64 0, .int .i64 10]
          | some (n, k) => .tuple #[.int .i64 n, .int .i64 ((a : Int) + k), .int .i64 0])
    (hd : Wm.dec 9 0 (s.data.toList.drop a) = if b = 0 ∧ 0 < i then none else some (z', i + 1)) (_ : z' < 9223372036854775808) (h9 : i < 9) : V = .tuple #[.int .i64 0, .int .i64 0, .int .i64 10] := by
  rw [hv]
  unfold Wm.decI
  by_cases hc : b = 0 ∧ 0 < i
  · rw [hd, if_pos hc]
  · rw [if_neg hc] at hd
    have e := ref_canon h9 hd
    rw [show a + i + 1 = a + (i + 1) by omega, cut_data] at h
    unfold Wm.encI at h
    rw [Wm.zz_unz, e] at h
    simp at h
theorem fin_yes {s : ByteArray} {a i z' : Nat} {b : Nat} {V : Value} (h : (!Wm.encI (Wm.unz z') == (s.extract a (a + i + 1)).toList) = false)
    (hv : V = match Wm.decI (s.data.toList.drop a) with
          | none => .tuple #[.int .i64 0, .int .i64 0, .int .i64 10]
          | some (n, k) => .tuple #[.int .i64 n, .int .i64 ((a : Int) + k), .int .i64 0])
    (hd : Wm.dec 9 0 (s.data.toList.drop a) = if b = 0 ∧ 0 < i then none else some (z', i + 1)) (hz : z' < 9223372036854775808) (_ : i < 9) (hf : Wm.Fits (Wm.unz z')) : V = .tuple #[.int .i64 (Wm.unz z'), .int .i64 ((a : Int) + i + 1), .int .i64 0] := by
  rw [hv]
  unfold Wm.decI
  by_cases hc : b = 0 ∧ 0 < i
  · rw [if_pos hc] at hd
    have e := ref_not_canon (i := i) hz hd
    rw [show a + i + 1 = a + (i + 1) by omega, cut_data] at h
    unfold Wm.encI at h
    rw [Wm.zz_unz] at h
    simp at h
    exact absurd h e
  · rw [hd, if_neg hc]
    have : ¬ Wm.unz z' < -4611686018427387903 := by unfold Wm.Fits at hf; omega
    simp only [this, if_false]
    congr 3
theorem fin_big {s : ByteArray} {a i z' : Nat} {b : Nat} {V : Value}
    (hv : V = match Wm.decI (s.data.toList.drop a) with
          | none => .tuple #[.int .i64 0, .int .i64 0, .int .i64 10]
          | some (n, k) => .tuple #[.int .i64 n, .int .i64 ((a : Int) + k), .int .i64 0])
    (hd : Wm.dec 9 0 (s.data.toList.drop a) = if b = 0 ∧ 0 < i then none else some (z', i + 1)) (hz : z' < 9223372036854775808) (hf : ¬ Wm.Fits (Wm.unz z')) : V = .tuple #[.int .i64 0, .int .i64 0, .int .i64 10] := by
  rw [hv]
  unfold Wm.decI
  by_cases hc : b = 0 ∧ 0 < i
  · rw [hd, if_pos hc]
  · rw [hd, if_neg hc]
    have : Wm.unz z' < -4611686018427387903 := by
      unfold Wm.Fits at hf
      have : Wm.unz z' ≤ 4611686018427387903 := by unfold Wm.unz; split <;> omega
      omega
    simp only [this, if_true]

set_option maxRecDepth 100000 in
set_option maxHeartbeats 4000000 in
theorem rInt_any (s : ByteArray) (p : Int) (w : World) (hs : s.size ≤ maxLen) :
    Calls Tryd.prog 16 #[.string s, .int .i64 p] w fun e w' => e = .returned (intV s.data.toList p) ∧ Below w.heap.size w w' := by
  have hml : s.data.toList.length = s.size := by simp
  by_cases h1 : p < 0
  · have HV : Hid (intV s.data.toList p = .tuple #[.int .i64 0, .int .i64 0, .int .i64 2]) := Lib.hid (by unfold intV; rw [if_pos (by omega)])
    clear hml
    go_enter Tryd.func16, Tryd.ntmps16
    go_wp2_with fail
    go_ret3
    exact ⟨by rw [HV.out]; rfl, Below.refl _ _⟩
  · by_cases h2 : (s.size : Int) < p
    · have HV : Hid (intV s.data.toList p = .tuple #[.int .i64 0, .int .i64 0, .int .i64 2]) := Lib.hid (by unfold intV; rw [if_pos (by omega)])
      clear hml
      go_enter Tryd.func16, Tryd.ntmps16
      go_wp2_with fail
      go_ret3
      exact ⟨by rw [HV.out]; rfl, Below.refl _ _⟩
    · obtain ⟨a, rfl⟩ := Int.eq_ofNat_of_zero_le (by omega : 0 ≤ p)
      have hv : intV s.data.toList (a : Int) = match Wm.decI (s.data.toList.drop a) with
          | none => .tuple #[.int .i64 0, .int .i64 0, .int .i64 10]
          | some (n, k) => .tuple #[.int .i64 n, .int .i64 ((a : Int) + k), .int .i64 0] := by
        unfold intV; rw [if_neg (by omega)]; simp only [Int.toNat_natCast]; rfl
      unfold maxLen at hs
      have HVV := Lib.hid hv
      clear hv hml
      go_enter Tryd.func16, Tryd.ntmps16
      go_wp2_with fail
      go_loop [7, 8] (fun t c => ∃ i z : Nat, c = .int .i64 i ∧ t = .int .u64 z ∧ i ≤ 9 ∧ a + i ≤ s.size ∧ z < 128 ^ i ∧ Wm.dec 9 0 (s.data.toList.drop a) = decAt i z (s.data.toList.drop a)) (fun _ c => 9 - (intOf c).toNat)
      case atStart => exact ⟨0, 0, rfl, rfl, by omega, by omega, by decide, (decAt_zero _).symm⟩
      case round =>
        obtain ⟨i, z, rfl, rfl, h9, hl, hz, hd⟩ := hrel
        have HD := Lib.hid hd
        have HZ := Lib.hid hz
        clear hd hz
        by_cases hlt : i < 9 ∧ a + i < s.size
        · obtain ⟨a1, a2⟩ := hlt
          obtain ⟨a3, hbyte⟩ := byte_list s (a + i) a2
          have a4 : i < (s.data.toList.drop a).length := by simp; omega
          have hopen := decAt_open (z := z) a1 a4
          rw [List.getElem_drop, hbyte] at hopen
          have hsh := shl_eq i z s[a + i].toNat a1 HZ.out
          have hlt2 := shl_lt i z s[a + i].toNat HZ.out
          have hp9 := pow_le9 i a1
          have hbb : (s[a + i].toNat : Int) < 256 := by have := s[a + i].toNat_lt; omega
          have hX0 : 0 ≤ IntKind.u64.wrap ((z : Int) + IntKind.u64.wrap ((s[a + i].toNat : Int) % 128 * 2 ^ (7 * i))) := by rw [hsh]; omega
          have hX1 : IntKind.u64.wrap ((z : Int) + IntKind.u64.wrap ((s[a + i].toNat : Int) % 128 * 2 ^ (7 * i))) ≤ 9223372036854775807 := by rw [hsh]; omega
          obtain ⟨z', hz'⟩ : ∃ z', z' = z + s[a + i].toNat % 128 * 128 ^ i := ⟨_, rfl⟩
          rw [← hz'] at hsh hlt2
          have hz'' : z' < 9223372036854775808 := by omega
          have HZ2 := Lib.hid hz''
          have HO := Lib.hid hopen
          have HSH := Lib.hid hsh
          have HL := Lib.hid hlt2
          have HZ' := Lib.hid hz'
          clear hopen hbyte hsh hlt2 hp9 hz' hz''
          by_cases b1 : 128 ≤ (s[a + i].toNat : Int)
          · go_wp2_with fail
            go_round
            case rel => exact ⟨i + 1, z', by go_num, by rw [HSH.out], by omega, by omega, HL.out, by rw [HD.out, HO.out, if_neg (by omega), HZ'.out]⟩
            case measure => simp [intOf]; omega
          · have hdd : Wm.dec 9 0 (s.data.toList.drop a) = if s[a + i].toNat = 0 ∧ 0 < i then none else some (z', i + 1) := by
              rw [HD.out, HO.out, if_pos (by omega), HZ'.out, Nat.mod_eq_of_lt (by omega)]
            have HDD := Lib.hid hdd
            clear hdd
            by_cases hp : IntKind.u64.wrap ((z : Int) + IntKind.u64.wrap ((s[a + i].toNat : Int) % 128 * 2 ^ (7 * i))) % 2 = 1
            all_goals
              have HUN := Lib.hid (unz_par z' _ HSH.out (Classical.em _))
              have HP := Lib.hid hp
              by_cases hfit : Wm.Fits (Wm.unz z')
              · go_wp2_with fail
                refine (rPutInt_as _ _ _ (by first | exact HUN.out.1 HP.out | exact HUN.out.2 HP.out) hfit).mono ?_; rintro e w' ⟨rfl, hB⟩
                go_wp2_with fail
                · go_ret3
                  refine ⟨?_, hB⟩
                  rw [fin_no (by assumption) HVV.out HDD.out HZ2.out a1]; rfl
                · go_ret3
                  refine ⟨?_, hB⟩
                  rw [fin_yes (by assumption) HVV.out HDD.out HZ2.out a1 hfit]
                  first | (rw [← HUN.out.1 HP.out]; rfl) | (rw [← HUN.out.2 HP.out]; rfl)
              · go_wp2_with fail
                refine (rPutInt_not _ _ _ (by first | exact HUN.out.1 HP.out | exact HUN.out.2 HP.out) hfit).mono ?_; rintro e w' ⟨rfl, rfl⟩
                go_wp2_with fail
                go_ret3
                refine ⟨?_, Below.refl _ _⟩
                rw [fin_big HVV.out HDD.out HZ2.out hfit]; rfl
        · have hd0 := decAt_end (i := i) (z := z) (l := s.data.toList.drop a) (by simp; omega)
          have HV : Hid (intV s.data.toList (a : Int) = .tuple #[.int .i64 0, .int .i64 0, .int .i64 10]) := Lib.hid (by rw [HVV.out]; unfold Wm.decI; rw [HD.out, hd0])
          clear hd0
          go_wp2_with fail
          all_goals
            go_ret3
            exact ⟨by rw [HV.out]; rfl, Below.refl _ _⟩
end Go.Proofs.YteenhpfafomeiaaDoor
