/- For all arguments the law WireMatchesReference returns true and leaves what lay before the call as it was. Conditions: lengths and integers fit their types; the table wire.steps holds its sixteen numbers. -/
import Derived.Test.YteenhpfafomeiaaDoorWireTruncated
namespace Go.Proofs.YteenhpfafomeiaaDoor
open Go.RowKit

theorem intV_form (l : List UInt8) (p : Int) : ∃ a b c : Int, intV l p = .tuple #[.int .i64 a, .int .i64 b, .int .i64 c] := by
  unfold intV
  split
  · exact ⟨_, _, _, rfl⟩
  · split
    · exact ⟨_, _, _, rfl⟩
    · exact ⟨_, _, _, rfl⟩
theorem strV_form (l : List UInt8) (p : Int) : ∃ (u : ByteArray) (b c : Int), strV l p = .tuple #[.string u, .int .i64 b, .int .i64 c] := by
  unfold strV
  split
  · exact ⟨_, _, _, rfl⟩
  · split
    · exact ⟨_, _, _, rfl⟩
    · exact ⟨_, _, _, rfl⟩
theorem putSV_form (s : ByteArray) : ∃ (u : ByteArray) (c : Int), putSV s = .tuple #[.string u, .int .i64 c] := by
  unfold putSV
  split
  · exact ⟨_, _, rfl⟩
  · exact ⟨_, _, rfl⟩
theorem rString_as (s : ByteArray) (p : Int) (V : Value) (w : World) (hs : s.size ≤ maxLen) (h : strV s.data.toList p = V) :
    Calls Tryd.prog 18 #[.string s, .int .i64 p] w fun e w' => e = .returned V ∧ Below w.heap.size w w' := by
  subst h; exact rString_any s p w hs
theorem rPutString_as (s : ByteArray) (V : Value) (w : World) (hs : s.size ≤ maxLen) (h : putSV s = V) :
    Calls Tryd.prog 20 #[.string s] w fun e w' => e = .returned V ∧ Below w.heap.size w w' := by
  subst h; exact rPutString_any s w hs
/-- PutInt and the reference's PutInt answer the same. -/
theorem putInt_both (k : Int) : ∃ (u : ByteArray) (c : Int), (∀ w, Calls Tryd.prog 12 #[.int .i64 k] w fun e w' => e = .returned (.tuple #[.string u, .int .i64 c]) ∧ Below w.heap.size w w') ∧
    (∀ w, Calls Tryd.prog 13 #[.int .i64 k] w fun e w' => e = .returned (.tuple #[.string u, .int .i64 c]) ∧ Below w.heap.size w w') := by
  by_cases h : Wm.Fits k
  · exact ⟨_, _, fun w => putInt_ok k w h, fun w => rPutInt_ok k w h⟩
  · exact ⟨_, _, fun w => (putInt_no k w h).mono fun e w' ⟨h1, h2⟩ => ⟨h1, h2 ▸ Below.refl _ _⟩, fun w => (rPutInt_no k w h).mono fun e w' ⟨h1, h2⟩ => ⟨h1, h2 ▸ Below.refl _ _⟩⟩

/-- Two integers that are gone through. -/
def TwoAt (W : World) (B : Nat) (a b : Int) : Prop := W.cell? ⟨B, 0, none⟩ = some (.int .i64 a) ∧ W.cell? ⟨B, 1, none⟩ = some (.int .i64 b)
theorem TwoAt.below {W W' : World} {B : Nat} {a b : Int} (h : TwoAt W B a b) (hb : Below W.heap.size W W') : TwoAt W' B a b :=
  ⟨(hb.cell (World.block_lt_of_cell? (h := h.1))).trans h.1, (hb.cell (World.block_lt_of_cell? (h := h.2))).trans h.2⟩
theorem TwoAt.get {W : World} {B i : Nat} {a b : Int} (h : TwoAt W B a b) (hi : i < 2) : ∃ k : Int, W.cell? ⟨B, i, none⟩ = some (.int .i64 k) := by
  obtain rfl | rfl : i = 0 ∨ i = 1 := by omega
  · exact ⟨a, h.1⟩
  · exact ⟨b, h.2⟩

set_option maxRecDepth 100000 in
set_option maxHeartbeats 4000000 in
theorem matches_any (n : Int) (s : ByteArray) (p : Int) (w : World) (n1 : -9223372036854775808 ≤ n) (n2 : n ≤ 9223372036854775807) (hs : s.size ≤ maxLen) (p1 : -9223372036854775808 ≤ p) (p2 : p ≤ 9223372036854775807)
    (hT : TabAt w) (hg : 0 < w.heap.size) :
    Calls Tryd.prog 3 #[.int .i64 n, .string s, .int .i64 p] w fun e w' => e = .returned (.bool true) ∧ Below w.heap.size w w' := by
  unfold maxLen at hs
  have HT := Lib.hid hT
  clear hT
  obtain ⟨m, hm⟩ : ∃ m : Nat, m = min s.size 300 := ⟨_, rfl⟩
  have hm1 : m ≤ 300 := by omega
  have hm2 : m ≤ s.size := by omega
  have hmin : ∀ (ts : Array TypeId) (t : TypeId) (W : World), (Builtin.min_ ts t #[.int .i64 (s.size : Int), .int .i64 300]).run Tryd.prog W = .ok (.int .i64 (m : Int)) W := by
    intro ts t W
    rw [run_min2, hm]
    congr 2
    split <;> omega
  clear hm
  have hX : Hid ((s.extract 0 m).size ≤ maxLen) := Lib.hid (by unfold maxLen; simp; omega)
  go_enter Tryd.func3, Tryd.ntmps3
  go_wp2_with fail
  refine (sane_any _ HT.out hg).mono ?_; rintro e w1 ⟨rfl, B1⟩
  go_wp2_with fail
  refine (number_any _ _ n1 n2).mono ?_; rintro e w2 ⟨rfl, B2⟩
  go_wp2_with fail
  have HB2 : Hid (Below w.heap.size w w2) := Lib.hid (bthen B1 B2)
  have hz2 : w.heap.size ≤ w2.heap.size := (bthen B1 B2).size
  clear B1 B2
  go_loopw [44] (fun c wr => ∃ i : Nat, c = .int .i64 i ∧ i ≤ 2 ∧ TwoAt wr w2.heap.size n (nfI n) ∧ Below w.heap.size w wr) (fun c _ => 2 - (intOf c).toNat)
  case atStart =>
    refine ⟨0, rfl, by omega, ⟨?_, ?_⟩, HB2.out.trans ((Below.refl _ w2).alloc hz2 _)⟩
    · go_simp
    · go_simp
  case round =>
    obtain ⟨i, rfl, hi, hK, hB⟩ := hrel
    have HK := Lib.hid hK
    have HB := Lib.hid hB
    clear hK hB
    by_cases hlt : i < 2
    · obtain ⟨k, hcell⟩ := HK.out.get hlt
      obtain ⟨u, c, hp, hr⟩ := putInt_both k
      have HP := Lib.hid hp
      have HR := Lib.hid hr
      clear hp hr
      go_wp2_with fail
      refine (HP.out _).mono ?_; rintro e w3 ⟨rfl, B3⟩
      go_wp2_with fail
      refine (HR.out _).mono ?_; rintro e w4 ⟨rfl, B4⟩
      go_wp2_with fail
      go_roundw
      case rel => exact ⟨i + 1, by go_num, by omega, HK.out.below (bthen B3 B4), HB.out.trans ((bthen B3 B4).mono HB.out.size)⟩
      case measure => simp [intOf]; omega
    · obtain ⟨wo, rfl⟩ : ∃ wo : World, wo = wr := ⟨_, rfl⟩
      have hzr : w.heap.size ≤ wo.heap.size := HB.out.size
      clear hi
      obtain ⟨k2, hk2⟩ : ∃ k, pickI p ((m : Int) + 2) = k := ⟨_, rfl⟩
      have HK2 := Lib.hid hk2
      clear hk2
      go_wp2_with fail
      refine (pick_eq _ _ _ _ HK2.out p1 p2 (by omega) (by omega)).mono ?_; rintro e w' ⟨rfl, rfl⟩
      go_wp2_with fail
      go_loopw [75] (fun c wv => ∃ i : Nat, c = .int .i64 i ∧ i ≤ 2 ∧ TwoAt wv wo.heap.size p k2 ∧ Below w.heap.size w wv) (fun c _ => 2 - (intOf c).toNat)
      case atStart =>
        refine ⟨0, rfl, by omega, ⟨?_, ?_⟩, HB.out.trans ((Below.refl _ wo).alloc hzr _)⟩
        · go_simp
        · go_simp
      case round =>
        obtain ⟨j, rfl, hj, hK', hB'⟩ := hrel
        have HK' := Lib.hid hK'
        have HB' := Lib.hid hB'
        clear hK' hB'
        by_cases hlt' : j < 2
        · obtain ⟨k, hcell⟩ := HK'.out.get hlt'
          obtain ⟨a1, a2, a3, h1⟩ := intV_form (s.extract 0 m).data.toList k
          obtain ⟨u1, u2, u3, h2⟩ := strV_form (s.extract 0 m).data.toList k
          have H1 := Lib.hid h1
          have H2 := Lib.hid h2
          clear h1 h2
          go_wp2_with fail
          refine (int_as _ _ _ _ hX.out H1.out).mono ?_; rintro e w' ⟨rfl, rfl⟩
          go_wp2_with fail
          refine (rInt_as _ _ _ _ hX.out H1.out).mono ?_; rintro e w3 ⟨rfl, B3⟩
          go_wp2_with fail
          refine (string_as _ _ _ _ hX.out H2.out).mono ?_; rintro e w4 ⟨rfl, B4⟩
          go_wp2_with fail
          refine (rString_as _ _ _ _ hX.out H2.out).mono ?_; rintro e w5 ⟨rfl, B5⟩
          go_wp2_with fail
          go_roundw
          case rel => exact ⟨j + 1, by go_num, by omega, HK'.out.below (bthen (bthen B3 B4) B5), HB'.out.trans ((bthen (bthen B3 B4) B5).mono HB'.out.size)⟩
          case measure => simp [intOf]; omega
        · obtain ⟨wp, rfl⟩ : ∃ wp : World, wp = wr := ⟨_, rfl⟩
          obtain ⟨u1, u2, h3⟩ := putSV_form (s.extract 0 m)
          have H3 := Lib.hid h3
          clear h3
          go_wp2_with fail
          refine (putString_as _ _ _ hX.out H3.out).mono ?_; rintro e w3 ⟨rfl, B3⟩
          go_wp2_with fail
          refine (rPutString_as _ _ _ hX.out H3.out).mono ?_; rintro e w4 ⟨rfl, B4⟩
          have HB4 : Hid (Below w.heap.size w w4) := Lib.hid (HB'.out.trans ((bthen B3 B4).mono HB'.out.size))
          have HTT : Hid (TabAt w4) := Lib.hid (HT.out.below HB4.out hg)
          clear B3 B4
          go_wp2_with fail
          refine (sum_any _ _ hX.out HTT.out).mono ?_; rintro e w' ⟨rfl, rfl⟩
          go_wp2_with fail
          refine (rSum_any _ _ hX.out).mono ?_; rintro e w' ⟨rfl, rfl⟩
          go_wp2_with fail
          go_ret
          exact ⟨rfl, HB4.out⟩
end Go.Proofs.YteenhpfafomeiaaDoor
