/- For all arguments the law WireRoundTrip returns true and leaves what lay before the call as it was. Conditions: lengths and integers fit their types; the table wire.steps holds its sixteen numbers. -/
import Derived.Test.YteenhpfafomeiaaDoorWireTruncated
namespace Go.Proofs.YteenhpfafomeiaaDoor
open Go.RowKit

theorem intV_at {A B : List UInt8} {n : Int} {k : Nat} (hk : k = A.length) (h : Wm.Fits n) : intV (A ++ (Wm.encI n ++ B)) (k : Int) = .tuple #[.int .i64 n, .int .i64 ((k : Int) + (Wm.encI n).length), .int .i64 0] := by
  subst hk
  unfold intV
  rw [if_neg (by simp; omega), Int.toNat_natCast, List.drop_left, Wm.decI_encI h]
theorem strV_at {A B u : List UInt8} {k : Nat} (hk : k = A.length) (h : u.length ≤ 65536) : strV (A ++ (Wm.encS u ++ B)) (k : Int) = .tuple #[.string ⟨u.toArray⟩, .int .i64 ((k : Int) + (Wm.encS u).length), .int .i64 0] := by
  subst hk
  unfold strV
  rw [if_neg (by simp; omega), Int.toNat_natCast, List.drop_left, Wm.decS_encS h]
theorem cat_data (a b : ByteArray) : (a ++ b).data.toList = a.data.toList ++ b.data.toList := by simp
theorem mk_data (s : ByteArray) : (⟨s.data.toList.toArray⟩ : ByteArray) = s := by apply ByteArray.ext; simp

set_option maxRecDepth 100000 in
set_option maxHeartbeats 4000000 in
theorem roundTrip_any (c : Int) (text x0 x1 : ByteArray) (w : World) (c1 : -9223372036854775808 ≤ c) (c2 : c ≤ 9223372036854775807)
    (ht : text.size ≤ maxLen) (h0 : x0.size ≤ maxLen) (h1 : x1.size ≤ maxLen) (hT : TabAt w) (hg : 0 < w.heap.size) :
    Calls Tryd.prog 4 #[.int .i64 c, .string text, .agg #[.string x0, .string x1]] w fun e w' => e = .returned (.bool true) ∧ Below w.heap.size w w' := by
  unfold maxLen at ht h0 h1
  have HT := Lib.hid hT
  clear hT
  obtain ⟨n, hn⟩ : ∃ n, nfI c = n := ⟨_, rfl⟩
  have fn : Wm.Fits n := by rw [← hn]; exact nfI_fits c
  have hmin : ∀ (s : ByteArray) (ts : Array TypeId) (t : TypeId) (W : World), (Builtin.min_ ts t #[.int .i64 (s.size : Int), .int .i64 200]).run Tryd.prog W = .ok (.int .i64 ((min s.size 200 : Nat) : Int)) W := by
    intro s ts t W
    rw [run_min2]
    congr 2
    split <;> omega
  obtain ⟨m, hm⟩ : ∃ m : Nat, min text.size 200 = m := ⟨_, rfl⟩
  obtain ⟨m0, hm0⟩ : ∃ m : Nat, min x0.size 200 = m := ⟨_, rfl⟩
  obtain ⟨m1, hm1⟩ : ∃ m : Nat, min x1.size 200 = m := ⟨_, rfl⟩
  have mina := hmin text
  have minb := hmin x0
  have minc := hmin x1
  rw [hm] at mina
  rw [hm0] at minb
  rw [hm1] at minc
  have b1 : m ≤ 200 := by omega
  have b2 : m ≤ text.size := by omega
  have b3 : m0 ≤ 200 := by omega
  have b4 : m0 ≤ x0.size := by omega
  have b5 : m1 ≤ 200 := by omega
  have b6 : m1 ≤ x1.size := by omega
  clear hmin hm hm0 hm1
  obtain ⟨sa, hsa⟩ : ∃ sa : ByteArray, sa = ⟨(Wm.encI n).toArray⟩ := ⟨_, rfl⟩
  obtain ⟨T, hTx⟩ : ∃ T : ByteArray, T = text.extract 0 m := ⟨_, rfl⟩
  have Ts : T.size = m := by rw [hTx]; simp; omega
  obtain ⟨st, hst⟩ : ∃ st : ByteArray, st = ⟨(Wm.encS T.data.toList).toArray⟩ := ⟨_, rfl⟩
  have sa1 : sa.size = (Wm.encI n).length := by rw [hsa, mk_size]
  have sa2 : sa.size ≤ 9 := by rw [sa1]; exact Wm.encI_le n
  have Tl : T.data.toList.length = m := by rw [← Lib.size_eq, Ts]
  have st1 : st.size = (Wm.encS T.data.toList).length := by rw [hst, mk_size]
  have st2 : st.size ≤ 209 := by have := (encS_le T.data.toList).2; omega
  have HST : Hid (putSV (text.extract 0 m) = .tuple #[.string st, .int .i64 0]) := Lib.hid (by rw [← hTx, putSV_small T (by omega), hst])
  have P0 : (x0.extract 0 m0).data.toList.length = m0 := by rw [← Lib.size_eq]; simp; omega
  have HI : Hid (intV ((x0.extract 0 m0 ++ sa) ++ x1.extract 0 m1).data.toList (m0 : Int) = .tuple #[.int .i64 n, .int .i64 ((m0 : Int) + sa.size), .int .i64 0]) := Lib.hid (by
    rw [cat_data, cat_data, List.append_assoc, sa1]
    have e : sa.data.toList = Wm.encI n := by rw [hsa]
    rw [e]
    exact intV_at P0.symm fn)
  have HS : Hid (strV ((x0.extract 0 m0 ++ st) ++ x1.extract 0 m1).data.toList (m0 : Int) = .tuple #[.string (text.extract 0 m), .int .i64 ((m0 : Int) + st.size), .int .i64 0]) := Lib.hid (by
    rw [cat_data, cat_data, List.append_assoc, st1]
    have e : st.data.toList = Wm.encS T.data.toList := by rw [hst]
    rw [e, strV_at P0.symm (by rw [Tl]; omega), mk_data, hTx])
  have HSA := Lib.hid hsa
  have HN := Lib.hid hn
  have XS : Hid ((text.extract 0 m).size ≤ maxLen) := Lib.hid (by unfold maxLen; simp; omega)
  have X1 : Hid (((x0.extract 0 m0 ++ sa) ++ x1.extract 0 m1).size ≤ maxLen) := Lib.hid (by unfold maxLen; simp; omega)
  have X2 : Hid (((x0.extract 0 m0 ++ st) ++ x1.extract 0 m1).size ≤ maxLen) := Lib.hid (by unfold maxLen; simp; omega)
  clear hsa hTx Ts hst sa1 Tl st1 P0 hn
  go_enter Tryd.func4, Tryd.ntmps4
  go_wp2_with fail
  refine (sane_any _ (HT.out.below ((Below.refl _ w).alloc (Nat.le_refl _) _) hg) (by simp)).mono ?_; rintro e w1 ⟨rfl, B1⟩
  go_wp2_with fail
  refine (number_as _ _ _ HN.out c1 c2).mono ?_; rintro e w2 ⟨rfl, B2⟩
  have hc0 : w2.cell? ⟨w.heap.size, 0, none⟩ = some (.string x0) := ((bthen B1 B2).cell (p := ⟨w.heap.size, 0, none⟩) (by simp)).trans (World.cell?_alloc_new _ _ _ _)
  have hc1 : w2.cell? ⟨w.heap.size, 1, none⟩ = some (.string x1) := ((bthen B1 B2).cell (p := ⟨w.heap.size, 1, none⟩) (by simp)).trans (World.cell?_alloc_new _ _ _ _)
  go_wp2_with fail
  refine (putInt_b _ _ _ HSA.out fn).mono ?_; rintro e w3 ⟨rfl, B3⟩
  go_wp2_with fail
  refine (putString_as _ _ _ XS.out HST.out).mono ?_; rintro e w4 ⟨rfl, B4⟩
  go_wp2_with fail
  refine (int_as _ _ _ _ X1.out HI.out).mono ?_; rintro e w' ⟨rfl, rfl⟩
  go_wp2_with fail
  refine (string_as _ _ _ _ X2.out HS.out).mono ?_; rintro e w5 ⟨rfl, B5⟩
  go_wp2_with fail
  go_ret
  refine ⟨rfl, ((Below.refl _ w).alloc (Nat.le_refl _) _).trans ((bthen (bthen (bthen (bthen B1 B2) B3) B4) B5).mono (by simp))⟩
end Go.Proofs.YteenhpfafomeiaaDoor
