/- For all arguments the law WireTruncated returns true and leaves what lay before the call as it was. Conditions: lengths and integers fit their types; the table wire.steps holds its sixteen numbers. -/
import Derived.Test.YteenhpfafomeiaaDoorWireN
namespace Go.Proofs.YteenhpfafomeiaaDoor
open Go.RowKit

theorem bthen {w w1 w2 : World} (h : Below w.heap.size w w1) (k : Below w1.heap.size w1 w2) : Below w.heap.size w w2 := h.trans (k.mono h.size)
theorem putInt_b (k : Int) (sa : ByteArray) (w : World) (h : sa = ⟨(Wm.encI k).toArray⟩) (hk : Wm.Fits k) :
    Calls Tryd.prog 12 #[.int .i64 k] w fun e w' => e = .returned (.tuple #[.string sa, .int .i64 0]) ∧ Below w.heap.size w w' := by
  subst h; exact putInt_ok k w hk
theorem number_as (c m : Int) (w : World) (h : nfI c = m) (h1 : -9223372036854775808 ≤ c) (h2 : c ≤ 9223372036854775807) :
    Calls Tryd.prog 11 #[.int .i64 c] w fun e w' => e = .returned (.int .i64 m) ∧ Below w.heap.size w w' := by
  subst h; exact number_any c w h1 h2
theorem run_min2 (ts : Array TypeId) (t : TypeId) (x y : Int) (W : World) : (Builtin.min_ ts t #[.int .i64 x, .int .i64 y]).run Tryd.prog W = .ok (.int .i64 (if y < x then y else x)) W := by
  simp [Builtin.min_, Builtin.min2]
theorem putSV_small (s : ByteArray) (h : s.size ≤ 65536) : putSV s = .tuple #[.string ⟨(Wm.encS s.data.toList).toArray⟩, .int .i64 0] := by unfold putSV; rw [if_pos h]
theorem intV_none {l : List UInt8} (h : Wm.decI l = none) : intV l 0 = .tuple #[.int .i64 0, .int .i64 0, .int .i64 10] := by
  unfold intV; rw [if_neg (by omega)]; simp [h]
theorem strV_none {l : List UInt8} (h : Wm.decS l = none) : strV l 0 = .tuple #[.string ByteArray.empty, .int .i64 0, .int .i64 10] := by
  unfold strV; rw [if_neg (by omega)]; simp [h]
theorem take_data (s : ByteArray) (j : Nat) : (s.extract 0 j).data.toList = s.data.toList.take j := by rw [Lib.extract_data]; simp
theorem mk_size (l : List UInt8) : (⟨l.toArray⟩ : ByteArray).size = l.length := by show l.toArray.size = l.length; simp
theorem encS_le (s : List UInt8) : 1 ≤ (Wm.encS s).length ∧ (Wm.encS s).length ≤ s.length + 9 := by
  unfold Wm.encS; rw [List.length_append]; have := Wm.encI_pos (s.length : Int); have := Wm.encI_le (s.length : Int); omega

/-- One encoding begins with another one just where the integers are the same. -/
theorem prefix_iff (a b : Int) (ha : Wm.Fits a) (hb : Wm.Fits b) (sa sb : ByteArray) (hsa : sa = ⟨(Wm.encI a).toArray⟩) (hsb : sb = ⟨(Wm.encI b).toArray⟩) :
    (sa.size ≤ sb.size → ((sb.extract 0 sa.size).toList == sa.toList) = (a == b)) ∧ (¬ sa.size ≤ sb.size → (a == b) = false) := by
  have la : sa.toList = Wm.encI a := by rw [toList_data, hsa]
  have lb : sb.data.toList = Wm.encI b := by rw [hsb]
  have za : sa.size = (Wm.encI a).length := by rw [hsa, mk_size]
  constructor
  · intro _
    rw [la, toList_data, take_data, lb, za]
    by_cases e : a = b
    · subst e; simp
    · have : ¬ (Wm.encI b).take (Wm.encI a).length = Wm.encI a := fun h => e (Wm.encI_prefix ha hb (t := (Wm.encI b).drop (Wm.encI a).length) (by conv => { rhs; lhs; rw [← h] }; rw [List.take_append_drop]))
      rw [beq_eq_false_iff_ne.2 this, beq_eq_false_iff_ne.2 e]
  · intro h
    refine beq_eq_false_iff_ne.2 fun e => h ?_
    subst e; rw [hsa, hsb]; exact Nat.le_refl _

set_option maxRecDepth 100000 in
set_option maxHeartbeats 4000000 in
theorem truncated_any (c d : Int) (text : ByteArray) (p : Int) (w : World) (c1 : -9223372036854775808 ≤ c) (c2 : c ≤ 9223372036854775807) (d1 : -9223372036854775808 ≤ d) (d2 : d ≤ 9223372036854775807)
    (ht : text.size ≤ maxLen) (p1 : -9223372036854775808 ≤ p) (p2 : p ≤ 9223372036854775807) (hT : TabAt w) (hg : 0 < w.heap.size) :
    Calls Tryd.prog 7 #[.int .i64 c, .int .i64 d, .string text, .int .i64 p] w fun e w' => e = .returned (.bool true) ∧ Below w.heap.size w w' := by
  unfold maxLen at ht
  have HT := Lib.hid hT
  clear hT
  obtain ⟨a, ha⟩ : ∃ a, nfI c = a := ⟨_, rfl⟩
  obtain ⟨b, hb⟩ : ∃ b, nfI d = b := ⟨_, rfl⟩
  have fa : Wm.Fits a := by rw [← ha]; exact nfI_fits c
  have fb : Wm.Fits b := by rw [← hb]; exact nfI_fits d
  obtain ⟨m, hm⟩ : ∃ m : Nat, m = min text.size 200 := ⟨_, rfl⟩
  have hm1 : m ≤ 200 := by omega
  have hm2 : m ≤ text.size := by omega
  have hmin : ∀ (ts : Array TypeId) (t : TypeId) (W : World), (Builtin.min_ ts t #[.int .i64 (text.size : Int), .int .i64 200]).run Tryd.prog W = .ok (.int .i64 (m : Int)) W := by
    intro ts t W
    rw [run_min2, hm]
    congr 2
    split <;> omega
  obtain ⟨sa, hsa⟩ : ∃ sa : ByteArray, sa = ⟨(Wm.encI a).toArray⟩ := ⟨_, rfl⟩
  obtain ⟨sb, hsb⟩ : ∃ sb : ByteArray, sb = ⟨(Wm.encI b).toArray⟩ := ⟨_, rfl⟩
  obtain ⟨x, hx⟩ : ∃ x : ByteArray, x = text.extract 0 m := ⟨_, rfl⟩
  have xs : x.size = m := by rw [hx]; simp; omega
  obtain ⟨st, hst⟩ : ∃ st : ByteArray, st = ⟨(Wm.encS x.data.toList).toArray⟩ := ⟨_, rfl⟩
  have sa1 : 1 ≤ sa.size ∧ sa.size ≤ 9 := by rw [hsa, mk_size]; exact ⟨Wm.encI_pos a, Wm.encI_le a⟩
  have sb1 : 1 ≤ sb.size ∧ sb.size ≤ 9 := by rw [hsb, mk_size]; exact ⟨Wm.encI_pos b, Wm.encI_le b⟩
  have xl : x.data.toList.length = m := by rw [← Lib.size_eq, xs]
  have st1 : 1 ≤ st.size ∧ st.size ≤ 209 := by
    have := encS_le x.data.toList
    rw [xl] at this
    rw [hst, mk_size]; omega
  obtain ⟨j, hj⟩ : ∃ j : Nat, j = (pickI p (sa.size : Int)).toNat := ⟨_, rfl⟩
  obtain ⟨k, hk⟩ : ∃ k : Nat, k = (pickI p (st.size : Int)).toNat := ⟨_, rfl⟩
  have hj' := pickI_lt p (sa.size : Int) (by omega)
  have hk' := pickI_lt p (st.size : Int) (by omega)
  have jl : j < sa.size := by omega
  have kl : k < st.size := by omega
  have HJ : Hid (pickI p (sa.size : Int) = (j : Int)) := Lib.hid (by omega)
  have HK : Hid (pickI p (st.size : Int) = (k : Int)) := Lib.hid (by omega)
  have HP := Lib.hid (putSV_small (text.extract 0 m) (by rw [← hx, xs]; omega))
  have HI : Hid (intV (sa.extract 0 j).data.toList 0 = .tuple #[.int .i64 0, .int .i64 0, .int .i64 10]) := Lib.hid (by
    refine intV_none ?_
    rw [take_data, hsa]
    exact Wm.decI_take fa (by rw [hsa, mk_size] at jl; exact jl))
  have HS : Hid (strV (st.extract 0 k).data.toList 0 = .tuple #[.string ByteArray.empty, .int .i64 0, .int .i64 10]) := Lib.hid (by
    refine strV_none ?_
    rw [take_data, hst]
    exact Wm.decS_take (by rw [xl]; omega) (by rw [hst, mk_size] at kl; exact kl))
  have HX := Lib.hid (prefix_iff a b fa fb sa sb hsa hsb)
  have HSA := Lib.hid hsa
  have HSB := Lib.hid hsb
  have HST : Hid (putSV (text.extract 0 m) = .tuple #[.string st, .int .i64 0]) := Lib.hid (by rw [HP.out, ← hx, hst])
  have HA := Lib.hid ha
  have HB := Lib.hid hb
  have xs2 : (text.extract 0 m).size ≤ maxLen := by unfold maxLen; simp; omega
  have XS := Lib.hid xs2
  obtain ⟨sa1, sa2⟩ := sa1
  obtain ⟨sb1, sb2⟩ := sb1
  obtain ⟨st1, st2⟩ := st1
  have sa3 : ((sa.size : Int) == 0) = false := beq_eq_false_iff_ne.2 (by omega)
  have st3 : ((st.size : Int) == 0) = false := beq_eq_false_iff_ne.2 (by omega)
  clear hm hsa hsb hx xs hst xl hj hk hj' hk' HP ha hb xs2
  by_cases hle : (sa.size : Int) ≤ sb.size
  all_goals
    go_enter Tryd.func7, Tryd.ntmps7
    go_wp2_with fail
    refine (sane_any _ HT.out hg).mono ?_; rintro e w1 ⟨rfl, B1⟩
    go_wp2_with fail
    refine (number_as _ _ _ HA.out c1 c2).mono ?_; rintro e w2 ⟨rfl, B2⟩
    go_wp2_with fail
    refine (putInt_b _ _ _ HSA.out fa).mono ?_; rintro e w3 ⟨rfl, B3⟩
    go_wp2_with fail
    refine (number_as _ _ _ HB.out d1 d2).mono ?_; rintro e w4 ⟨rfl, B4⟩
    go_wp2_with fail
    refine (putInt_b _ _ _ HSB.out fb).mono ?_; rintro e w5 ⟨rfl, B5⟩
    go_wp2_with fail
    refine (putString_as _ _ _ XS.out HST.out).mono ?_; rintro e w6 ⟨rfl, B6⟩
    go_wp2_with fail
    refine (pick_eq _ _ _ _ HJ.out p1 p2 (by omega) (by omega)).mono ?_; rintro e w' ⟨rfl, rfl⟩
    go_wp2_with fail
    refine (int_as _ _ _ _ (by unfold maxLen; simp; omega) HI.out).mono ?_; rintro e w' ⟨rfl, rfl⟩
    go_wp2_with fail
    refine (pick_eq _ _ _ _ HK.out p1 p2 (by omega) (by omega)).mono ?_; rintro e w' ⟨rfl, rfl⟩
    go_wp2_with fail
    refine (string_as _ _ _ _ (by unfold maxLen; simp; omega) HS.out).mono ?_; rintro e w7 ⟨rfl, B7⟩
    go_wp2_with fail
    refine (number_as _ _ _ HA.out c1 c2).mono ?_; rintro e w8 ⟨rfl, B8⟩
    go_wp2_with fail
    refine (number_as _ _ _ HB.out d1 d2).mono ?_; rintro e w9 ⟨rfl, B9⟩
    go_wp2_with fail
    go_ret
    refine ⟨?_, bthen (bthen (bthen (bthen (bthen (bthen (bthen (bthen B1 B2) B3) B4) B5) B6) B7) B8) B9⟩
    first
      | exact congrArg (fun t => Ending.returned (.bool t)) (show (((sb.extract 0 sa.size).toList == sa.toList) == (a == b)) = true by rw [HX.out.1 (by omega)]; simp)
      | exact congrArg (fun t => Ending.returned (.bool t)) (show (!(a == b)) = true by rw [HX.out.2 (by omega)]; rfl)
end Go.Proofs.YteenhpfafomeiaaDoor
