/- For all arguments the law WireSequence returns true and leaves what lay before the call as it was. Conditions: lengths and integers fit their types; the table wire.steps holds its sixteen numbers. -/
import Derived.Test.YteenhpfafomeiaaDoorWireRoundTrip
import Derived.RegionTactic
import Derived.ChangeAlike
import Derived.Deep.RegionWith
import Derived.Deep.RegionHeld3
namespace Go.Proofs.YteenhpfafomeiaaDoor
open Go.RowKit

/-- The bytes of text k that are taken. -/
def seqX (sf : Nat → ByteArray) (k : Nat) : ByteArray := (sf k).extract 0 (min (sf k).size 100)
/-- The encodings of the first k pairs. -/
def seqS (zf : Nat → Int) (sf : Nat → ByteArray) : Nat → List UInt8
  | 0 => []
  | k + 1 => seqS zf sf k ++ (Wm.encI (nfI (zf k)) ++ Wm.encS (seqX sf k).data.toList)
theorem seqX_size (sf : Nat → ByteArray) (k : Nat) : (seqX sf k).size ≤ 100 := by unfold seqX; simp; omega
theorem seqX_len (sf : Nat → ByteArray) (k : Nat) : (seqX sf k).data.toList.length ≤ 100 := by rw [← Lib.size_eq]; exact seqX_size sf k
theorem seqS_le (zf : Nat → Int) (sf : Nat → ByteArray) (k : Nat) : (seqS zf sf k).length ≤ 118 * k := by
  induction k with
  | zero => simp [seqS]
  | succ k ih =>
    have h1 := Wm.encI_le (nfI (zf k))
    have h2 := (encS_le (seqX sf k).data.toList).2
    have h3 := seqX_len sf k
    simp only [seqS, List.length_append]
    omega
theorem seqS_split (zf : Nat → Int) (sf : Nat → ByteArray) (k : Nat) : ∀ n, k < n → ∃ r, seqS zf sf n = seqS zf sf k ++ (Wm.encI (nfI (zf k)) ++ (Wm.encS (seqX sf k).data.toList ++ r)) := by
  intro n h
  induction n with
  | zero => omega
  | succ n ih =>
    by_cases e : k = n
    · subst e; exact ⟨[], by simp [seqS]⟩
    · obtain ⟨r, hr⟩ := ih (by omega)
      exact ⟨r ++ (Wm.encI (nfI (zf n)) ++ Wm.encS (seqX sf n).data.toList), by rw [seqS, hr]; simp⟩

set_option maxRecDepth 100000 in
set_option maxHeartbeats 4000000 in
theorem sequence_any (lb lo ll lc tb to_ tl tc : Nat) (zf : Nat → Int) (sf : Nat → ByteArray) (w : World) (hl0 : 1 ≤ ll) (ht0 : 1 ≤ tl) (hll : ll ≤ maxLen) (htl : tl ≤ maxLen) (hlb : lb < w.heap.size) (htb : tb < w.heap.size)
    (hz : ∀ i, i < ll → w.cell? ⟨lb, lo + i, none⟩ = some (.int .i64 (zf i)) ∧ -9223372036854775808 ≤ zf i ∧ zf i ≤ 9223372036854775807)
    (hs : ∀ i, i < tl → w.cell? ⟨tb, to_ + i, none⟩ = some (.string (sf i)) ∧ (sf i).size ≤ maxLen)
    (hT : TabAt w) (hg : 0 < w.heap.size) :
    Calls Tryd.prog 6 #[.slice (some ⟨lb, lo, none⟩) ll lc, .slice (some ⟨tb, to_, none⟩) tl tc] w fun e w' => e = .returned (.bool true) ∧ Below w.heap.size w w' := by
  unfold maxLen at hll htl
  have HT := Lib.hid hT
  have HZ := Lib.hid hz
  have HS := Lib.hid hs
  clear hT hz hs
  obtain ⟨n, hn⟩ : ∃ n : Nat, n = min (min ll tl) 20 := ⟨_, rfl⟩
  have hn0 : 1 ≤ n := by omega
  have hn1 : n ≤ 20 := by omega
  have hn2 : n ≤ ll := by omega
  have hn3 : n ≤ tl := by omega
  have hmin : ∀ (ts : Array TypeId) (t : TypeId) (W : World), (Builtin.min_ ts t #[.int .i64 (ll : Int), .int .i64 (tl : Int), .int .i64 20]).run Tryd.prog W = .ok (.int .i64 (n : Int)) W := by
    intro ts t W
    rw [run_min_int3, hn]
    congr 2
    (repeat' split) <;> omega
  clear hn
  go_enter Tryd.func6, Tryd.ntmps6
  go_wp2_with fail
  refine (sane_any _ HT.out hg).mono ?_; rintro e w1 ⟨rfl, B1⟩
  have HB1 := Lib.hid B1
  clear B1
  go_wp2_with fail
  go_loopw [7, 8] (fun t c wr => ∃ (k : Nat) (sb : ByteArray), c = .int .i64 k ∧ t = .string sb ∧ k ≤ n ∧ sb.size ≤ 118 * k ∧ sb.data.toList = seqS zf sf k ∧ Below w.heap.size w wr) (fun _ c _ => n - (intOf c).toNat)
  case atStart => exact ⟨0, ByteArray.empty, rfl, rfl, by omega, by simp, rfl, HB1.out⟩
  case round =>
    obtain ⟨k, sb, rfl, rfl, hk, hsb, hd, hB⟩ := hrel
    have HD := Lib.hid hd
    have HB := Lib.hid hB
    have hzr : w.heap.size ≤ wr.heap.size := hB.size
    clear hd hB
    by_cases hlt : k < n
    · have hzc : wr.cell? ⟨lb, lo + k, none⟩ = some (.int .i64 (zf k)) := (HB.out.cell (p := ⟨lb, lo + k, none⟩) hlb).trans (HZ.out k (by omega)).1
      have hz1 := (HZ.out k (by omega)).2.1
      have hz2 := (HZ.out k (by omega)).2.2
      obtain ⟨a, ha⟩ : ∃ a, nfI (zf k) = a := ⟨_, rfl⟩
      have fa : Wm.Fits a := by rw [← ha]; exact nfI_fits _
      obtain ⟨sa, hsa⟩ : ∃ sa : ByteArray, sa = ⟨(Wm.encI a).toArray⟩ := ⟨_, rfl⟩
      have sa2 : sa.size ≤ 9 := by rw [hsa, mk_size]; exact Wm.encI_le a
      obtain ⟨X, hX⟩ : ∃ X, X = sf k := ⟨_, rfl⟩
      have hXs : X.size ≤ maxLen := by rw [hX]; exact (HS.out k (by omega)).2
      obtain ⟨m, hm⟩ : ∃ m : Nat, m = min X.size 100 := ⟨_, rfl⟩
      have hm1 : m ≤ 100 := by omega
      have hm2 : m ≤ X.size := by omega
      have hmin2 : ∀ (ts : Array TypeId) (t : TypeId) (W : World), (Builtin.min_ ts t #[.int .i64 (X.size : Int), .int .i64 100]).run Tryd.prog W = .ok (.int .i64 (m : Int)) W := by
        intro ts t W
        rw [run_min2, hm]
        congr 2
        split <;> omega
      have hxe : X.extract 0 m = seqX sf k := by unfold seqX; rw [hm, hX]
      obtain ⟨st, hst⟩ : ∃ st : ByteArray, st = ⟨(Wm.encS (seqX sf k).data.toList).toArray⟩ := ⟨_, rfl⟩
      have st2 : st.size ≤ 109 := by rw [hst, mk_size]; have := (encS_le (seqX sf k).data.toList).2; have := seqX_len sf k; omega
      have HST : Hid (putSV (X.extract 0 m) = .tuple #[.string st, .int .i64 0]) := Lib.hid (by rw [hxe, hst]; exact putSV_small _ (by have := seqX_size sf k; omega))
      have XS : Hid ((X.extract 0 m).size ≤ maxLen) := Lib.hid (by unfold maxLen; simp; omega)
      have hsc : ∀ W, Below w.heap.size w W → W.cell? ⟨tb, to_ + k, none⟩ = some (.string X) := fun W hW => by rw [hX]; exact (hW.cell (p := ⟨tb, to_ + k, none⟩) htb).trans (HS.out k (by omega)).1
      have HSC := Lib.hid hsc
      have HA := Lib.hid ha
      have HSA := Lib.hid hsa
      have HCAT : Hid (((sb ++ sa) ++ st).data.toList = seqS zf sf (k + 1)) := Lib.hid (by
        rw [cat_data, cat_data, HD.out, hsa, hst, ← ha, seqS, List.append_assoc])
      unfold maxLen at hXs
      clear ha hsa hX hm hxe hst hsc
      go_wp2_with fail
      refine (number_as _ _ _ HA.out hz1 hz2).mono ?_; rintro e w2 ⟨rfl, B2⟩
      go_wp2_with fail
      refine (putInt_b _ _ _ HSA.out fa).mono ?_; rintro e w3 ⟨rfl, B3⟩
      have HB3 : Hid (Below w.heap.size w w3) := Lib.hid (HB.out.trans ((bthen B2 B3).mono hzr))
      have hz3 : w.heap.size ≤ w3.heap.size := HB3.out.size
      have hcx := HSC.out w3 HB3.out
      clear B2 B3
      go_wp2_with fail
      have hput : ∀ W, Below w.heap.size w W → Calls Tryd.prog 19 #[.string (X.extract 0 m)] W fun e w' => e = .returned (.tuple #[.string st, .int .i64 0]) ∧ w'.cell? ⟨tb, to_ + k, none⟩ = some (.string X) ∧ Below w.heap.size w w' := fun W hW =>
        (putString_as _ _ _ XS.out HST.out).mono fun e w' ⟨he, hb⟩ => ⟨he, HSC.out _ (hW.trans (hb.mono hW.size)), hW.trans (hb.mono hW.size)⟩
      have HPUT := Lib.hid hput
      have kI0 : (0 : Int) ≤ (k : Int) := by omega
      have kI1 : (k : Int) < (tl : Int) := by omega
      have hb3 := HB3.out
      clear hput
      go_region_held3 (fun w' => w'.cell? ⟨tb, to_ + k, none⟩ = some (.string X) ∧ Below w.heap.size w w') (first | exact ⟨hcx, hb3⟩ | exact ⟨hcx, hb3.drew⟩ | (refine ⟨?_, ?_⟩ <;> assumption)) ((first | (go_at_call 19; refine (HPUT.out _ (by first | exact hb3.drew | exact hb3 | assumption)).mono ?_; rintro e w4 ⟨rfl, hc4, hb4⟩)))
      all_goals
        go_wp2_with fail
        go_roundw
        case rel => exact ⟨k + 1, _, by go_num, rfl, by omega, by simp; omega, HCAT.out, by assumption⟩
        case measure => simp [intOf]; omega
    · obtain rfl : k = n := by omega
      obtain ⟨wo, rfl⟩ : ∃ wo : World, wo = wr := ⟨_, rfl⟩
      have sb1 : sb.size = (seqS zf sf k).length := by rw [← HD.out, ← Lib.size_eq]
      have sbm : sb.size ≤ maxLen := by unfold maxLen; omega
      have SBM := Lib.hid sbm
      have HSB := Lib.hid sb1
      clear sb1 sbm
      go_wp2_with fail
      go_loopw [13, 14] (fun t c wr => ∃ (j q : Nat), c = .int .i64 j ∧ t = .int .i64 q ∧ j ≤ k ∧ q = (seqS zf sf j).length ∧ Below w.heap.size w wr) (fun _ c _ => k - (intOf c).toNat)
      case atStart => exact ⟨0, 0, rfl, rfl, by omega, rfl, HB.out⟩
      case round =>
        obtain ⟨j, q, rfl, rfl, hj, hq, hB2⟩ := hrel
        have HQ := Lib.hid hq
        have HB2 := Lib.hid hB2
        have hzr2 : w.heap.size ≤ wr.heap.size := hB2.size
        clear hq hB2
        by_cases hlt2 : j < k
        · obtain ⟨r, hr⟩ := seqS_split zf sf j k hlt2
          obtain ⟨a, ha⟩ : ∃ a, nfI (zf j) = a := ⟨_, rfl⟩
          have fa : Wm.Fits a := by rw [← ha]; exact nfI_fits _
          obtain ⟨X, hX⟩ : ∃ X, X = sf j := ⟨_, rfl⟩
          have hXs : X.size ≤ maxLen := by rw [hX]; exact (HS.out j (by omega)).2
          obtain ⟨m, hm⟩ : ∃ m : Nat, m = min X.size 100 := ⟨_, rfl⟩
          have hm1 : m ≤ 100 := by omega
          have hm2 : m ≤ X.size := by omega
          have hmin2 : ∀ (ts : Array TypeId) (t : TypeId) (W : World), (Builtin.min_ ts t #[.int .i64 (X.size : Int), .int .i64 100]).run Tryd.prog W = .ok (.int .i64 (m : Int)) W := by
            intro ts t W
            rw [run_min2, hm]
            congr 2
            split <;> omega
          have hxe : X.extract 0 m = seqX sf j := by unfold seqX; rw [hm, hX]
          rw [ha] at hr
          obtain ⟨q2, hq2⟩ : ∃ q2 : Nat, q2 = q + (Wm.encI a).length := ⟨_, rfl⟩
          obtain ⟨q3, hq3⟩ : ∃ q3 : Nat, q3 = q2 + (Wm.encS (seqX sf j).data.toList).length := ⟨_, rfl⟩
          have HI : Hid (intV sb.data.toList (q : Int) = .tuple #[.int .i64 a, .int .i64 (q2 : Int), .int .i64 0]) := Lib.hid (by
            rw [HD.out, hr, intV_at HQ.out fa, hq2]; simp)
          have HV : Hid (strV sb.data.toList (q2 : Int) = .tuple #[.string (X.extract 0 m), .int .i64 (q3 : Int), .int .i64 0]) := Lib.hid (by
            rw [HD.out, hr, ← List.append_assoc, strV_at (by rw [List.length_append, ← HQ.out, hq2]) (by have := seqX_len sf j; omega), mk_data, hxe, hq3]; simp)
          have HQ3 : Hid (q3 = (seqS zf sf (j + 1)).length) := Lib.hid (by
            rw [hq3, hq2, HQ.out, seqS, List.length_append, List.length_append, ha]; omega)
          have hz1 := (HZ.out j (by omega)).2.1
          have hz2 := (HZ.out j (by omega)).2.2
          have hzc : ∀ W, Below w.heap.size w W → W.cell? ⟨lb, lo + j, none⟩ = some (.int .i64 (zf j)) ∧ W.cell? ⟨tb, to_ + j, none⟩ = some (.string X) := fun W hW => by
            rw [hX]
            exact ⟨(hW.cell (p := ⟨lb, lo + j, none⟩) hlb).trans (HZ.out j (by omega)).1, (hW.cell (p := ⟨tb, to_ + j, none⟩) htb).trans (HS.out j (by omega)).1⟩
          have hnum : ∀ W, Below w.heap.size w W → Calls Tryd.prog 11 #[.int .i64 (zf j)] W fun e w' => e = .returned (.int .i64 a) ∧ w'.cell? ⟨lb, lo + j, none⟩ = some (.int .i64 (zf j)) ∧ w'.cell? ⟨tb, to_ + j, none⟩ = some (.string X) ∧ Below w.heap.size w w' := fun W hW =>
            (number_as _ _ _ ha hz1 hz2).mono fun e w' ⟨he, hb⟩ => ⟨he, (hzc _ (hW.trans (hb.mono hW.size))).1, (hzc _ (hW.trans (hb.mono hW.size))).2, hW.trans (hb.mono hW.size)⟩
          have HNUM := Lib.hid hnum
          have HZC := Lib.hid hzc
          have kI0 : (0 : Int) ≤ (j : Int) := by omega
          have kI1 : (j : Int) < (tl : Int) := by omega
          have kI2 : (j : Int) < (ll : Int) := by omega
          unfold maxLen at hXs
          clear hr ha hX hm hxe hq2 hq3 hzc hnum
          go_wp2_with fail
          refine (int_as _ _ _ _ SBM.out HI.out).mono ?_; rintro e w' ⟨rfl, rfl⟩
          go_wp2_with fail
          refine (string_as _ _ _ _ SBM.out HV.out).mono ?_; rintro e w4 ⟨rfl, B4⟩
          have hb4 : Below w.heap.size w w4 := HB2.out.trans (B4.mono hzr2)
          have hc4 := (HZC.out w4 hb4).1
          have hd4 := (HZC.out w4 hb4).2
          clear B4
          go_wp2_with fail
          go_region_held3 (fun w' => w'.cell? ⟨lb, lo + j, none⟩ = some (.int .i64 (zf j)) ∧ w'.cell? ⟨tb, to_ + j, none⟩ = some (.string X) ∧ Below w.heap.size w w') (first | exact ⟨hc4, hd4, hb4⟩ | exact ⟨hc4, hd4, hb4.drew⟩ | (refine ⟨?_, ?_, ?_⟩ <;> assumption)) ((first | (go_at_call 11; refine (HNUM.out _ (by first | exact hb4.drew | exact hb4 | assumption)).mono ?_; rintro e w5 ⟨rfl, hc5, hd5, hb5⟩)))
          all_goals
            go_wp2_with fail
            go_roundw
            case rel => exact ⟨j + 1, q3, by go_num, rfl, by omega, HQ3.out, by assumption⟩
            case measure => simp [intOf]; omega
        · obtain rfl : j = k := by omega
          have HI : Hid (intV sb.data.toList (q : Int) = .tuple #[.int .i64 0, .int .i64 0, .int .i64 10]) := Lib.hid (by
            rw [HD.out, HQ.out]
            unfold intV
            rw [if_neg (by omega), Int.toNat_natCast, List.drop_length]
            rfl)
          have HE : Hid (((q : Int) == (sb.size : Int)) = true) := Lib.hid (by rw [HQ.out, HSB.out]; simp)
          have hqe := HE.out
          go_wp2_with fail
          refine (int_as _ _ _ _ SBM.out HI.out).mono ?_; rintro e w' ⟨rfl, rfl⟩
          go_wp2_with fail
          go_ret
          exact ⟨rfl, HB2.out⟩

set_option maxRecDepth 100000 in
set_option maxHeartbeats 4000000 in
/-- No integer or no text. -/
theorem sequence_none (la ta : Option Addr) (ll lc tl tc : Nat) (w : World) (h0 : ll = 0 ∨ tl = 0) (hT : TabAt w) (hg : 0 < w.heap.size) :
    Calls Tryd.prog 6 #[.slice la ll lc, .slice ta tl tc] w fun e w' => e = .returned (.bool true) ∧ Below w.heap.size w w' := by
  have HT := Lib.hid hT
  clear hT
  have hmin : ∀ (ts : Array TypeId) (t : TypeId) (W : World), (Builtin.min_ ts t #[.int .i64 (ll : Int), .int .i64 (tl : Int), .int .i64 20]).run Tryd.prog W = .ok (.int .i64 0) W := by
    intro ts t W
    rw [run_min_int3]
    congr 2
    (repeat' split) <;> omega
  have H0 := Lib.hid h0
  clear h0
  go_enter Tryd.func6, Tryd.ntmps6
  go_wp2_with fail
  refine (sane_any _ HT.out hg).mono ?_; rintro e w1 ⟨rfl, B1⟩
  go_wp2_with fail
  refine wp_loop_rounds 1 ?_
  rw [rounds_succ]
  go_wp2_with fail
  refine wp_loop_rounds 1 ?_
  rw [rounds_succ]
  go_wp2_with fail
  refine (int_as _ _ (.tuple #[.int .i64 0, .int .i64 0, .int .i64 10]) _ (by decide) (by rfl)).mono ?_; rintro e w' ⟨rfl, rfl⟩
  go_wp2_with fail
  go_ret
  exact ⟨rfl, B1⟩
end Go.Proofs.YteenhpfafomeiaaDoor
