/- For all arguments the law WireSumBurst returns true and leaves what lay before the call as it was. Conditions: lengths and integers fit their types; the table wire.steps holds its sixteen numbers. -/
import Derived.Test.YteenhpfafomeiaaDoorWireSumAffine
import Derived.Test.YteenhpfafomeiaaDoorWireTruncated
import Derived.Laws.IdiomStrings
namespace Go.Proofs.YteenhpfafomeiaaDoor
open Go.RowKit

/-- The cells from block B on hold the bytes l, and may be written. -/
def BytesAt (W : World) (B : Nat) (l : List UInt8) : Prop := ∀ j, j < l.length → W.cell? ⟨B, j, none⟩ = some (.int .u8 ((l.getD j 0).toNat : Int)) ∧ W.frozen? ⟨B, j, none⟩ = false

theorem bytes_of (W : World) (s : ByteArray) : ∃ cap W2, (convert 9 38 (.string s)).run Tryd.prog W = .ok (.slice (some ⟨W.heap.size, 0, none⟩) s.size cap) W2 ∧
    BytesAt W2 W.heap.size s.data.toList ∧ Below W.heap.size W W2 ∧ W2.heap.size = W.heap.size + 1 := by
  refine ⟨_, _, run_bytes_of_string W 9 38 5 s Tryd.underlying9 Tryd.underlying38 Tryd.underlying5, fun j hj => ?_, ?_, ?_⟩
  · have hjs : j < s.data.size := by simpa using hj
    have hcells := World.cell?_alloc_mark W.drew (bytesRow s (grownCap W s.size 0 5)) 5 ((bytesRow s (grownCap W s.size 0 5)).size, (bytesRow s (grownCap W s.size 0 5)).size + 1) j
    have hfr := World.frozen?_alloc_mark W.drew (bytesRow s (grownCap W s.size 0 5)) 5 (bytesRow s (grownCap W s.size 0 5)).size ((bytesRow s (grownCap W s.size 0 5)).size + 1) j
    have hsz : s.data.size ≤ (bytesRow s (grownCap W s.size 0 5)).size := by unfold bytesRow; simp
    refine ⟨hcells.trans ?_, hfr.trans ?_⟩
    · rw [bytesRow_at s _ j hjs, byte_getD s j (by simpa using hjs)]; rfl
    · simp; omega
  · exact ((Below.refl _ W).drew).alloc (by simp) _
  · simp

theorem bytesAt_set {W : World} {B k : Nat} {l : List UInt8} {v : UInt8} {x : Int} (h : BytesAt W B l) (hx : x = (v.toNat : Int)) : BytesAt (W.setCell ⟨B, k, none⟩ (.int .u8 x)).drew B (l.set k v) := fun j hj => by
  rw [List.length_set] at hj
  obtain ⟨hc, hf⟩ := h j hj
  refine ⟨?_, by rw [World.frozen?_drew, World.frozen?_setCell]; exact hf⟩
  rw [World.cell?_drew]
  by_cases e : j = k
  · subst e
    rw [World.cell?_setCell_same (h := hc), hx]
    simp [List.getD, hj]
  · have n2 : (⟨B, k, none⟩ : Addr) ≠ ⟨B, j, none⟩ := fun e' => by injection e' with e1 e2; exact e e2.symm
    rw [World.cell?_setCell_other (h := n2), hc]
    simp [List.getD, List.getElem?_set_ne (Ne.symm e)]

theorem bytesAt_text (w : World) (B n : Nat) (l : List UInt8) (q cap : Nat) (h : BytesAt w B l) (hn : n = l.length) :
    (convert 38 9 (.slice (some ⟨B, 0, none⟩) n cap)).run Tryd.prog (w.drewN q) = .ok (.string ⟨l.toArray⟩) (w.drewN q) := by
  subst hn
  rw [run_convert_bytes_arg (P := Tryd.prog) (w.drewN q) 38 5 Tryd.underlying38 Tryd.underlying5 B 0 l.length cap (l.map fun b => (b.toNat : Int)) (by simp) (fun i hi => by
    have := (h i hi).1
    rw [Nat.zero_add]
    simp [List.getD, hi] at this ⊢
    exact this) 9 Tryd.underlying9]
  congr 2
  unfold strOfNums
  rw [List.map_map]
  congr 2
  conv => rhs; rw [← List.map_id l]
  apply List.map_congr_left
  intro b _
  simp

/-- One bit of the burst. -/
theorem burst_step {l l0 : List UInt8} {B f i : Nat} (h : Wm.leN l = Wm.leN l0 ^^^ (B % 2 ^ i) * 2 ^ f) (hl : f + i < 8 * l.length) (hb : B / 2 ^ i % 2 = 1) :
    Wm.leN (l.set ((f + i) / 8) (l.getD ((f + i) / 8) 0 ^^^ UInt8.ofNat (2 ^ ((f + i) % 8)))) = Wm.leN l0 ^^^ (B % 2 ^ (i + 1)) * 2 ^ f := by
  rw [Wm.leN_set _ _ _ (by omega), h, Wm.mod_succ_bit, hb, Nat.one_mul, Nat.xor_assoc]
  congr 1
  have hp : 2 ^ ((f + i) % 8) < 256 := Nat.lt_of_le_of_lt (Nat.pow_le_pow_right (by decide) (by omega : (f + i) % 8 ≤ 7)) (by decide)
  rw [UInt8.toNat_ofNat_of_lt' (by simpa using hp), show (256 : Nat) = 2 ^ 8 from rfl, ← Nat.pow_mul, ← Nat.pow_add, show (f + i) % 8 + 8 * ((f + i) / 8) = i + f by omega]
  apply Nat.eq_of_testBit_eq; intro j
  rw [Nat.testBit_xor, Nat.mul_comm (B % 2 ^ i), Nat.testBit_two_pow_mul, Nat.mul_comm (B % 2 ^ i ^^^ 2 ^ i), Nat.testBit_two_pow_mul, Nat.testBit_xor, Nat.testBit_two_pow, Nat.testBit_two_pow]
  by_cases hj : f ≤ j
  · have e : decide (i + f = j) = decide (i = j - f) := decide_eq_decide.2 (by omega)
    simp only [hj, decide_true, Bool.true_and, e]
  · have : ¬ i + f = j := by omega
    simp [hj, this]

/-- What holds of the bytes and of 'changed' behind i bits. -/
def BurstI (B f m : Nat) (l0 : List UInt8) (i : Nat) (l : List UInt8) (b : Bool) : Prop := l.length = m ∧ Wm.leN l = Wm.leN l0 ^^^ (B % 2 ^ i) * 2 ^ f ∧ b = decide (B % 2 ^ i ≠ 0)

theorem bit_nat {B i : Nat} {t : Bool} (h : (((B : Int) / 2 ^ i).tmod 2 == 1) = t) : decide (B / 2 ^ i % 2 = 1) = t := by
  have e : ((B : Int) / 2 ^ i).tmod 2 = ((B / 2 ^ i % 2 : Nat) : Int) := by
    rw [Int.tmod_eq_emod_of_nonneg (Int.ediv_nonneg (by omega) (Int.pow_nonneg (by omega)))]
    simp
  rw [e] at h
  rw [← h]
  generalize B / 2 ^ i % 2 = X
  by_cases hx : X = 1
  · subst hx; rfl
  · rw [decide_eq_false hx, beq_eq_false_iff_ne.2 (by omega)]
theorem burstI_no {B f m : Nat} {l0 l : List UInt8} {i : Nat} {b : Bool} (h : BurstI B f m l0 i l b) (ht : (((B : Int) / 2 ^ i).tmod 2 == 1) = false) : BurstI B f m l0 (i + 1) l b := by
  have hb := of_decide_eq_false (bit_nat ht)
  have e : B % 2 ^ (i + 1) = B % 2 ^ i := by
    rw [Wm.mod_succ_bit, show B / 2 ^ i % 2 = 0 by omega]; simp
  unfold BurstI
  rw [e]
  exact h
theorem burstI_yes {B f m : Nat} {l0 l : List UInt8} {i : Nat} {b : Bool} (h : BurstI B f m l0 i l b) (hl : f + i < 8 * m) (ht : (((B : Int) / 2 ^ i).tmod 2 == 1) = true) :
    BurstI B f m l0 (i + 1) (l.set ((f + i) / 8) (l.getD ((f + i) / 8) 0 ^^^ UInt8.ofNat (2 ^ ((f + i) % 8)))) true := by
  have hb := of_decide_eq_true (bit_nat ht)
  obtain ⟨h1, h2, h3⟩ := h
  refine ⟨by rw [List.length_set, h1], burst_step h2 (by rw [h1]; exact hl) hb, (decide_eq_true ?_).symm⟩
  rw [Wm.mod_succ_bit, hb, Nat.one_mul]
  intro e
  have := Wm.xor_eq e
  have hlt : B % 2 ^ i < 2 ^ i := Nat.mod_lt _ (Nat.pow_pos (by decide))
  omega
theorem bit_val {x k e : Nat} {l : List UInt8} (hx : x = (l.getD k 0).toNat) : Go.bits .xor .u8 (x : Int) (2 ^ (e % 8) % 256) = ((l.getD k 0 ^^^ UInt8.ofNat (2 ^ (e % 8))).toNat : Int) := by
  have hp : 2 ^ (e % 8) < 256 := Nat.lt_of_le_of_lt (Nat.pow_le_pow_right (by decide) (by omega : e % 8 ≤ 7)) (by decide)
  have e0 : ((2 : Int) ^ (e % 8)) = ((2 ^ (e % 8) : Nat) : Int) := by simp
  have e1 : ((2 : Int) ^ (e % 8) % 256) = ((2 ^ (e % 8) : Nat) : Int) := by
    rw [e0]
    generalize 2 ^ (e % 8) = P at hp
    omega
  rw [e1, u8_xor_nat _ _ (by rw [hx]; exact UInt8.toNat_lt _) hp, UInt8.toNat_xor, UInt8.toNat_ofNat_of_lt' (by simpa using hp), hx]
theorem burst_fin {s : ByteArray} {m W : Nat} {l l0 : List UInt8} {b : Bool} (h : Wm.crc l = Wm.crc l0 ↔ W = 0) (hb : b = decide (W ≠ 0)) (hl : l0 = s.data.toList.take m) :
    (b == !(((Wm.crc l : Nat) : Int) == ((Wm.crc (List.take m s.data.toList) : Nat) : Int))) = true := by
  rw [← hl, hb]
  by_cases e : W = 0
  · rw [h.2 e]; simp [e]
  · have : ¬ ((Wm.crc l : Nat) : Int) = ((Wm.crc l0 : Nat) : Int) := fun k => e (h.1 (by omega))
    rw [beq_eq_false_iff_ne.2 this]; simp [e]

set_option maxRecDepth 100000 in
set_option maxHeartbeats 4000000 in
theorem sumBurst_any (s : ByteArray) (p : Int) (bits : Int) (w : World) (hs : s.size ≤ maxLen) (p1 : -9223372036854775808 ≤ p) (p2 : p ≤ 9223372036854775807) (q1 : 0 ≤ bits) (q2 : bits ≤ 4294967295)
    (hT : TabAt w) (hg : 0 < w.heap.size) :
    Calls Tryd.prog 8 #[.string s, .int .i64 p, .int .u32 bits] w fun e w' => e = .returned (.bool true) ∧ Below w.heap.size w w' := by
  unfold maxLen at hs
  have HT := Lib.hid hT
  clear hT
  obtain ⟨B, rfl⟩ := Int.eq_ofNat_of_zero_le q1
  obtain ⟨m, hm⟩ : ∃ m : Nat, m = min s.size 300 := ⟨_, rfl⟩
  have hm1 : m ≤ 300 := by omega
  have hm2 : m ≤ s.size := by omega
  have hmin : ∀ (ts : Array TypeId) (t : TypeId) (W : World), (Builtin.min_ ts t #[.int .i64 (s.size : Int), .int .i64 300]).run Tryd.prog W = .ok (.int .i64 (m : Int)) W := by
    intro ts t W
    rw [run_min2, hm]
    congr 2
    split <;> omega
  clear hm
  obtain ⟨l0, hl0⟩ : ∃ l0, l0 = s.data.toList.take m := ⟨_, rfl⟩
  have ll : l0.length = m := by rw [hl0, List.length_take, ← Lib.size_eq]; omega
  have hxs : (s.extract 0 m).size = m := by simp; omega
  have HL0 := Lib.hid hl0
  have HLL := Lib.hid ll
  have HXS := Lib.hid hxs
  clear hl0 ll hxs
  by_cases m0 : ((m : Int) == 0) = true
  · go_enter Tryd.func8, Tryd.ntmps8
    go_wp2_with fail
    refine (sane_any _ HT.out hg).mono ?_; rintro e w1 ⟨rfl, B1⟩
    obtain ⟨cap, W2, hcv, hby, hB2, hsz⟩ := bytes_of w1 (s.extract 0 m)
    rw [HXS.out] at hcv
    go_wp2_with fail
    go_ret
    exact ⟨rfl, bthen B1 hB2⟩
  · have m0' : ((m : Int) == 0) = false := by simpa using m0
    have m1 : 1 ≤ m := by have := beq_eq_false_iff_ne.1 m0'; omega
    clear m0
    by_cases b0 : ((B : Int) == 0) = true
    · go_enter Tryd.func8, Tryd.ntmps8
      go_wp2_with fail
      refine (sane_any _ HT.out hg).mono ?_; rintro e w1 ⟨rfl, B1⟩
      obtain ⟨cap, W2, hcv, hby, hB2, hsz⟩ := bytes_of w1 (s.extract 0 m)
      rw [HXS.out] at hcv
      go_wp2_with fail
      go_ret
      exact ⟨rfl, bthen B1 hB2⟩
    · have b0' : ((B : Int) == 0) = false := by simpa using b0
      clear b0
      obtain ⟨f, hf⟩ : ∃ f : Nat, pickI p (8 * (m : Int)) = f := ⟨(pickI p (8 * (m : Int))).toNat, by have := pickI_lt p (8 * (m : Int)) (by omega); omega⟩
      have hfl : f < 8 * m := by have := pickI_lt p (8 * (m : Int)) (by omega); omega
      have HF := Lib.hid hf
      clear hf
      go_enter Tryd.func8, Tryd.ntmps8
      go_wp2_with fail
      refine (sane_any _ HT.out hg).mono ?_; rintro e w1 ⟨rfl, B1⟩
      obtain ⟨cap, W2, hcv, hby, hB2, hsz⟩ := bytes_of w1 (s.extract 0 m)
      rw [HXS.out] at hcv
      have HBY : Hid (BytesAt W2 w1.heap.size l0) := Lib.hid (by rw [HL0.out, ← take_data]; exact hby)
      have HB2 : Hid (Below w.heap.size w W2) := Lib.hid (bthen B1 hB2)
      have hsz1 : w.heap.size ≤ w1.heap.size := B1.size
      have HSZ := Lib.hid hsz
      clear hby hB2 B1 hsz
      go_wp2_with fail
      refine (pick_eq _ _ _ _ HF.out p1 p2 (by omega) (by omega)).mono ?_; rintro e w' ⟨rfl, rfl⟩
      go_wp2_with fail
      go_loopw [10, 11] (fun ch c wr => ∃ (i : Nat) (l : List UInt8) (b : Bool), c = .int .i64 i ∧ ch = .bool b ∧ i ≤ 32 ∧ f + i ≤ 8 * m ∧ BurstI B f m l0 i l b ∧ BytesAt wr w1.heap.size l ∧ Below w.heap.size w wr) (fun _ c _ => 32 - (intOf c).toNat)
      case atStart => exact ⟨0, l0, false, rfl, rfl, by omega, by omega, ⟨HLL.out, by simp [Nat.mod_one], by simp [Nat.mod_one]⟩, HBY.out, HB2.out⟩
      case round =>
        obtain ⟨i, l, b, rfl, rfl, hi, hfi, hI, hby, hBw⟩ := hrel
        have HI := Lib.hid hI
        have HY := Lib.hid hby
        have HW := Lib.hid hBw
        clear hI hby hBw
        by_cases hc : i < 32 ∧ f + i < 8 * m
        · obtain ⟨hc1, hc2⟩ := hc
          have hidx : (f + i) / 8 < m := by omega
          have hcell := HY.out ((f + i) / 8) (by rw [HI.out.1]; exact hidx)
          obtain ⟨x, hx⟩ : ∃ x : Nat, x = (l.getD ((f + i) / 8) 0).toNat := ⟨_, rfl⟩
          have hxl : x < 256 := by rw [hx]; exact UInt8.toNat_lt _
          rw [← hx] at hcell
          obtain ⟨hc3, hc4⟩ := hcell
          have HX := Lib.hid hx
          clear hx
          go_wp2_with fail
          case roundEnd =>
            refine ⟨⟨i + 1, l, b, by go_num, rfl, by omega, by omega, burstI_no HI.out (by assumption), HY.out, HW.out⟩, by simp [intOf]; omega⟩
          go_region
          all_goals go_wp2_with fail
          all_goals
            refine ⟨⟨i + 1, _, true, by go_num, rfl, by omega, by omega, burstI_yes HI.out hc2 (by assumption), bytesAt_set HY.out (bit_val HX.out), ((HW.out.setCell (p := ⟨w1.heap.size, (f + i) / 8, none⟩) (by simp; omega) _)).drew⟩, by simp [intOf]; omega⟩
        · have hfin : ((Wm.crc l = Wm.crc l0) ↔ B % 2 ^ i = 0) := Wm.crc_burst l0 l f _ (by rw [HI.out.1, HLL.out]) (by rw [HLL.out]; omega) (Nat.lt_of_le_of_lt (Nat.mod_le _ _) (by omega)) HI.out.2.1
          have hb := HI.out.2.2
          have HFIN : Hid ((b == !(((Wm.crc l : Nat) : Int) == ((Wm.crc (List.take m s.data.toList) : Nat) : Int))) = true) := Lib.hid (burst_fin hfin hb HL0.out)
          clear hfin hb
          have HTT : Hid (TabAt wr) := Lib.hid (HT.out.below HW.out hg)
          have hcv2 := fun (q cap : Nat) => bytesAt_text wr w1.heap.size m l q cap HY.out HI.out.1.symm
          have X1 : Hid ((⟨l.toArray⟩ : ByteArray).size ≤ maxLen) := Lib.hid (by rw [mk_size, HI.out.1]; unfold maxLen; omega)
          have X2 : Hid ((s.extract 0 m).size ≤ maxLen) := Lib.hid (by rw [HXS.out]; unfold maxLen; omega)
          by_cases hi32 : i < 32
          all_goals
            go_wp2_with fail
            go_quiet ((go_at_call 21; refine sum_q _ _ _ ?_ HTT.out; first | exact X1.out | exact X2.out))
            go_wp2_with fail
            go_ret
            exact ⟨congrArg (fun t => Ending.returned (.bool t)) HFIN.out, HW.out.trans (Below.of_drewN _ _ _)⟩
end Go.Proofs.YteenhpfafomeiaaDoor
