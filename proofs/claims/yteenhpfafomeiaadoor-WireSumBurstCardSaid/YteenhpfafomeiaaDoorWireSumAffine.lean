/- For all arguments the law WireSumAffine returns true and leaves what lay before the call as it was. Conditions: lengths and integers fit their types; the table wire.steps holds its sixteen numbers. -/
import Derived.Test.YteenhpfafomeiaaDoorWireN
import Derived.Test.YteenhpfafomeiaaDoorWireMore
import Derived.RegionTactic
import Derived.ChangeAlike
import Derived.Laws.MakeOwn
import Derived.Laws.OwnMore
namespace Go.Proofs.YteenhpfafomeiaaDoor
open Go.RowKit

theorem i64_xor_nat (a b : Nat) (ha : a < 4294967296) (hb : b < 4294967296) : bits .xor .i64 (a : Int) (b : Int) = ((a ^^^ b : Nat) : Int) := by
  have hx := xor_lt ha hb
  have ea : (BitVec.ofInt 64 (a : Int)).toNat = a := by simp; omega
  have eb : (BitVec.ofInt 64 (b : Int)).toNat = b := by simp; omega
  show IntKind.i64.wrap ((BitVec.ofInt 64 (a : Int) ^^^ BitVec.ofInt 64 (b : Int)).toNat : Int) = _
  rw [BitVec.toNat_xor, ea, eb]
  exact IntWalk.i64_in _ (by omega)

/-- The checksum in a world that has drawn. -/
theorem sum_q (s : ByteArray) (w : World) (n : Nat) (hs : s.size ≤ maxLen) (hT : TabAt w) :
    Calls Tryd.prog 21 #[.string s] (w.drewN n) fun e w'' => e = .returned (.int .i64 (Wm.crc s.data.toList : Nat)) ∧ ∃ m, w'' = w.drewN m :=
  Calls.quiet_of_same ((sum_any s _ hs (fun i hi => by have := hT i hi; simpa using this)).mono fun _ _ ⟨h1, h2⟩ => ⟨h1, h2.symm⟩)

theorem run_min4 (ts : Array TypeId) (t : TypeId) (x y z u : Int) (W : World) : (Builtin.min_ ts t #[.int .i64 x, .int .i64 y, .int .i64 z, .int .i64 u]).run Tryd.prog W =
    .ok (.int .i64 (if u < (if z < (if y < x then y else x) then z else (if y < x then y else x)) then u else (if z < (if y < x then y else x) then z else (if y < x then y else x)))) W := by
  simp [Builtin.min_, Builtin.min2]

theorem byte_getD (s : ByteArray) (i : Nat) (h : i < s.size) : s.data.toList.getD i 0 = s[i] := by
  obtain ⟨h', e⟩ := byte_list s i h
  rw [List.getD, List.getElem?_eq_getElem h', e]; rfl

/-- The cells of x when i of them are set. -/
def XorAt (w : World) (B n : Nat) (f : Nat → Nat) (i : Nat) : Prop := ∀ j, j < n → w.cell? ⟨B, j, none⟩ = some (.int .u8 (if j < i then (f j : Int) else 0)) ∧ w.frozen? ⟨B, j, none⟩ = false

theorem xorAt_step {w : World} {B n : Nat} {f : Nat → Nat} {i : Nat} {v : Nat} (h : XorAt w B n f i) (hv : v = f i) : XorAt (w.setCell ⟨B, i, none⟩ (.int .u8 (v : Int))).drew B n f (i + 1) := fun j hj => by
  obtain ⟨hc, hf⟩ := h j hj
  refine ⟨?_, by rw [World.frozen?_drew, World.frozen?_setCell]; exact hf⟩
  rw [World.cell?_drew]
  by_cases e : j = i
  · subst e
    rw [World.cell?_setCell_same (h := hc), hv, if_pos (by omega)]
  · have n2 : (⟨B, i, none⟩ : Addr) ≠ ⟨B, j, none⟩ := fun e' => by injection e' with e1 e2; exact e e2.symm
    rw [World.cell?_setCell_other (h := n2), hc]
    by_cases h1 : j < i
    · rw [if_pos h1, if_pos (by omega)]
    · rw [if_neg h1, if_neg (by omega)]
/-- The text of x. -/
def xText (n : Nat) (f : Nat → Nat) : ByteArray := strOfNums ((List.range n).map fun j => (f j : Int))
theorem xText_size (n : Nat) (f : Nat → Nat) : (xText n f).size = n := by unfold xText; rw [strOfNums_size]; simp
theorem xorAt_text (w : World) (B n : Nat) (f : Nat → Nat) (q cap : Nat) (h : XorAt w B n f n) :
    (convert 38 9 (.slice (some ⟨B, 0, none⟩) n cap)).run Tryd.prog (w.drewN q) = .ok (.string (xText n f)) (w.drewN q) :=
  run_convert_bytes_arg (P := Tryd.prog) (w.drewN q) 38 5 Tryd.underlying38 Tryd.underlying5 B 0 n cap ((List.range n).map fun j => (f j : Int)) (by simp) (fun i hi => by
    have := (h i hi).1
    rw [if_pos hi] at this
    rw [Nat.zero_add]
    simp [List.getD, hi, this]) 9 Tryd.underlying9

theorem Below.of_drewN (B : Nat) (w : World) (n : Nat) : Below B w (w.drewN n) := ⟨rfl, rfl, rfl, Nat.le_refl _, fun _ _ => rfl⟩
theorem take_getD (l : List UInt8) (i j : Nat) (h : j < i) : (l.take i).getD j 0 = l.getD j 0 := by
  rw [List.getD, List.getD, List.getElem?_take_of_lt h]
theorem xor_crc (i : Nat) (f : Nat → Nat) (a b c : ByteArray) (h1 : i ≤ a.size) (h2 : i ≤ b.size) (h3 : i ≤ c.size)
    (hf : f = fun j => (a.data.toList.getD j 0).toNat ^^^ (b.data.toList.getD j 0).toNat ^^^ (c.data.toList.getD j 0).toNat) :
    Wm.crc (xText i f).data.toList = Wm.crc (a.data.toList.take i) ^^^ Wm.crc (b.data.toList.take i) ^^^ Wm.crc (c.data.toList.take i) := by
  have hl : (xText i f).data.toList.length = i := by rw [← Lib.size_eq]; exact xText_size i f
  refine Wm.crc_xor3 _ _ _ _ ?_ ?_ ?_ ?_
  · rw [hl, List.length_take, ← Lib.size_eq]; omega
  · rw [hl, List.length_take, ← Lib.size_eq]; omega
  · rw [hl, List.length_take, ← Lib.size_eq]; omega
  · intro j hj
    rw [hl] at hj
    rw [take_getD _ _ _ hj, take_getD _ _ _ hj, take_getD _ _ _ hj]
    have e : (xText i f).data.toList.getD j 0 = UInt8.ofNat (f j) := by
      unfold xText; rw [strOfNums_data]; simp [List.getD, hj]
    rw [e]
    have hb : f j < 256 := by
      rw [hf]
      exact Nat.xor_lt_two_pow (n := 8) (Nat.xor_lt_two_pow (n := 8) (UInt8.toNat_lt _) (UInt8.toNat_lt _)) (UInt8.toNat_lt _)
    rw [UInt8.toNat_ofNat_of_lt' (by simpa using hb), hf]

set_option maxRecDepth 100000 in
set_option maxHeartbeats 4000000 in
theorem sumAffine_any (a b c : ByteArray) (w : World) (ha : a.size ≤ maxLen) (hb : b.size ≤ maxLen) (hc : c.size ≤ maxLen) (hT : TabAt w) (hg : 0 < w.heap.size) :
    Calls Tryd.prog 9 #[.string a, .string b, .string c] w fun e w' => e = .returned (.bool true) ∧ Below w.heap.size w w' := by
  unfold maxLen at ha hb hc
  have HT := Lib.hid hT
  clear hT
  obtain ⟨n, hn⟩ : ∃ n : Nat, n = min (min (min a.size b.size) c.size) 200 := ⟨_, rfl⟩
  have hn1 : n ≤ 200 := by omega
  have hn2 : n ≤ a.size := by omega
  have hn3 : n ≤ b.size := by omega
  have hn4 : n ≤ c.size := by omega
  have hmin : ∀ (ts : Array TypeId) (t : TypeId) (W : World), (Builtin.min_ ts t #[.int .i64 (a.size : Int), .int .i64 (b.size : Int), .int .i64 (c.size : Int), .int .i64 200]).run Tryd.prog W = .ok (.int .i64 (n : Int)) W := by
    intro ts t W
    rw [run_min4, hn]
    congr 2
    (repeat' split) <;> omega
  clear hn
  obtain ⟨i0, hi, hz0, hz1, hz2⟩ := info_parts infoU8
  obtain ⟨M, hM⟩ : ∃ M, M = madeCells (Value.int .u8 0).cells (n * i0.size) := ⟨_, rfl⟩
  have hMs : M.size = n := by rw [hM, size_madeCells, hz1]; simp
  have hMc : ∀ j, j < n → M[j]? = some (.int .u8 0) := fun j hj => by
    have hl : M.toList = List.replicate n (.int .u8 0) := by rw [hM, hz1, Nat.mul_one]; exact toList_madeCells_one _ n
    rw [← Array.getElem?_toList, hl, List.getElem?_replicate, if_pos hj]
  have hmk : ∀ W : World, (Instr.makeSlice 38 (.int .i64 (n : Int)) (.int .i64 (n : Int))).run Tryd.prog W = .ok (.slice (some ⟨W.heap.size, 0, none⟩) n n) (W.alloc (.cells M 5)) := fun W => by
    have h := run_make (P := Tryd.prog) W 38 5 i0 (.int .u8 0) Tryd.underlying38 hi hz0 .i64 .i64 (n : Int) (n : Int) (by omega) (by omega) (by rw [hz2]; omega) (by omega)
    rw [Int.toNat_natCast, ← hM] at h
    exact h
  clear hM
  obtain ⟨f, hf⟩ : ∃ f : Nat → Nat, f = fun j => (a.data.toList.getD j 0).toNat ^^^ (b.data.toList.getD j 0).toNat ^^^ (c.data.toList.getD j 0).toNat := ⟨_, rfl⟩
  have HF := Lib.hid hf
  clear hf
  go_enter Tryd.func9, Tryd.ntmps9
  go_wp2_with fail
  refine (sane_any _ HT.out hg).mono ?_; rintro e w1 ⟨rfl, hB1⟩
  go_wp2_with fail
  have HB1 := Lib.hid hB1
  have hsz1 := hB1.size
  clear hB1
  go_loopw [10] (fun c wr => ∃ i : Nat, c = .int .i64 i ∧ i ≤ n ∧ XorAt wr w1.heap.size n f i ∧ Below w.heap.size w wr) (fun c _ => n - (intOf c).toNat)
  case atStart =>
    refine ⟨0, rfl, by omega, fun j hj => ⟨?_, World.frozen?_alloc_new _ _ _ _⟩, HB1.out.trans ((Below.refl _ _).alloc (by omega) _)⟩
    rw [World.cell?_alloc_new, hMc j hj, if_neg (by omega)]
  case round =>
    obtain ⟨i, rfl, hin, hX, hB⟩ := hrel
    have HX := Lib.hid hX
    have HB := Lib.hid hB
    clear hX hB
    by_cases hlt : i < n
    · have ca := (HX.out i hlt).1
      have cf := (HX.out i hlt).2
      have l1 : i < a.size := by omega
      have l2 : i < b.size := by omega
      have l3 : i < c.size := by omega
      have b1 := a[i].toNat_lt
      have b2 := b[i].toNat_lt
      have b3 := c[i].toNat_lt
      obtain ⟨u, hu⟩ : ∃ u, u = a[i].toNat ^^^ b[i].toNat := ⟨_, rfl⟩
      have hul : u < 256 := by rw [hu]; exact Nat.xor_lt_two_pow (n := 8) (by omega) (by omega)
      have x1 : bits .xor .u8 (a[i].toNat : Int) (b[i].toNat : Int) = (u : Int) := by rw [u8_xor_nat _ _ (by omega) (by omega), hu]
      obtain ⟨v, hv⟩ : ∃ v, v = u ^^^ c[i].toNat := ⟨_, rfl⟩
      have x2 : bits .xor .u8 (u : Int) (c[i].toNat : Int) = (v : Int) := by rw [u8_xor_nat _ _ hul (by omega), hv]
      have HV : Hid (v = f i) := Lib.hid (by rw [hv, hu, HF.out]; show _ = (a.data.toList.getD i 0).toNat ^^^ (b.data.toList.getD i 0).toNat ^^^ (c.data.toList.getD i 0).toNat; rw [byte_getD a i l1, byte_getD b i l2, byte_getD c i l3])
      clear hu hv
      go_wp2_with fail
      go_region
      all_goals go_wp2_with fail
      all_goals
        go_roundw
        case rel => exact ⟨i + 1, by go_num, by omega, xorAt_step HX.out (by rw [HV.out]), ((HB.out.setCell (p := ⟨w1.heap.size, i, none⟩) (by simp; omega) _)).drew⟩
        case measure => simp [intOf]; omega
    · obtain rfl : i = n := by omega
      have hcv := fun (q cap : Nat) => xorAt_text wr w1.heap.size i f q cap HX.out
      have hTT : TabAt wr := HT.out.below HB.out hg
      have hx1 : (xText i f).size ≤ maxLen := by unfold maxLen; rw [xText_size]; omega
      have hx2 : ∀ s : ByteArray, s.size ≤ 9223372036854775807 → (s.extract 0 i).size ≤ maxLen := fun s hs => by unfold maxLen; simp; omega
      have HFIN : Hid ((((Wm.crc (xText i f).data.toList : Nat) : Int) == bits .xor .i64 (bits .xor .i64 ((Wm.crc (List.take i a.data.toList) : Nat) : Int) ((Wm.crc (List.take i b.data.toList) : Nat) : Int)) ((Wm.crc (List.take i c.data.toList) : Nat) : Int)) = true) := Lib.hid (by
        rw [i64_xor_nat _ _ (Wm.crc_lt _) (Wm.crc_lt _), i64_xor_nat _ _ (xor_lt (Wm.crc_lt _) (Wm.crc_lt _)) (Wm.crc_lt _), xor_crc i f a b c hn2 hn3 hn4 HF.out]
        simp)
      have HX1 := Lib.hid hx1
      have HX2 := Lib.hid hx2
      have HTT := Lib.hid hTT
      clear hx1 hx2 hTT
      go_wp2_with fail
      go_quiet ((go_at_call 21; refine sum_q _ _ _ ?_ HTT.out; first | exact HX1.out | exact HX2.out _ ha | exact HX2.out _ hb | exact HX2.out _ hc))
      go_wp2_with fail
      go_ret
      refine ⟨congrArg (fun b => Ending.returned (.bool b)) HFIN.out, ?_⟩
      exact HB.out.trans (Below.of_drewN _ _ _)
end Go.Proofs.YteenhpfafomeiaaDoor
