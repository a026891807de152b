/- For all arguments the law WireUnique returns true and leaves what lay before the call as it was. Conditions: lengths and integers fit their types; the table wire.steps holds its sixteen numbers. -/
import Derived.Test.YteenhpfafomeiaaDoorWireTruncated
import Derived.RegionTactic
import Derived.ChangeAlike
import Derived.Laws.IdiomStrings
namespace Go.Proofs.YteenhpfafomeiaaDoor
open Go.RowKit

theorem int_two (T : ByteArray) (k : Nat) (hk : k ≤ T.size) :
    intV T.data.toList (k : Int) = .tuple #[.int .i64 0, .int .i64 0, .int .i64 10] ∨
    ∃ (n : Int) (q : Nat) (sa : ByteArray), intV T.data.toList (k : Int) = .tuple #[.int .i64 n, .int .i64 (q : Int), .int .i64 0] ∧ Wm.Fits n ∧ k ≤ q ∧ q ≤ T.size ∧ sa = ⟨(Wm.encI n).toArray⟩ ∧ ((T.extract k q).toList == sa.toList) = true := by
  have hml : T.data.toList.length = T.size := by simp
  have e1 : intV T.data.toList (k : Int) = match Wm.decI (T.data.toList.drop k) with
        | none => .tuple #[.int .i64 0, .int .i64 0, .int .i64 10]
        | some (n, j) => .tuple #[.int .i64 n, .int .i64 ((k : Int) + j), .int .i64 0] := by
      unfold intV; rw [if_neg (by omega)]; rfl
  rw [e1]
  cases hd : Wm.decI (T.data.toList.drop k) with
  | none => exact .inl rfl
  | some r =>
    obtain ⟨n, j⟩ := r
    obtain ⟨hf, ht, hj, hl⟩ := Wm.encI_decI hd
    rw [List.length_drop] at hl
    refine .inr ⟨n, k + j, _, by simp, hf, by omega, by omega, rfl, ?_⟩
    rw [cut_data, ht, toList_data]
    simp
theorem str_two (T : ByteArray) (k : Nat) (hk : k ≤ T.size) :
    strV T.data.toList (k : Int) = .tuple #[.string ByteArray.empty, .int .i64 0, .int .i64 10] ∨
    ∃ (u : ByteArray) (q : Nat) (st : ByteArray), strV T.data.toList (k : Int) = .tuple #[.string u, .int .i64 (q : Int), .int .i64 0] ∧ u.size ≤ maxLen ∧ k ≤ q ∧ q ≤ T.size ∧ putSV u = .tuple #[.string st, .int .i64 0] ∧ ((T.extract k q).toList == st.toList) = true := by
  have hml : T.data.toList.length = T.size := by simp
  have e1 : strV T.data.toList (k : Int) = match Wm.decS (T.data.toList.drop k) with
        | none => .tuple #[.string ByteArray.empty, .int .i64 0, .int .i64 10]
        | some (u, j) => .tuple #[.string ⟨u.toArray⟩, .int .i64 ((k : Int) + j), .int .i64 0] := by
      unfold strV; rw [if_neg (by omega)]; rfl
  rw [e1]
  cases hd : Wm.decS (T.data.toList.drop k) with
  | none => exact .inl rfl
  | some r =>
    obtain ⟨u, j⟩ := r
    obtain ⟨hf, ht, hj, hl⟩ := Wm.encS_decS hd
    rw [List.length_drop] at hl
    refine .inr ⟨⟨u.toArray⟩, k + j, ⟨(Wm.encS u).toArray⟩, by simp, by rw [mk_size]; unfold maxLen; omega, by omega, by omega, putSV_small _ (by rw [mk_size]; exact hf), ?_⟩
    rw [cut_data, ht, toList_data]
    simp

/-- The two offsets that are tried. -/
def KsAt (W : World) (B : Nat) (k1 : Nat) : Prop := W.cell? ⟨B, 0, none⟩ = some (.int .i64 0) ∧ W.cell? ⟨B, 1, none⟩ = some (.int .i64 (k1 : Int))
theorem KsAt.below {W W' : World} {B k1 : Nat} (h : KsAt W B k1) (hb : Below W.heap.size W W') : KsAt W' B k1 :=
  ⟨(hb.cell (World.block_lt_of_cell? (h := h.1))).trans h.1, (hb.cell (World.block_lt_of_cell? (h := h.2))).trans h.2⟩
theorem KsAt.get {W : World} {B k1 i n : Nat} (h : KsAt W B k1) (hi : i < 2) (hk : k1 ≤ n) : ∃ ks : Nat, W.cell? ⟨B, i, none⟩ = some (.int .i64 (ks : Int)) ∧ ks ≤ n := by
  obtain rfl | rfl : i = 0 ∨ i = 1 := by omega
  · exact ⟨0, h.1, by omega⟩
  · exact ⟨k1, h.2, hk⟩

set_option maxRecDepth 100000 in
set_option maxHeartbeats 4000000 in
theorem unique_any (s : ByteArray) (p : Int) (first : Int) (w : World) (hs : s.size ≤ maxLen) (p1 : -9223372036854775808 ≤ p) (p2 : p ≤ 9223372036854775807) (_q1 : 0 ≤ first) (_q2 : first ≤ 255)
    (hT : TabAt w) (hg : 0 < w.heap.size) :
    Calls Tryd.prog 5 #[.string s, .int .i64 p, .int .u8 first] w fun e w' => e = .returned (.bool true) ∧ Below w.heap.size w w' := by
  unfold maxLen at hs
  have HT := Lib.hid hT
  clear hT
  obtain ⟨m, hm⟩ : ∃ m : Nat, m = min s.size 300 := ⟨_, rfl⟩
  have hm1 : m ≤ 300 := by omega
  have hm2 : m ≤ s.size := by omega
  have hmin : ∀ (ts : Array TypeId) (t : TypeId) (W : World), (Builtin.min_ ts t #[.int .i64 (s.size : Int), .int .i64 300]).run Tryd.prog W = .ok (.int .i64 (m : Int)) W := by
    intro ts t W
    rw [run_min2, hm]
    congr 2
    split <;> omega
  clear hm
  have hcv : ∀ (W : World) (b : Nat), W.cell? ⟨b, 0, none⟩ = some (.int .u8 first) → (convert 38 9 (.slice (some ⟨b, 0, none⟩) 1 1)).run Tryd.prog W = .ok (.string ⟨#[UInt8.ofNat first.toNat]⟩) W := fun W b hc =>
    run_convert_bytes_arg (P := Tryd.prog) W 38 5 Tryd.underlying38 Tryd.underlying5 b 0 1 1 [first] rfl (fun i hi => by
      obtain rfl : i = 0 := by omega
      simpa using hc) 9 Tryd.underlying9
  obtain ⟨k1, hk1⟩ : ∃ k : Nat, pickI p (1 + (m : Int) + 1) = k := ⟨(pickI p (1 + (m : Int) + 1)).toNat, by have := pickI_lt p (1 + (m : Int) + 1) (by omega); omega⟩
  have hk1l : k1 ≤ 1 + m := by have := pickI_lt p (1 + (m : Int) + 1) (by omega); omega
  have HK1 := Lib.hid hk1
  clear hk1
  have hTs : (({ data := #[UInt8.ofNat first.toNat] } : ByteArray) ++ s.extract 0 m).size = 1 + m := by
    rw [ByteArray.size_append, show (({ data := #[UInt8.ofNat first.toNat] } : ByteArray)).size = 1 from rfl]; simp; omega
  go_enter Tryd.func5, Tryd.ntmps5
  go_wp2_with fail
  refine (sane_any _ HT.out hg).mono ?_; rintro e w1 ⟨rfl, B1⟩
  go_wp2_with fail
  go_region
  go_wp2_with fail
  refine (pick_eq _ _ _ _ HK1.out p1 p2 (by omega) (by omega)).mono ?_; rintro e w' ⟨rfl, rfl⟩
  go_wp2_with fail
  generalize ({ data := #[UInt8.ofNat first.toNat] } : ByteArray) ++ s.extract 0 m = T at hTs ⊢
  have hsz1 := B1.size
  go_loopw [38] (fun c wr => ∃ i : Nat, c = .int .i64 i ∧ i ≤ 2 ∧ KsAt wr (w1.heap.size + 1) k1 ∧ Below w.heap.size w wr) (fun c _ => 2 - (intOf c).toNat)
  case atStart =>
    refine ⟨0, rfl, by omega, ?_, B1.trans ((((Below.refl _ w1).alloc (by omega) _).alloc (by simp; omega) _).drew)⟩
    constructor
    · go_simp
    · go_simp
  case round =>
    obtain ⟨i, rfl, hi, hK, hB⟩ := hrel
    have HK := Lib.hid hK
    have HB := Lib.hid hB
    clear hK hB
    by_cases hlt : i < 2
    · obtain ⟨ks, hcell, hks⟩ := HK.out.get hlt (by omega : k1 ≤ T.size)
      have hTm : T.size ≤ maxLen := by unfold maxLen; omega
      have HTM := Lib.hid hTm
      have hfits0 : Wm.Fits 0 := ⟨by decide, by decide⟩
      clear hTm
      rcases int_two T ks hks with h1 | ⟨n, q, sa, h1, hf, hq1, hq2, hsa, he⟩
      all_goals rcases str_two T ks hks with h2 | ⟨u, q', st, h2, hu, hq1', hq2', hst, he'⟩
      all_goals
        have H1 := Lib.hid h1
        have H2 := Lib.hid h2
        clear h1 h2
        try have HSA := Lib.hid hsa
        try have HST := Lib.hid hst
        try have HU := Lib.hid hu
        try clear hsa
        try clear hst hu
        go_wp2_with fail
        refine (int_as _ _ _ _ HTM.out H1.out).mono ?_; rintro e w' ⟨rfl, rfl⟩
        go_wp2_with fail
        first
          | (refine (putInt_b _ _ _ HSA.out hf).mono ?_; rintro e w2 ⟨rfl, B2⟩)
          | (refine (putInt_as 0 #[0] _ (by decide) hfits0).mono ?_; rintro e w2 ⟨rfl, B2⟩)
        go_wp2_with fail
        refine (string_as _ _ _ _ HTM.out H2.out).mono ?_; rintro e w3 ⟨rfl, B3⟩
        go_wp2_with fail
        first
          | (refine (putString_as _ _ _ HU.out HST.out).mono ?_; rintro e w4 ⟨rfl, B4⟩)
          | (refine (putString_as _ (.tuple #[.string ⟨#[0]⟩, .int .i64 0]) _ (by decide) (by rfl)).mono ?_; rintro e w4 ⟨rfl, B4⟩)
        go_wp2_with fail
        go_roundw
        case rel => exact ⟨i + 1, by go_num, by omega, HK.out.below (bthen (bthen B2 B3) B4), HB.out.trans ((bthen (bthen B2 B3) B4).mono HB.out.size)⟩
        case measure => simp [intOf]; omega
    · go_wp2_with fail
      go_ret
      exact ⟨rfl, HB.out⟩
end Go.Proofs.YteenhpfafomeiaaDoor
