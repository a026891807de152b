/- Clone, PutString and String, and the reference's PutString and String, return what the plain definitions say. Conditions: the string's length fits an int; for Clone at most 2^48 bytes. -/
import Derived.Test.YteenhpfafomeiaaDoorWireK
import Derived.Test.YteenhpfafomeiaaDoorWireG
import Derived.Lib.BufferWrite
import Derived.Lib.UnsafeStr
import Derived.Laws.MakeOwn
namespace Go.Proofs.YteenhpfafomeiaaDoor
open Go.RowKit

set_option maxHeartbeats 4000000 in
set_option maxRecDepth 100000 in
/-- A copy of a string is the string. -/
theorem clone0_any (s : ByteArray) (w : World) (hlim : s.size ≤ 281474976710656) :
    Calls Tryd.prog 30 #[.string s] w fun e w' => e = .returned (.string s) ∧ Below w.heap.size w w' := by
  by_cases h0 : s.size = 0
  · obtain rfl : s = ⟨#[]⟩ := ByteArray.ext (Array.eq_empty_of_size_eq_zero h0)
    go_enter Tryd.func30, Tryd.ntmps30
    go_wp2
    go_ret
    exact ⟨rfl, Below.refl _ _⟩
  · obtain ⟨i0, hi, hz0, hz1, hz2⟩ := info_parts infoU8
    have hinfo : (Tryd.prog.info? 5).map (·.size) = some 1 := by rw [hi]; simp [hz1]
    have hco : Tryd.prog.cellsOf 5 = 1 := by simp [Program.cellsOf, hi, hz1]
    obtain ⟨M, hM⟩ : ∃ M, M = madeCells (Value.int .u8 0).cells (((s.size : Nat) : Int).toNat * i0.size) := ⟨_, rfl⟩
    have hMs : M.size = s.size := by rw [hM, size_madeCells, hz1]; simp
    have hmk : ∀ W : World, (Instr.makeSlice 38 (.int .i64 (s.size : Int)) (.int .i64 (s.size : Int))).run Tryd.prog W = .ok (.slice (some ⟨W.heap.size, 0, none⟩) s.size s.size) (W.alloc (.cells M 5)) := fun W => by
      have h := run_make (P := Tryd.prog) W 38 5 i0 (.int .u8 0) Tryd.underlying38 hi hz0 .i64 .i64 (s.size : Int) (s.size : Int) (by omega) (by omega) (by rw [hz2]; omega) (by omega)
      rw [← hM] at h
      simpa using h
    clear hM
    have hcp := Lib.run_copy_row_string (P := Tryd.prog) (w.alloc (.cells M 5)) 38 9 3 5 w.heap.size 0 s.size s.size s M 5 Tryd.underlying38 hinfo (heap_alloc_new w _) (Nat.le_refl _) (by omega)
    obtain ⟨Y, hY⟩ : ∃ Y, Y = (M.toList.take 0 ++ Lib.byteCells s.data.toList ++ M.toList.drop (0 + s.size)).toArray := ⟨_, rfl⟩
    rw [← hY] at hcp
    have hYl : Y.toList = Lib.byteCells s.data.toList := by
      rw [hY, List.toList_toArray, List.take_zero, List.nil_append, List.drop_of_length_le (by rw [Array.length_toList]; omega), List.append_nil]
    have hYs : Y.size = s.size := by rw [← Array.length_toList, hYl, Lib.byteCells_length, ← Lib.size_eq]
    have hgY : ((w.alloc (.cells M 5)).setRow w.heap.size Y).heap[w.heap.size]? = some (.cells Y 5 (0, 0)) := setRow_heap _ _ M _ 5 (0, 0) (heap_alloc_new w _)
    have hne : s.data.toList ≠ [] := fun e => h0 (by rw [Lib.size_eq, e]; rfl)
    have hUS := Lib.run_unsafeString_row (P := Tryd.prog) ((w.alloc (.cells M 5)).setRow w.heap.size Y) 59 3 9 5 Tryd.underlying59 hco w.heap.size Y.size (by unfold World.shape?; rw [hgY]) s.data.toList hne (by rw [← Lib.size_eq]; omega) (by rw [← Lib.size_eq]; omega)
      (fun j x hx => Lib.cells_of_row hgY Y.size j _ (by rw [List.take_of_length_le (by rw [Array.length_toList]; exact Nat.le_refl _), hYl]; simp [Lib.byteCells, hx]))
    rw [← Lib.size_eq] at hUS
    clear hY
    go_enter Tryd.func30, Tryd.ntmps30
    go_wp2
    go_ret
    have hb1 : Below w.heap.size w (w.alloc (.cells M 5)) := (Below.refl _ w).alloc (Nat.le_refl _) _
    have hb2 : Below w.heap.size (w.alloc (.cells M 5)) ((w.alloc (.cells M 5)).setRow w.heap.size Y) := ⟨rfl, rfl, rfl, by simp, fun k hk => setRow_other _ _ _ _ (by omega)⟩
    exact ⟨rfl, Lib.below_freeze (hb1.trans hb2) (p := ⟨w.heap.size, 0, none⟩) (Nat.le_refl _) _⟩

set_option maxHeartbeats 400000 in
theorem clone_any (s : ByteArray) (w : World) (hlim : s.size ≤ 281474976710656) :
    Calls Tryd.prog 28 #[.string s] w fun e w' => e = .returned (.string s) ∧ Below w.heap.size w w' := by
  go_enter Tryd.func28, Tryd.ntmps28
  go_wp2_with fail
  refine (clone0_any _ _ hlim).mono ?_; rintro e w' ⟨rfl, hB⟩
  go_wp2_with fail
  go_ret
  exact ⟨rfl, hB⟩

/-- What PutString returns. -/
def putSV (s : ByteArray) : Value := if s.size ≤ 65536 then .tuple #[.string ⟨(Wm.encS s.data.toList).toArray⟩, .int .i64 0] else .tuple #[.string ByteArray.empty, .int .i64 10]
theorem add_data (l : List UInt8) (s : ByteArray) : (⟨l.toArray⟩ : ByteArray) ++ s = ⟨(l ++ s.data.toList).toArray⟩ := by
  apply ByteArray.ext
  simp

set_option maxHeartbeats 1000000 in
theorem putString_any (s : ByteArray) (w : World) (hs : s.size ≤ maxLen) :
    Calls Tryd.prog 19 #[.string s] w fun e w' => e = .returned (putSV s) ∧ Below w.heap.size w w' := by
  unfold maxLen at hs
  by_cases h : (65536 : Int) < s.size
  · have HV : Hid (putSV s = .tuple #[.string ByteArray.empty, .int .i64 10]) := Lib.hid (by unfold putSV; rw [if_neg (by omega)])
    go_enter Tryd.func19, Tryd.ntmps19
    go_wp2_with fail
    go_ret2
    exact ⟨by rw [HV.out]; rfl, Below.refl _ _⟩
  · have HV : Hid (putSV s = .tuple #[.string (⟨(Wm.encI (s.size : Int)).toArray⟩ ++ s), .int .i64 0]) := Lib.hid (by unfold putSV; rw [if_pos (by omega), add_data]; unfold Wm.encS; simp)
    have hfit : Wm.Fits (s.size : Int) := ⟨by omega, by omega⟩
    have hel : (Wm.encI (s.size : Int)).length ≤ 9 := Wm.encI_le _
    go_enter Tryd.func19, Tryd.ntmps19
    go_wp2_with fail
    refine (putInt_ok _ _ hfit).mono ?_; rintro e w' ⟨rfl, hB⟩
    go_wp2_with fail
    go_ret2
    exact ⟨by rw [HV.out]; rfl, hB⟩

set_option maxHeartbeats 1000000 in
theorem rPutString_any (s : ByteArray) (w : World) (hs : s.size ≤ maxLen) :
    Calls Tryd.prog 20 #[.string s] w fun e w' => e = .returned (putSV s) ∧ Below w.heap.size w w' := by
  unfold maxLen at hs
  by_cases h : (65536 : Int) < s.size
  · have HV : Hid (putSV s = .tuple #[.string ByteArray.empty, .int .i64 10]) := Lib.hid (by unfold putSV; rw [if_neg (by omega)])
    go_enter Tryd.func20, Tryd.ntmps20
    go_wp2_with fail
    go_ret2
    exact ⟨by rw [HV.out]; rfl, Below.refl _ _⟩
  · have HV : Hid (putSV s = .tuple #[.string (⟨(Wm.encI (s.size : Int)).toArray⟩ ++ s), .int .i64 0]) := Lib.hid (by unfold putSV; rw [if_pos (by omega), add_data]; unfold Wm.encS; simp)
    have hfit : Wm.Fits (s.size : Int) := ⟨by omega, by omega⟩
    have hel : (Wm.encI (s.size : Int)).length ≤ 9 := Wm.encI_le _
    go_enter Tryd.func20, Tryd.ntmps20
    go_wp2_with fail
    refine (rPutInt_ok _ _ hfit).mono ?_; rintro e w' ⟨rfl, hB⟩
    go_wp2_with fail
    go_ret2
    exact ⟨by rw [HV.out]; rfl, hB⟩

/-- What String returns. -/
def strV (l : List UInt8) (p : Int) : Value :=
  if p < 0 ∨ (l.length : Int) < p then .tuple #[.string ByteArray.empty, .int .i64 0, .int .i64 2] else
  match Wm.decS (l.drop p.toNat) with
  | none => .tuple #[.string ByteArray.empty, .int .i64 0, .int .i64 10]
  | some (u, k) => .tuple #[.string ⟨u.toArray⟩, .int .i64 (p + k), .int .i64 0]

theorem int_as (s : ByteArray) (p : Int) (V : Value) (w : World) (hs : s.size ≤ maxLen) (h : intV s.data.toList p = V) :
    Calls Tryd.prog 15 #[.string s, .int .i64 p] w fun e w' => e = .returned V ∧ w = w' := by
  subst h; exact int_any s p w hs
theorem rInt_as (s : ByteArray) (p : Int) (V : Value) (w : World) (hs : s.size ≤ maxLen) (h : intV s.data.toList p = V) :
    Calls Tryd.prog 16 #[.string s, .int .i64 p] w fun e w' => e = .returned V ∧ Below w.heap.size w w' := by
  subst h; exact rInt_any s p w hs

/-- The ways of String: what Int says, and what String says then. -/
theorem str_ways (s : ByteArray) (p : Int) :
    (∃ c : Int, (c = 2 ∨ c = 10) ∧ intV s.data.toList p = .tuple #[.int .i64 0, .int .i64 0, .int .i64 c] ∧ strV s.data.toList p = .tuple #[.string ByteArray.empty, .int .i64 0, .int .i64 c]) ∨
    (∃ (n : Int) (q : Nat), intV s.data.toList p = .tuple #[.int .i64 n, .int .i64 (q : Int), .int .i64 0] ∧ q ≤ s.size ∧ -4611686018427387903 ≤ n ∧ n ≤ 4611686018427387903 ∧
      (n < 0 ∨ 65536 < n ∨ (s.size : Int) - q < n) ∧ strV s.data.toList p = .tuple #[.string ByteArray.empty, .int .i64 0, .int .i64 10]) ∨
    (∃ (n q : Nat), intV s.data.toList p = .tuple #[.int .i64 (n : Int), .int .i64 (q : Int), .int .i64 0] ∧ q + n ≤ s.size ∧ n ≤ 65536 ∧
      strV s.data.toList p = .tuple #[.string (s.extract q (q + n)), .int .i64 ((q : Int) + n), .int .i64 0]) := by
  have hml : s.data.toList.length = s.size := by simp
  by_cases hp : p < 0 ∨ (s.data.toList.length : Int) < p
  · refine .inl ⟨2, .inl rfl, ?_, ?_⟩
    · unfold intV; rw [if_pos hp]
    · unfold strV; rw [if_pos hp]
  · obtain ⟨a, rfl⟩ := Int.eq_ofNat_of_zero_le (by omega : 0 ≤ p)
    have e1 : intV s.data.toList (a : Int) = match Wm.decI (s.data.toList.drop a) with
          | none => .tuple #[.int .i64 0, .int .i64 0, .int .i64 10]
          | some (n, k) => .tuple #[.int .i64 n, .int .i64 ((a : Int) + k), .int .i64 0] := by
        unfold intV; rw [if_neg hp]; rfl
    have e2 : strV s.data.toList (a : Int) = match Wm.decS (s.data.toList.drop a) with
          | none => .tuple #[.string ByteArray.empty, .int .i64 0, .int .i64 10]
          | some (u, k) => .tuple #[.string ⟨u.toArray⟩, .int .i64 ((a : Int) + k), .int .i64 0] := by
        unfold strV; rw [if_neg hp]; rfl
    rw [e1, e2]
    cases hd : Wm.decI (s.data.toList.drop a) with
    | none =>
      refine .inl ⟨10, .inr rfl, rfl, ?_⟩
      unfold Wm.decS; rw [hd]
    | some r =>
      obtain ⟨n, k⟩ := r
      obtain ⟨hf, ht, hk, hl⟩ := Wm.encI_decI hd
      rw [List.length_drop] at hl
      have hdl : ((s.data.toList.drop a).length : Int) = (s.size : Int) - a := by rw [List.length_drop]; omega
      have hds : Wm.decS (s.data.toList.drop a) = if n < 0 ∨ 65536 < n ∨ ((s.data.toList.drop a).length : Int) - k < n then none else some (((s.data.toList.drop a).drop k).take n.toNat, k + n.toNat) := by
        unfold Wm.decS; rw [hd]
      rw [hdl] at hds
      by_cases hn : n < 0 ∨ 65536 < n ∨ (s.size : Int) - a - k < n
      · refine .inr (.inl ⟨n, a + k, by simp, by omega, hf.1, hf.2, by omega, ?_⟩)
        rw [hds, if_pos hn]
      · obtain ⟨m, rfl⟩ := Int.eq_ofNat_of_zero_le (by omega : 0 ≤ n)
        refine .inr (.inr ⟨m, a + k, by simp, by omega, by omega, ?_⟩)
        rw [hds, if_neg hn]
        have ee : (⟨(((s.data.toList.drop a).drop k).take (m : Int).toNat).toArray⟩ : ByteArray) = s.extract (a + k) (a + k + m) := by
          apply ByteArray.ext
          apply Array.toList_inj.1
          rw [Lib.extract_data, List.drop_drop]
          simp
        show Value.tuple #[.string ⟨(((s.data.toList.drop a).drop k).take (m : Int).toNat).toArray⟩, .int .i64 ((a : Int) + ((k + (m : Int).toNat : Nat) : Int)), .int .i64 0] = _
        rw [ee]
        simp [Int.add_assoc]

set_option maxRecDepth 100000 in
set_option maxHeartbeats 2000000 in
theorem string_any (s : ByteArray) (p : Int) (w : World) (hs : s.size ≤ maxLen) :
    Calls Tryd.prog 17 #[.string s, .int .i64 p] w fun e w' => e = .returned (strV s.data.toList p) ∧ Below w.heap.size w w' := by
  rcases str_ways s p with ⟨c, hc, h1, h2⟩ | ⟨n, q, h1, hq, hn1, hn2, hn, h2⟩ | ⟨n, q, h1, hq, hn, h2⟩
  · rcases hc with rfl | rfl
    all_goals
      have H1 := Lib.hid h1
      have H2 := Lib.hid h2
      clear h1 h2
      go_enter Tryd.func17, Tryd.ntmps17
      go_wp2_with fail
      refine (int_as _ _ _ _ hs H1.out).mono ?_; rintro e w' ⟨rfl, rfl⟩
      go_wp2_with fail
      go_ret3
      exact ⟨by rw [H2.out]; rfl, Below.refl _ _⟩
  · have H1 := Lib.hid h1
    have H2 := Lib.hid h2
    have HS := Lib.hid hs
    unfold maxLen at hs
    clear h1 h2
    by_cases n1 : n < 0
    · go_enter Tryd.func17, Tryd.ntmps17
      go_wp2_with fail
      refine (int_as _ _ _ _ HS.out H1.out).mono ?_; rintro e w' ⟨rfl, rfl⟩
      go_wp2_with fail
      go_ret3
      exact ⟨by rw [H2.out]; rfl, Below.refl _ _⟩
    · by_cases n2 : 65536 < n
      · go_enter Tryd.func17, Tryd.ntmps17
        go_wp2_with fail
        refine (int_as _ _ _ _ HS.out H1.out).mono ?_; rintro e w' ⟨rfl, rfl⟩
        go_wp2_with fail
        go_ret3
        exact ⟨by rw [H2.out]; rfl, Below.refl _ _⟩
      · have n3 : (s.size : Int) - q < n := by omega
        clear hn
        go_enter Tryd.func17, Tryd.ntmps17
        go_wp2_with fail
        refine (int_as _ _ _ _ HS.out H1.out).mono ?_; rintro e w' ⟨rfl, rfl⟩
        go_wp2_with fail
        go_ret3
        exact ⟨by rw [H2.out]; rfl, Below.refl _ _⟩
  · have H1 := Lib.hid h1
    have H2 := Lib.hid h2
    have HS := Lib.hid hs
    unfold maxLen at hs
    clear h1 h2
    go_enter Tryd.func17, Tryd.ntmps17
    go_wp2_with fail
    refine (int_as _ _ _ _ HS.out H1.out).mono ?_; rintro e w' ⟨rfl, rfl⟩
    go_wp2_with fail
    refine (clone_any _ _ (by simp; omega)).mono ?_; rintro e w' ⟨rfl, hB⟩
    go_wp2_with fail
    go_ret3
    exact ⟨by rw [H2.out]; rfl, hB⟩

set_option maxRecDepth 100000 in
set_option maxHeartbeats 2000000 in
theorem rString_any (s : ByteArray) (p : Int) (w : World) (hs : s.size ≤ maxLen) :
    Calls Tryd.prog 18 #[.string s, .int .i64 p] w fun e w' => e = .returned (strV s.data.toList p) ∧ Below w.heap.size w w' := by
  rcases str_ways s p with ⟨c, hc, h1, h2⟩ | ⟨n, q, h1, hq, hn1, hn2, hn, h2⟩ | ⟨n, q, h1, hq, hn, h2⟩
  · rcases hc with rfl | rfl
    all_goals
      have H1 := Lib.hid h1
      have H2 := Lib.hid h2
      clear h1 h2
      go_enter Tryd.func18, Tryd.ntmps18
      go_wp2_with fail
      refine (rInt_as _ _ _ _ hs H1.out).mono ?_; rintro e w' ⟨rfl, hB⟩
      go_wp2_with fail
      go_ret3
      exact ⟨by rw [H2.out]; rfl, hB⟩
  · have H1 := Lib.hid h1
    have H2 := Lib.hid h2
    have HS := Lib.hid hs
    unfold maxLen at hs
    clear h1 h2
    by_cases n1 : n < 0
    · go_enter Tryd.func18, Tryd.ntmps18
      go_wp2_with fail
      refine (rInt_as _ _ _ _ HS.out H1.out).mono ?_; rintro e w' ⟨rfl, hB⟩
      go_wp2_with fail
      go_ret3
      exact ⟨by rw [H2.out]; rfl, hB⟩
    · by_cases n2 : 65536 < n
      · go_enter Tryd.func18, Tryd.ntmps18
        go_wp2_with fail
        refine (rInt_as _ _ _ _ HS.out H1.out).mono ?_; rintro e w' ⟨rfl, hB⟩
        go_wp2_with fail
        go_ret3
        exact ⟨by rw [H2.out]; rfl, hB⟩
      · have n3 : (s.size : Int) - q < n := by omega
        clear hn
        go_enter Tryd.func18, Tryd.ntmps18
        go_wp2_with fail
        refine (rInt_as _ _ _ _ HS.out H1.out).mono ?_; rintro e w' ⟨rfl, hB⟩
        go_wp2_with fail
        go_ret3
        exact ⟨by rw [H2.out]; rfl, hB⟩
  · have H1 := Lib.hid h1
    have H2 := Lib.hid h2
    have HS := Lib.hid hs
    unfold maxLen at hs
    clear h1 h2
    go_enter Tryd.func18, Tryd.ntmps18
    go_wp2_with fail
    refine (rInt_as _ _ _ _ HS.out H1.out).mono ?_; rintro e w' ⟨rfl, hB⟩
    go_wp2_with fail
    go_ret3
    exact ⟨by rw [H2.out]; rfl, hB⟩
end Go.Proofs.YteenhpfafomeiaaDoor
