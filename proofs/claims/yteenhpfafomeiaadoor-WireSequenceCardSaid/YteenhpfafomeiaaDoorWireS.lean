/- Clone, PutString and String, and the reference's PutString and String, return what the plain definitions say. Conditions: the string's length fits an int; for Clone at most 2^48 bytes. -/
import Derived.Test.YteenhpfafomeiaaDoorWireK
import Derived.Test.YteenhpfafomeiaaDoorWireG
import Derived.Shelf.Pu.Clone
namespace Go.Proofs.YteenhpfafomeiaaDoor
open Go.RowKit

/-- Where the library's Clone lies in this program. -/
def cloneRen : Go.Shelf.Ren := { f := fun x => if x = 25 then 30 else x, t := fun x => if x = 0 then 0 else if x = 3 then 3 else if x = 4 then 4 else if x = 5 then 5 else if x = 9 then 9 else if x = 37 then 38 else if x = 47 then 59 else x, g := fun x => x }
theorem cloneLays : LaysPu.n25 Tryd.prog cloneRen where
  mixed := by kernel_rfl
  f25 := by kernel_rfl
  t0 := by kernel_rfl
  a0 := fun w => by kernel_rfl
  z0 := fun w => by kernel_rfl
  v0 := fun w => by kernel_rfl
  i0 := by kernel_rfl
  t3 := by kernel_rfl
  a3 := fun w => by kernel_rfl
  z3 := fun w => by kernel_rfl
  v3 := fun w => by kernel_rfl
  i3 := by kernel_rfl
  t4 := by kernel_rfl
  a4 := fun w => by kernel_rfl
  z4 := fun w => by kernel_rfl
  v4 := fun w => by kernel_rfl
  i4 := by kernel_rfl
  t5 := by kernel_rfl
  a5 := fun w => by kernel_rfl
  z5 := fun w => by kernel_rfl
  v5 := fun w => by kernel_rfl
  i5 := by kernel_rfl
  t9 := by kernel_rfl
  a9 := fun w => by kernel_rfl
  z9 := fun w => by kernel_rfl
  v9 := fun w => by kernel_rfl
  i9 := by kernel_rfl
  t37 := by kernel_rfl
  a37 := fun w => by kernel_rfl
  z37 := fun w => by kernel_rfl
  v37 := fun w => by kernel_rfl
  i37 := by kernel_rfl
  t47 := by kernel_rfl
  a47 := fun w => by kernel_rfl
  z47 := fun w => by kernel_rfl
  v47 := fun w => by kernel_rfl
  i47 := by kernel_rfl

/-- A copy of a string is the string. -/
theorem clone0_any (s : ByteArray) (w : World) (hlim : s.size ≤ 281474976710656) :
    Calls Tryd.prog 30 #[.string s] w fun e w' => e = .returned (.string s) ∧ Below w.heap.size w w' :=
  AnyPu.stringslite_Clone cloneLays s w hlim

set_option maxHeartbeats 400000 in
theorem clone_any (s : ByteArray) (w : World) (hlim : s.size ≤ 281474976710656) :
    Calls Tryd.prog 28 #[.string s] w fun e w' => e = .returned (.string s) ∧ Below w.heap.size w w' := by
  go_enter Tryd.func28, Tryd.ntmps28
  go_wp2_with fail
  refine (clone0_any _ _ hlim).mono ?_; rintro e w' ⟨rfl, hB⟩
  go_wp2_with fail
  go_ret
  exact ⟨rfl, hB⟩

/-- What PutString returns. -/
def putSV (s : ByteArray) : Value := if s.size ≤ 65536 then .tuple #[.string ⟨(Wm.encS s.data.toList).toArray⟩, .int .i64 0] else .tuple #[.string ByteArray.empty, .int .i64 10]
theorem add_data (l : List UInt8) (s : ByteArray) : (⟨l.toArray⟩ : ByteArray) ++ s = ⟨(l ++ s.data.toList).toArray⟩ := by
  apply ByteArray.ext
  simp

set_option maxHeartbeats 1000000 in
theorem putString_any (s : ByteArray) (w : World) (hs : s.size ≤ maxLen) :
    Calls Tryd.prog 19 #[.string s] w fun e w' => e = .returned (putSV s) ∧ Below w.heap.size w w' := by
  unfold maxLen at hs
  by_cases h : (65536 : Int) < s.size
  · have HV : Hid (putSV s = .tuple #[.string ByteArray.empty, .int .i64 10]) := Lib.hid (by unfold putSV; rw [if_neg (by omega)])
    go_enter Tryd.func19, Tryd.ntmps19
    go_wp2_with fail
    go_ret2
    exact ⟨by rw [HV.out]; rfl, Below.refl _ _⟩
  · have HV : Hid (putSV s = .tuple #[.string (⟨(Wm.encI (s.size : Int)).toArray⟩ ++ s), .int .i64 0]) := Lib.hid (by unfold putSV; rw [if_pos (by omega), add_data]; unfold Wm.encS; simp)
    have hfit : Wm.Fits (s.size : Int) := ⟨by omega, by omega⟩
    have hel : (Wm.encI (s.size : Int)).length ≤ 9 := Wm.encI_le _
    go_enter Tryd.func19, Tryd.ntmps19
    go_wp2_with fail
    refine (putInt_ok _ _ hfit).mono ?_; rintro e w' ⟨rfl, hB⟩
    go_wp2_with fail
    go_ret2
    exact ⟨by rw [HV.out]; rfl, hB⟩

set_option maxHeartbeats 1000000 in
theorem rPutString_any (s : ByteArray) (w : World) (hs : s.size ≤ maxLen) :
    Calls Tryd.prog 20 #[.string s] w fun e w' => e = .returned (putSV s) ∧ Below w.heap.size w w' := by
  unfold maxLen at hs
  by_cases h : (65536 : Int) < s.size
  · have HV : Hid (putSV s = .tuple #[.string ByteArray.empty, .int .i64 10]) := Lib.hid (by unfold putSV; rw [if_neg (by omega)])
    go_enter Tryd.func20, Tryd.ntmps20
    go_wp2_with fail
    go_ret2
    exact ⟨by rw [HV.out]; rfl, Below.refl _ _⟩
  · have HV : Hid (putSV s = .tuple #[.string (⟨(Wm.encI (s.size : Int)).toArray⟩ ++ s), .int .i64 0]) := Lib.hid (by unfold putSV; rw [if_pos (by omega), add_data]; unfold Wm.encS; simp)
    have hfit : Wm.Fits (s.size : Int) := ⟨by omega, by omega⟩
    have hel : (Wm.encI (s.size : Int)).length ≤ 9 := Wm.encI_le _
    go_enter Tryd.func20, Tryd.ntmps20
    go_wp2_with fail
    refine (rPutInt_ok _ _ hfit).mono ?_; rintro e w' ⟨rfl, hB⟩
    go_wp2_with fail
    go_ret2
    exact ⟨by rw [HV.out]; rfl, hB⟩

/-- What String returns. -/
def strV (l : List UInt8) (p : Int) : Value :=
  if p < 0 ∨ (l.length : Int) < p then .tuple #[.string ByteArray.empty, .int .i64 0, .int .i64 2] else
  match Wm.decS (l.drop p.toNat) with
  | none => .tuple #[.string ByteArray.empty, .int .i64 0, .int .i64 10]
  | some (u, k) => .tuple #[.string ⟨u.toArray⟩, .int .i64 (p + k), .int .i64 0]

theorem int_as (s : ByteArray) (p : Int) (V : Value) (w : World) (hs : s.size ≤ maxLen) (h : intV s.data.toList p = V) :
    Calls Tryd.prog 15 #[.string s, .int .i64 p] w fun e w' => e = .returned V ∧ w = w' := by
  subst h; exact int_any s p w hs
theorem rInt_as (s : ByteArray) (p : Int) (V : Value) (w : World) (hs : s.size ≤ maxLen) (h : intV s.data.toList p = V) :
    Calls Tryd.prog 16 #[.string s, .int .i64 p] w fun e w' => e = .returned V ∧ Below w.heap.size w w' := by
  subst h; exact rInt_any s p w hs

/-- The ways of String: what Int says, and what String says then. -/
theorem str_ways (s : ByteArray) (p : Int) :
    (∃ c : Int, (c = 2 ∨ c = 10) ∧ intV s.data.toList p = .tuple #[.int .i64 0, .int .i64 0, .int .i64 c] ∧ strV s.data.toList p = .tuple #[.string ByteArray.empty, .int .i64 0, .int .i64 c]) ∨
    (∃ (n : Int) (q : Nat), intV s.data.toList p = .tuple #[.int .i64 n, .int .i64 (q : Int), .int .i64 0] ∧ q ≤ s.size ∧ -4611686018427387903 ≤ n ∧ n ≤ 4611686018427387903 ∧
      (n < 0 ∨ 65536 < n ∨ (s.size : Int) - q < n) ∧ strV s.data.toList p = .tuple #[.string ByteArray.empty, .int .i64 0, .int .i64 10]) ∨
    (∃ (n q : Nat), intV s.data.toList p = .tuple #[.int .i64 (n : Int), .int .i64 (q : Int), .int .i64 0] ∧ q + n ≤ s.size ∧ n ≤ 65536 ∧
      strV s.data.toList p = .tuple #[.string (s.extract q (q + n)), .int .i64 ((q : Int) + n), .int .i64 0]) := by
  have hml : s.data.toList.length = s.size := by simp
  by_cases hp : p < 0 ∨ (s.data.toList.length : Int) < p
  · refine .inl ⟨2, .inl rfl, ?_, ?_⟩
    · unfold intV; rw [if_pos hp]
    · unfold strV; rw [if_pos hp]
  · obtain ⟨a, rfl⟩ := Int.eq_ofNat_of_zero_le (by omega : 0 ≤ p)
    have e1 : intV s.data.toList (a : Int) = match Wm.decI (s.data.toList.drop a) with
          | none => .tuple #[.int .i64 0, .int .i64 0, .int .i64 10]
          | some (n, k) => .tuple #[.int .i64 n, .int .i64 ((a : Int) + k), .int .i64 0] := by
        unfold intV; rw [if_neg hp]; rfl
    have e2 : strV s.data.toList (a : Int) = match Wm.decS (s.data.toList.drop a) with
          | none => .tuple #[.string ByteArray.empty, .int .i64 0, .int .i64 10]
          | some (u, k) => .tuple #[.string ⟨u.toArray⟩, .int .i64 ((a : Int) + k), .int .i64 0] := by
        unfold strV; rw [if_neg hp]; rfl
    rw [e1, e2]
    cases hd : Wm.decI (s.data.toList.drop a) with
    | none =>
      refine .inl ⟨10, .inr rfl, rfl, ?_⟩
      unfold Wm.decS; rw [hd]
    | some r =>
      obtain ⟨n, k⟩ := r
      obtain ⟨hf, ht, hk, hl⟩ := Wm.encI_decI hd
      rw [List.length_drop] at hl
      have hdl : ((s.data.toList.drop a).length : Int) = (s.size : Int) - a := by rw [List.length_drop]; omega
      have hds : Wm.decS (s.data.toList.drop a) = if n < 0 ∨ 65536 < n ∨ ((s.data.toList.drop a).length : Int) - k < n then none else some (((s.data.toList.drop a).drop k).take n.toNat, k + n.toNat) := by
        unfold Wm.decS; rw [hd]
      rw [hdl] at hds
      by_cases hn : n < 0 ∨ 65536 < n ∨ (s.size : Int) - a - k < n
      · refine .inr (.inl ⟨n, a + k, by simp, by omega, hf.1, hf.2, by omega, ?_⟩)
        rw [hds, if_pos hn]
      · obtain ⟨m, rfl⟩ := Int.eq_ofNat_of_zero_le (by omega : 0 ≤ n)
        refine .inr (.inr ⟨m, a + k, by simp, by omega, by omega, ?_⟩)
        rw [hds, if_neg hn]
        have ee : (⟨(((s.data.toList.drop a).drop k).take (m : Int).toNat).toArray⟩ : ByteArray) = s.extract (a + k) (a + k + m) := by
          apply ByteArray.ext
          apply Array.toList_inj.1
          rw [Lib.extract_data, List.drop_drop]
          simp
        show Value.tuple #[.string ⟨(((s.data.toList.drop a).drop k).take (m : Int).toNat).toArray⟩, .int .i64 ((a : Int) + ((k + (m : Int).toNat : Nat) : Int)), .int .i64 0] = _
        rw [ee]
        simp [Int.add_assoc]

set_option maxRecDepth 100000 in
set_option maxHeartbeats 2000000 in
theorem string_any (s : ByteArray) (p : Int) (w : World) (hs : s.size ≤ maxLen) :
    Calls Tryd.prog 17 #[.string s, .int .i64 p] w fun e w' => e = .returned (strV s.data.toList p) ∧ Below w.heap.size w w' := by
  rcases str_ways s p with ⟨c, hc, h1, h2⟩ | ⟨n, q, h1, hq, hn1, hn2, hn, h2⟩ | ⟨n, q, h1, hq, hn, h2⟩
  · rcases hc with rfl | rfl
    all_goals
      have H1 := Lib.hid h1
      have H2 := Lib.hid h2
      clear h1 h2
      go_enter Tryd.func17, Tryd.ntmps17
      go_wp2_with fail
      refine (int_as _ _ _ _ hs H1.out).mono ?_; rintro e w' ⟨rfl, rfl⟩
      go_wp2_with fail
      go_ret3
      exact ⟨by rw [H2.out]; rfl, Below.refl _ _⟩
  · have H1 := Lib.hid h1
    have H2 := Lib.hid h2
    have HS := Lib.hid hs
    unfold maxLen at hs
    clear h1 h2
    by_cases n1 : n < 0
    · go_enter Tryd.func17, Tryd.ntmps17
      go_wp2_with fail
      refine (int_as _ _ _ _ HS.out H1.out).mono ?_; rintro e w' ⟨rfl, rfl⟩
      go_wp2_with fail
      go_ret3
      exact ⟨by rw [H2.out]; rfl, Below.refl _ _⟩
    · by_cases n2 : 65536 < n
      · go_enter Tryd.func17, Tryd.ntmps17
        go_wp2_with fail
        refine (int_as _ _ _ _ HS.out H1.out).mono ?_; rintro e w' ⟨rfl, rfl⟩
        go_wp2_with fail
        go_ret3
        exact ⟨by rw [H2.out]; rfl, Below.refl _ _⟩
      · have n3 : (s.size : Int) - q < n := by omega
        clear hn
        go_enter Tryd.func17, Tryd.ntmps17
        go_wp2_with fail
        refine (int_as _ _ _ _ HS.out H1.out).mono ?_; rintro e w' ⟨rfl, rfl⟩
        go_wp2_with fail
        go_ret3
        exact ⟨by rw [H2.out]; rfl, Below.refl _ _⟩
  · have H1 := Lib.hid h1
    have H2 := Lib.hid h2
    have HS := Lib.hid hs
    unfold maxLen at hs
    clear h1 h2
    go_enter Tryd.func17, Tryd.ntmps17
    go_wp2_with fail
    refine (int_as _ _ _ _ HS.out H1.out).mono ?_; rintro e w' ⟨rfl, rfl⟩
    go_wp2_with fail
    refine (clone_any _ _ (by simp; omega)).mono ?_; rintro e w' ⟨rfl, hB⟩
    go_wp2_with fail
    go_ret3
    exact ⟨by rw [H2.out]; rfl, hB⟩

set_option maxRecDepth 100000 in
set_option maxHeartbeats 2000000 in
theorem rString_any (s : ByteArray) (p : Int) (w : World) (hs : s.size ≤ maxLen) :
    Calls Tryd.prog 18 #[.string s, .int .i64 p] w fun e w' => e = .returned (strV s.data.toList p) ∧ Below w.heap.size w w' := by
  rcases str_ways s p with ⟨c, hc, h1, h2⟩ | ⟨n, q, h1, hq, hn1, hn2, hn, h2⟩ | ⟨n, q, h1, hq, hn, h2⟩
  · rcases hc with rfl | rfl
    all_goals
      have H1 := Lib.hid h1
      have H2 := Lib.hid h2
      clear h1 h2
      go_enter Tryd.func18, Tryd.ntmps18
      go_wp2_with fail
      refine (rInt_as _ _ _ _ hs H1.out).mono ?_; rintro e w' ⟨rfl, hB⟩
      go_wp2_with fail
      go_ret3
      exact ⟨by rw [H2.out]; rfl, hB⟩
  · have H1 := Lib.hid h1
    have H2 := Lib.hid h2
    have HS := Lib.hid hs
    unfold maxLen at hs
    clear h1 h2
    by_cases n1 : n < 0
    · go_enter Tryd.func18, Tryd.ntmps18
      go_wp2_with fail
      refine (rInt_as _ _ _ _ HS.out H1.out).mono ?_; rintro e w' ⟨rfl, hB⟩
      go_wp2_with fail
      go_ret3
      exact ⟨by rw [H2.out]; rfl, hB⟩
    · by_cases n2 : 65536 < n
      · go_enter Tryd.func18, Tryd.ntmps18
        go_wp2_with fail
        refine (rInt_as _ _ _ _ HS.out H1.out).mono ?_; rintro e w' ⟨rfl, hB⟩
        go_wp2_with fail
        go_ret3
        exact ⟨by rw [H2.out]; rfl, hB⟩
      · have n3 : (s.size : Int) - q < n := by omega
        clear hn
        go_enter Tryd.func18, Tryd.ntmps18
        go_wp2_with fail
        refine (rInt_as _ _ _ _ HS.out H1.out).mono ?_; rintro e w' ⟨rfl, hB⟩
        go_wp2_with fail
        go_ret3
        exact ⟨by rw [H2.out]; rfl, hB⟩
  · have H1 := Lib.hid h1
    have H2 := Lib.hid h2
    have HS := Lib.hid hs
    unfold maxLen at hs
    clear h1 h2
    go_enter Tryd.func18, Tryd.ntmps18
    go_wp2_with fail
    refine (rInt_as _ _ _ _ HS.out H1.out).mono ?_; rintro e w' ⟨rfl, hB⟩
    go_wp2_with fail
    go_ret3
    exact ⟨by rw [H2.out]; rfl, hB⟩
end Go.Proofs.YteenhpfafomeiaaDoor
