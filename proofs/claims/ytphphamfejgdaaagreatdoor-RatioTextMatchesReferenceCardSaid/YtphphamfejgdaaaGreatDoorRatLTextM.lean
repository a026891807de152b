/- The law RatioTextMatchesReference: it returns true. Conditions: ints, a string; what the functions of texts read of memory; what is shown of sane. (Written by gen_textm.py.) -/
import Derived.Test.YtphphamfejgdaaaGreatDoorRatRefG
namespace Go.Proofs.YtphphamfejgdaaaGreatDoor
open Go.RowKit

set_option maxRecDepth 20000 in
set_option maxHeartbeats 4000000 in
theorem textm_law (hS : SaneSays) (n d : Int) (s : ByteArray) (er : Addr) (w : World) (hn : -9223372036854775808 ≤ n ∧ n ≤ 9223372036854775807) (hd : -9223372036854775808 ≤ d ∧ d ≤ 9223372036854775807) (hs : s.size ≤ 9223372036854775807) (hT : Txt w er) :
    Calls Tryz.prog 4 #[.int .i64 n, .int .i64 d, .string s] w fun e w' => e = .returned (.bool true) ∧ Below w.heap.size w w' := by
  have HT := Lib.hid hT
  have HS := Lib.hid hS
  have HM := Lib.hid (And.intro hn hd)
  have HB0 : Hid (Below w.heap.size w w) := Lib.hid (Below.refl _ _)
  obtain ⟨m, hm⟩ : ∃ m, m = min s.size 60 := ⟨_, rfl⟩
  have hm1 : m ≤ 60 := by omega
  have hm2 : m ≤ s.size := by omega
  have hmin : ∀ (ts : Array TypeId) (t : TypeId) (W : World), (Builtin.min_ ts t #[.int .i64 (s.size : Int), .int .i64 60]).run Tryz.prog W = .ok (.int .i64 (m : Int)) W := by
    intro ts t W
    rw [run_min_two, hm]
    congr 2
    split <;> omega
  obtain ⟨S, hS0⟩ : ∃ S, s.extract 0 m = S := ⟨_, rfl⟩
  have hSs : S.size ≤ 1000 := by rw [← hS0]; simp; omega
  have HSS := Lib.hid hSs
  obtain ⟨x, y, z, hp⟩ : ∃ x y z, Parts (Rt.parseO S.data.toList) x y z := ⟨_, _, _, Parts.of _⟩
  have HP := Lib.hid hp
  obtain ⟨t, ht⟩ : ∃ t, strO (printO n d) = t := ⟨_, rfl⟩
  obtain ⟨f, hf⟩ : ∃ f, errO (printO n d) = f := ⟨_, rfl⟩
  have HTF := Lib.hid (And.intro ht hf)
  clear hm hp hSs ht hf hT hS hn hd
  go_enter Tryz.func4, Tryz.ntmps4
  go_wp2_with fail
  refine (HS.out er _ (HT.out.below HB0.out)).mono ?_
  rintro e w1 ⟨rfl, hB⟩
  have HB1 : Hid (Below w.heap.size w w1) := Lib.hid (HB0.out.trans (hB.mono HB0.out.size))
  clear hB
  go_wp2_with fail
  refine (is_any n d _).mono ?_
  rintro e w2 ⟨rfl, hB⟩
  have HB2 : Hid (Below w.heap.size w w2) := Lib.hid (HB1.out.trans (hB.mono HB1.out.size))
  clear hB HB1
  go_wp2_with fail
  refine (Print_any n d t f er _ HM.out.1.1 HM.out.1.2 HM.out.2.1 HM.out.2.2 (HT.out.below HB2.out) HTF.out.1 HTF.out.2).mono ?_
  rintro e w3 ⟨rfl, hB⟩
  have HB3 : Hid (Below w.heap.size w w3) := Lib.hid (HB2.out.trans (hB.mono HB2.out.size))
  clear hB HB2
  go_wp2_with fail
  refine (is_any n d _).mono ?_
  rintro e w4 ⟨rfl, hB⟩
  have HB4 : Hid (Below w.heap.size w w4) := Lib.hid (HB3.out.trans (hB.mono HB3.out.size))
  clear hB HB3
  go_wp2_with fail
  refine (rPrint_any n d t f _ HM.out.1.1 HM.out.1.2 HM.out.2.1 HM.out.2.2 HTF.out.1 HTF.out.2).mono ?_
  rintro e w5 ⟨rfl, hB⟩
  have HB5 : Hid (Below w.heap.size w w5) := Lib.hid (HB4.out.trans (hB.mono HB4.out.size))
  clear hB HB4
  go_wp2_with fail
  refine (Parse_any S x y z er _ HSS.out (HT.out.below HB5.out) HP.out.nm HP.out.dn HP.out.er).mono ?_
  rintro e w6 ⟨rfl, hB⟩
  have HB6 : Hid (Below w.heap.size w w6) := Lib.hid (HB5.out.trans (hB.mono HB5.out.size))
  clear hB HB5
  go_wp2_with fail
  obtain ⟨w6', hwA⟩ : ∃ w6', w6' = w6.alloc (Obj.cells #[Value.int IntKind.i64 x, Value.int IntKind.i64 y] 25) := ⟨_, rfl⟩
  rw [← hwA]
  have HB6' : Hid (Below w.heap.size w w6') := Lib.hid (by rw [hwA]; exact HB6.out.alloc HB6.out.size _)
  have bA : Hid (BoxAt w6' w6.heap.size x y) := Lib.hid (by rw [hwA]; exact ⟨by simp [go_sem], by simp [go_sem]⟩)
  clear hwA HB6
  refine (rparse_any S x y z _ HSS.out (by rw [← Rt.parse_ref]; exact HP.out)).mono ?_
  rintro e w7 ⟨rfl, hB⟩
  have HB7 : Hid (Below w.heap.size w w7) := Lib.hid (HB6'.out.trans (hB.mono HB6'.out.size))
  have bA' := Lib.hid (bA.out.below hB)
  clear hB bA HB6'
  have bA := bA'
  clear bA'
  have qA0 := bA.out.c0
  have qA1 := bA.out.c1
  have qAl := World.block_lt_of_cell? (h := qA0)
  go_wp2_with fail
  obtain ⟨w7', hwB⟩ : ∃ w7', w7' = w7.alloc (Obj.cells #[Value.int IntKind.i64 x, Value.int IntKind.i64 y] 25) := ⟨_, rfl⟩
  rw [← hwB]
  have HB7' : Hid (Below w.heap.size w w7') := Lib.hid (by rw [hwB]; exact HB7.out.alloc HB7.out.size _)
  have bA' : Hid (BoxAt w7' w6.heap.size x y) := Lib.hid (by rw [hwB]; exact bA.out.alloc _)
  clear bA
  have bA := bA'
  clear bA'
  have bB : Hid (BoxAt w7' w7.heap.size x y) := Lib.hid (by rw [hwB]; exact ⟨by simp [go_sem], by simp [go_sem]⟩)
  clear hwB HB7
  go_ret
  exact ⟨rfl, HB7'.out⟩
end Go.Proofs.YtphphamfejgdaaaGreatDoor
