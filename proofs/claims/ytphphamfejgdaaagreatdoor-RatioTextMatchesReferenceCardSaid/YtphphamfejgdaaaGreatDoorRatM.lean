/- What the functions of texts read of memory, and the numbers' texts. Conditions: ints; the table of powers, the variables of errors and the limit of a search hold what they hold. -/
import Derived.Test.YtphphamfejgdaaaGreatDoorRatClamp
import Derived.Shelf.Strconv.AtoiAll
import Derived.Shelf.Strconv.Itoa3
import Derived.Shelf.Strings.Cut
import Derived.Shelf.Lay
import Derived.Lib.AtoiErrMem
import Derived.Lib.AppendIntMem
import Derived.Lib.SmallJoins
import Derived.Ground.NamesProg
import Derived.Deep.RegionHeld3
namespace Go.Proofs.YtphphamfejgdaaaGreatDoor
open Go.RowKit Go.Shelf

shelf_lay LaysC.n172 Nm 172 at Tryz as laysAtoi
shelf_lay LaysM.n171 Nm 171 at Tryz as laysItoa
shelf_lay Lays.n145 Nm 145 at Tryz as laysCut

theorem gPow : Tryz.prog.globalNamed "internal/strconv.uint64pow10" = some 4 := by kernel_rfl
/-- What the functions of texts read of memory. -/
structure Txt (w : World) (a : Addr) : Prop where
  err : ErrAt w a
  tab : Lib.TabIs Tryz.prog w "internal/strconv.uint64pow10" .u64 Lib.pow10Tab
  max : ∃ m, w.cell? ⟨1, 0, none⟩ = some (.int .i64 m)
  syn : ∃ te pe, w.cell? ⟨2, 0, none⟩ = some (.iface te pe)
  rng : ∃ te pe, w.cell? ⟨3, 0, none⟩ = some (.iface te pe)
theorem Txt.below {w w' : World} {a : Addr} (h : Txt w a) (hb : Below w.heap.size w w') : Txt w' a := by
  obtain ⟨m, hm⟩ := h.max
  obtain ⟨t1, p1, h1⟩ := h.syn
  obtain ⟨t2, p2, h2⟩ := h.rng
  refine ⟨h.err.below hb, Go.Joins.tab_stays gPow h.tab hb (Nat.le_refl _), ⟨m, ?_⟩, ⟨t1, p1, ?_⟩, ⟨t2, p2, ?_⟩⟩
  · rw [hb.cell (World.block_lt_of_cell? (h := hm))]; exact hm
  · rw [hb.cell (World.block_lt_of_cell? (h := h1))]; exact h1
  · rw [hb.cell (World.block_lt_of_cell? (h := h2))]; exact h2

theorem itoa_any (n : Int) (S : ByteArray) (a : Addr) (w : World) (n1 : -9223372036854775808 ≤ n) (n2 : n ≤ 9223372036854775807) (hT : Txt w a) (hS : (⟨(Lib.itoa n).toArray⟩ : ByteArray) = S) :
    Calls Tryz.prog 67 #[.int .i64 n] w fun e w' => e = .returned (.string S) ∧ Below w.heap.size w w' := by
  subst hS
  have h : Calls Tryz.prog 67 #[.int .i64 n] w fun e w' => e = .returned (.string ⟨(Lib.itoa n).toArray⟩) ∧ ∃ k os, w' = Sort.grow (w.drewN k) os := Any.strconv_Itoa laysItoa n n1 n2 w hT.tab
  exact h.mono (by rintro e w' ⟨rfl, k, os, rfl⟩; exact ⟨rfl, Lib.below_grow _ w (Nat.le_refl _) k os⟩)
theorem cut_any (s L R : ByteArray) (f : Bool) (a : Addr) (w : World) (hs : s.size < 4294967281) (hT : Txt w a) (h : Lib.cut s.data.toList [47] = (L.data.toList, R.data.toList, f)) :
    Calls Tryz.prog 57 #[.string s, .string ⟨#[47]⟩] w fun e w' => e = .returned (.tuple #[.string L, .string R, .bool f]) ∧ ∃ n, w' = w.drewN n := by
  obtain ⟨m, hm⟩ := hT.max
  have h2 : Calls Tryz.prog 57 #[.string s, .string ⟨#[47]⟩] w fun e w' => e = .returned (.tuple #[.string ⟨(Lib.cut s.data.toList [47]).1.toArray⟩, .string ⟨(Lib.cut s.data.toList [47]).2.1.toArray⟩, .bool (Lib.cut s.data.toList [47]).2.2]) ∧ ∃ n, w' = w.drewN n := Any.strings_Cut laysCut s ⟨#[47]⟩ m w hs hm
  rw [h] at h2
  exact h2

/-- What number gives, in the terms of what it ends in. -/
theorem number_any (s : ByteArray) (o : Option Int) (a : Addr) (w : World) (hs : s.size ≤ 1000) (hT : Txt w a) (ho : Rt.numO s.data.toList = o) :
    Calls Tryz.prog 58 #[.string s] w fun e w' => e = outcomeI a o ∧ Below w.heap.size w w' := by
  unfold Rt.numO at ho
  have HE := Lib.hid hT.err
  obtain ⟨t1, p1, h1⟩ := hT.syn
  obtain ⟨t2, p2, h2⟩ := hT.rng
  cases h : Lib.atoiAll s.data.toList with
  | ok v =>
    rw [h] at ho
    obtain rfl : o = some v := ho.symm
    have hat : Calls Tryz.prog 70 #[.string s] w fun e w' => e = .returned (.tuple #[.int .i64 v, .nilIface]) ∧ (w' = w ∨ ∃ t, w' = Lib.bytesWorld w 5 t) := Any.strconv_Atoi_ok laysAtoi s (by omega) v h w
    have HA := Lib.hid hat
    clear hat h ho h1 h2 hT hs
    go_enter Tryz.func58, Tryz.ntmps58
    go_wp2_with fail
    refine HA.out.mono ?_; rintro e w' ⟨rfl, hw⟩
    have HB : Hid (Below w.heap.size w w') := Lib.hid (by
      rcases hw with rfl | ⟨t, rfl⟩
      · exact Below.refl _ _
      · exact Lib.bytesWorld_below _ _ _)
    clear hw
    go_wp2_with fail
    go_ret
    exact ⟨rfl, HB.out⟩
  | «syntax» =>
    rw [h] at ho
    obtain rfl : o = none := ho.symm
    have hat : Calls Tryz.prog 70 #[.string s] w fun e w' => ∃ N, e = .returned (.tuple #[.int .i64 (0), .iface 106 (.pointer (some ⟨N, 0, none⟩))]) ∧ w.heap.size ≤ N ∧ w'.heap[N]? = some (.cells #[.string ⟨#[65, 116, 111, 105]⟩, .string s, .iface t1 p1] 121 (0, 0)) ∧ RowKit.Below w.heap.size w w' := Any.strconv_Atoi_syntax laysAtoi s (by omega) h _ w h1 (.inr ⟨_, _, rfl⟩)
    have HA := Lib.hid hat
    clear hat h ho h1 h2 hT hs
    go_enter Tryz.func58, Tryz.ntmps58
    go_wp2_with fail
    refine HA.out.mono ?_; rintro e w' ⟨N, rfl, -, -, hb⟩
    have hE2 := (HE.out.below hb).cell
    have hE3 := (HE.out.below hb).lt
    go_wp2_with fail
    exact ⟨rfl, rfl, hb⟩
  | range =>
    rw [h] at ho
    obtain rfl : o = none := ho.symm
    have hat : Calls Tryz.prog 70 #[.string s] w fun e w' => ∃ N, e = .returned (.tuple #[.int .i64 (Lib.atoiSat s.data.toList), .iface 106 (.pointer (some ⟨N, 0, none⟩))]) ∧ w.heap.size ≤ N ∧ w'.heap[N]? = some (.cells #[.string ⟨#[65, 116, 111, 105]⟩, .string s, .iface t2 p2] 121 (0, 0)) ∧ RowKit.Below w.heap.size w w' := Any.strconv_Atoi_range laysAtoi s (by omega) h _ w h2 (.inr ⟨_, _, rfl⟩)
    have HA := Lib.hid hat
    clear hat h ho h1 h2 hT hs
    go_enter Tryz.func58, Tryz.ntmps58
    go_wp2_with fail
    refine HA.out.mono ?_; rintro e w' ⟨N, rfl, -, -, hb⟩
    have hE2 := (HE.out.below hb).cell
    have hE3 := (HE.out.below hb).lt
    go_wp2_with fail
    exact ⟨rfl, rfl, hb⟩
end Go.Proofs.YtphphamfejgdaaaGreatDoor
