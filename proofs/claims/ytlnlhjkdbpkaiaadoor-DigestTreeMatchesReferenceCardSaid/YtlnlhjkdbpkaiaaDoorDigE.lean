/- What slicing, copying and clearing do to the row of a block. Conditions: the row has 64 bytes, and the places are within it. -/
import Derived.Test.YtlnlhjkdbpkaiaaDoorDigD
import Derived.Test.YtlnlhjkdbpkaiaaDoorDigRange
import Derived.Test.YtlnlhjkdbpkaiaaDoorDigScope
import Derived.Laws.Slices
import Derived.Laws.CopyRow
import Derived.Lib.SliceRun
import Derived.Lib.BufferWrite
namespace Go.Proofs.YtlnlhjkdbpkaiaaDoor
open Go.RowKit

theorem al64 : Tryd.prog.arrayLen 62 = 64 := by kernel_rfl
theorem el64 : Tryd.prog.elem 62 = 5 := by kernel_rfl
theorem szU8 (W : World) : (sizeOf 5).run Tryd.prog W = .ok 1 W := by kernel_rfl
theorem ht64 : Tryd.prog.underlying 62 = some (.array (Tryd.prog.arrayLen 62) (Tryd.prog.elem 62)) := by rw [al64, el64]; exact Tryd.underlying62
/-- The block from place n on. -/
theorem slice64 (W : World) (b n : Nat) (h : n < 64) : (Instr.sliceAt 62 (.pointer (some ⟨b, 0, none⟩)) (some (.int .i64 (n : Int))) none none).run Tryd.prog W = .ok (.slice (some ⟨b, n, none⟩) (64 - n) (64 - n)) W := by
  rw [run_sliceAt_array_l W _ _ ht64 .i64 (n : Int) (by omega) (by rw [al64]; omega), el64, szU8]
  simp [Result.andThen, slicedAt, al64, Addr.add, show ¬ 64 = n by omega]
  omega
theorem slice64e (W : World) (b : Nat) : (Instr.sliceAt 62 (.pointer (some ⟨b, 0, none⟩)) (some (.int .i64 64)) none none).run Tryd.prog W = .ok (.slice (some ⟨b, 0, none⟩) 0 0) W := by
  rw [run_sliceAt_array_l W _ _ ht64 .i64 64 (by omega) (by rw [al64]; omega), el64, szU8]
  simp [Result.andThen, slicedAt, al64]
theorem slice64a (W : World) (b : Nat) : (Instr.sliceAt 62 (.pointer (some ⟨b, 0, none⟩)) none none none).run Tryd.prog W = .ok (.slice (some ⟨b, 0, none⟩) 64 64) W := by
  rw [run_sliceAt_array_all W _ _ ht64, el64, szU8]
  simp [Result.andThen, slicedAt, al64, Addr.add]

theorem byteCells_N (l : List UInt8) : Lib.byteCells l = (bN l).map fun (n : Nat) => Value.int .u8 (n : Int) := by simp [Lib.byteCells, bN]
/-- What copying the first c bytes of s to place f gives. -/
def putAt (buf : List UInt8) (f c : Nat) (s : List UInt8) : List UInt8 := buf.take f ++ s.take c ++ buf.drop (f + c)
theorem putAt_len {buf : List UInt8} {f c : Nat} {s : List UInt8} (hb : buf.length = 64) (hf : f + c ≤ 64) (hs : c ≤ s.length) : (putAt buf f c s).length = 64 := by simp [putAt]; omega
theorem putAt_take {buf : List UInt8} {f c : Nat} {s : List UInt8} (hb : buf.length = 64) (hf : f + c ≤ 64) (hs : c ≤ s.length) : (putAt buf f c s).take (f + c) = buf.take f ++ s.take c := by
  unfold putAt
  rw [List.take_left' (by simp; omega)]
theorem copy64 (W : World) (b f : Nat) (buf : List UInt8) (s : ByteArray) (ty : TypeId) (hr : Row W b 62 .u8 (bN buf)) (hb : buf.length = 64) (hf : f ≤ 64) (c : Nat) (hc : c = min s.size (64 - f)) :
    (Builtin.copy_ #[42, 9] ty #[.slice (some ⟨b, f, none⟩) (64 - f) (64 - f), .string s]).run Tryd.prog W = .ok (.int .i64 (c : Int)) (W.setRow b (cellsN .u8 (bN (putAt buf f c s.data.toList)))) := by
  have hlen : (Lib.byteCells (s.data.toList.take c)).length = c := by rw [Lib.byteCells_length, List.length_take, ← Lib.size_eq]; omega
  have hst := run_storeCells_at Tryd.prog b f 62 (Lib.byteCells (s.data.toList.take c)) 0 _ W hr (by rw [hlen, cellsN_size, bN_len, hb]; omega) (Lib.byteCells_one _)
  have hq : Tryd.prog.info? 5 = Tryd.prog.info? 5 := rfl
  have hs1 : (Tryd.prog.info? 5).map (·.size) = some 1 := by kernel_rfl
  have hmin : Nat.min s.size (64 - f) = c := by rw [hc]
  have htk : List.take c (List.map (fun b : UInt8 => Value.int IntKind.u8 (b.toNat : Int)) s.data.toList) = Lib.byteCells (s.data.toList.take c) := by
    simp [Lib.byteCells, List.map_take]
  rw [hlen] at hst
  simp only [Nat.add_zero] at hst
  have hcells : ((cellsN .u8 (bN buf)).toList.take f ++ Lib.byteCells (s.data.toList.take c) ++ (cellsN .u8 (bN buf)).toList.drop (f + c)).toArray = cellsN .u8 (bN (putAt buf f c s.data.toList)) := by
    rw [byteCells_N]
    simp [cellsN, bN, putAt, List.map_take, List.map_drop]
  cases hq2 : Tryd.prog.info? 5 with
  | none => simp [hq2] at hs1
  | some i =>
    simp [Builtin.copy_, run_underlying Tryd.underlying42, Builtin.lenOf, Builtin.firstCells, sizeOf, typeInfo, hq2, hmin]
    rw [htk, hst, hcells]
    simp [Result.andThen, goInt]

/-- The row with zeros from place n on. -/
def zeroFrom (buf : List Nat) (n : Nat) : List Nat := buf.take n ++ List.replicate (64 - n) 0
theorem zeroFrom_len {buf : List Nat} {n : Nat} (hb : buf.length = 64) (hn : n ≤ 64) : (zeroFrom buf n).length = 64 := by simp [zeroFrom]; omega
theorem clear64 (W : World) (b n : Nat) (buf : List Nat) (ty : TypeId) (hr : Row W b 62 .u8 buf) (hb : buf.length = 64) (hn : n < 64) :
    (Builtin.clear_ #[42] ty #[.slice (some ⟨b, n, none⟩) (64 - n) (64 - n)]).run Tryd.prog W = .ok (.tuple #[]) (W.setRow b (cellsN .u8 (zeroFrom buf n))) := by
  have hst := run_storeCells_at Tryd.prog b n 62 (List.replicate (64 - n) (.int .u8 0)) 0 _ W hr (by rw [cellsN_size, hb, List.length_replicate]; omega) (fun v hv => by rw [List.eq_of_mem_replicate hv]; rfl)
  have hzc : (Builtin.zeroCells (Value.int .u8 0).cells (64 - n)).toList = List.replicate (64 - n) (.int .u8 0) := by
    rw [show (Value.int .u8 0).cells = #[.int .u8 0] from rfl]
    simp [Builtin.zeroCells]
    apply List.ext_getElem
    · simp
    · intro i h1 h2
      simp [Nat.mod_one]
  have hrow : ((cellsN .u8 buf).toList.take (n + 0) ++ List.replicate (64 - n) (Value.int .u8 0) ++ (cellsN .u8 buf).toList.drop (n + 0 + (List.replicate (64 - n) (Value.int .u8 0)).length)).toArray = cellsN .u8 (zeroFrom buf n) := by
    rw [List.drop_eq_nil_of_le (by simp [cellsN, hb]; omega)]
    simp [cellsN, zeroFrom, List.map_take]
  rw [hrow] at hst
  obtain ⟨m, hm⟩ : ∃ m, 64 - n = m + 1 := ⟨64 - n - 1, by omega⟩
  rw [hm] at hst hzc ⊢
  simp [Builtin.clear_, run_underlying Tryd.underlying42, hzc, hst]
theorem clear64n (W : World) (a : Option Addr) (c : Nat) (ty : TypeId) : (Builtin.clear_ #[42] ty #[.slice a 0 c]).run Tryd.prog W = .ok (.tuple #[]) W := by
  cases a <;> simp [Builtin.clear_, run_underlying Tryd.underlying42]
end Go.Proofs.YtlnlhjkdbpkaiaaDoor
