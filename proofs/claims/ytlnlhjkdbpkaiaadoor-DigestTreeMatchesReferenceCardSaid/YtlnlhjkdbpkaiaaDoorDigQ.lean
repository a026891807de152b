/- hex and few return what the plain definitions say. Conditions: the string has at most 1000 bytes; the list is readable and its length fits an int. -/
import Derived.Test.YtlnlhjkdbpkaiaaDoorDigP
namespace Go.Proofs.YtlnlhjkdbpkaiaaDoor
open Go.RowKit

def hexTab : List UInt8 := [48, 49, 50, 51, 52, 53, 54, 55, 56, 57, 97, 98, 99, 100, 101, 102]
def hexL (l : List UInt8) : List UInt8 := l.flatMap fun b => [hexTab.getD (b.toNat / 16) 0, hexTab.getD (b.toNat % 16) 0]
def hexTo (s : ByteArray) (i : Nat) : ByteArray := ⟨(hexL (s.data.toList.take i)).toArray⟩
theorem hexTab_at (q : Nat) (h : q < 16) : ((⟨#[48, 49, 50, 51, 52, 53, 54, 55, 56, 57, 97, 98, 99, 100, 101, 102]⟩ : ByteArray).extract q (q + 1)).data.toList = [hexTab.getD q 0] := by
  have all : ∀ q, q < 16 → ((⟨#[48, 49, 50, 51, 52, 53, 54, 55, 56, 57, 97, 98, 99, 100, 101, 102]⟩ : ByteArray).extract q (q + 1)).data.toList = [hexTab.getD q 0] := by decide
  exact all q h
theorem hexTo_succ (s : ByteArray) (i b q r : Nat) (hi : i < s.size) (hb : s[i].toNat = b) (hq : q = b / 16) (hr : r = b % 16) :
    hexTo s i ++ (⟨#[48, 49, 50, 51, 52, 53, 54, 55, 56, 57, 97, 98, 99, 100, 101, 102]⟩ : ByteArray).extract q (q + 1) ++ (⟨#[48, 49, 50, 51, 52, 53, 54, 55, 56, 57, 97, 98, 99, 100, 101, 102]⟩ : ByteArray).extract r (r + 1) = hexTo s (i + 1) := by
  apply Dt.ba_ext
  have hbl : b < 256 := by rw [← hb]; exact s[i].toNat_lt
  rw [Dt.ba_append, Dt.ba_append, hexTab_at q (by omega), hexTab_at r (by omega)]
  unfold hexTo hexL
  have hl : i < s.data.toList.length := by simpa using hi
  rw [List.take_succ_eq_append_getElem hl, List.flatMap_append]
  simp [hq, hr]
  rw [show (s.data[i]).toNat = b from hb]
  exact ⟨rfl, rfl⟩

theorem hexL_len (l : List UInt8) : (hexL l).length = 2 * l.length := by
  unfold hexL
  induction l with
  | nil => rfl
  | cons x l ih => rw [List.flatMap_cons, List.length_append, ih]; simp; omega
theorem hexTo_size (s : ByteArray) (i : Nat) : (hexTo s i).size ≤ 2 * i := by
  unfold hexTo
  show (hexL _).toArray.size ≤ _
  rw [List.size_toArray, hexL_len, List.length_take]; omega
theorem hexSlice (q : Nat) (h : q < 16) (W : World) : (Instr.sliceAt 9 (.string ⟨#[48, 49, 50, 51, 52, 53, 54, 55, 56, 57, 97, 98, 99, 100, 101, 102]⟩) (some (.int .u8 (q : Int))) (some (.int .u8 ((q : Int) + 1))) none).run Tryd.prog W = .ok (.string ((⟨#[48, 49, 50, 51, 52, 53, 54, 55, 56, 57, 97, 98, 99, 100, 101, 102]⟩ : ByteArray).extract q (q + 1))) W := by
  rw [run_sliceAt_string W _ _ _ _ _ Tryd.underlying9, run_slice_string W _ _ _ _ _ _ Tryd.underlying9 (by omega) (by omega) (by show (q : Int) + 1 ≤ 16; omega)]
  rfl

set_option maxRecDepth 100000 in
set_option maxHeartbeats 4000000 in
theorem hex_any (s : ByteArray) (w : World) (hs : s.size ≤ 1000) :
    Calls Tryd.prog 36 #[.string s] w fun e w' => e = .returned (.string (hexTo s s.size)) ∧ Below w.heap.size w w' := by
  go_enter Tryd.func36, Tryd.ntmps36
  go_wp2
  go_loopw [3, 4] (fun acc c wr => ∃ i : Nat, i ≤ s.size ∧ c = .int .i64 i ∧ acc = .string (hexTo s i) ∧ Below w.heap.size w wr) (fun _ c _ => s.size - (intOf c).toNat)
  case atStart => exact ⟨0, by omega, rfl, rfl, Below.refl _ _⟩
  case round =>
    obtain ⟨i, hi, rfl, rfl, hB⟩ := hrel
    have HB := Lib.hid hB
    clear hB
    by_cases hlt : i < s.size
    · obtain ⟨b, hb⟩ : ∃ b, s[i].toNat = b := ⟨_, rfl⟩
      have hbl : b < 256 := by rw [← hb]; exact s[i].toNat_lt
      obtain ⟨q, hq⟩ : ∃ q, q = b / 16 := ⟨_, rfl⟩
      obtain ⟨r, hr⟩ : ∃ r, r = b % 16 := ⟨_, rfl⟩
      have q15 : (q : Int) ≤ 15 := by omega
      have r15 : (r : Int) ≤ 15 := by omega
      have q0 : 0 ≤ (q : Int) := by omega
      have r0 : 0 ≤ (r : Int) := by omega
      have eq : (b : Int) / 16 = (q : Int) := by omega
      have er : (b : Int) % 16 = (r : Int) := by omega
      have wq : IntKind.u8.wrap ((q : Int) + 1) = (q : Int) + 1 := by show ((q : Int) + 1) % 256 = _; omega
      have wr1 : IntKind.u8.wrap ((r : Int) + 1) = (r : Int) + 1 := by show ((r : Int) + 1) % 256 = _; omega
      have wq' : IntKind.u8.wrap (q : Int) = (q : Int) := by show (q : Int) % 256 = _; omega
      have wr' : IntKind.u8.wrap (r : Int) = (r : Int) := by show (r : Int) % 256 = _; omega
      have f1 : (q : Int) + 1 ≤ 16 := by omega
      have f2 : (r : Int) + 1 ≤ 16 := by omega
      have f3 : (q : Int) < 16 := by omega
      have f4 : (r : Int) < 16 := by omega
      have f5 : 0 ≤ (q : Int) + 1 := by omega
      have f6 : 0 ≤ (r : Int) + 1 := by omega
      have tq : ((q : Int) + 1).toNat = q + 1 := by omega
      have tr : ((r : Int) + 1).toNat = r + 1 := by omega
      have sq := hexSlice q (by omega)
      have sr := hexSlice r (by omega)
      have hn := hexTo_succ s i b q r hlt hb hq hr
      have hsz := hexTo_size s i
      obtain ⟨acc, hacc⟩ : ∃ acc, acc = hexTo s i := ⟨_, rfl⟩
      obtain ⟨x1, hx1⟩ : ∃ x, x = (⟨#[48, 49, 50, 51, 52, 53, 54, 55, 56, 57, 97, 98, 99, 100, 101, 102]⟩ : ByteArray).extract q (q + 1) := ⟨_, rfl⟩
      obtain ⟨x2, hx2⟩ : ∃ x, x = (⟨#[48, 49, 50, 51, 52, 53, 54, 55, 56, 57, 97, 98, 99, 100, 101, 102]⟩ : ByteArray).extract r (r + 1) := ⟨_, rfl⟩
      have z1 : x1.size ≤ 1 := by rw [← Dt.ba_len, hx1, hexTab_at q (by omega)]; exact Nat.le_refl _
      have z2 : x2.size ≤ 1 := by rw [← Dt.ba_len, hx2, hexTab_at r (by omega)]; exact Nat.le_refl _
      rw [← hacc, ← hx1, ← hx2] at hn
      rw [← hacc] at hsz ⊢
      rw [← hx1] at sq
      rw [← hx2] at sr
      have hsz2 : acc.size ≤ 2000 := by omega
      have HN := Lib.hid hn
      clear hn hacc hx1 hx2 hsz
      have i0 : 0 ≤ (i : Int) := by omega
      have i1 : (i : Int) < (s.size : Int) := by omega
      clear hq hr
      go_wp2
      go_quiet (fail)
      go_wp2
      go_roundw
      case rel => exact ⟨i + 1, by omega, by go_num, by rw [← HN.out], ⟨HB.out.os, HB.out.tape, HB.out.output, HB.out.size, HB.out.block⟩⟩
      case measure => simp [intOf]; omega
    · obtain rfl : i = s.size := by omega
      go_wp2
      go_ret
      exact ⟨rfl, HB.out⟩
end Go.Proofs.YtlnlhjkdbpkaiaaDoor
