/- The reference's PutInt returns the encoding of an integer, or the error for one beyond the limits. Conditions: none but that the argument is in or out of the limits. -/
import Derived.Test.YteenhpfafomeiaaDoorWireA
import Derived.LoopTactic
import Derived.Laws.AppendOwn
import Derived.Maps.AppendAt
import Derived.RangeFuncBox
import Derived.Laws.BytesArg
namespace Go.Proofs.YteenhpfafomeiaaDoor
open Go.RowKit

theorem infoU8 : (Tryd.prog.info? 5).map (fun i => (i.zero, i.size, i.bytes)) = some (some (.int .u8 0), 1, 1) := by kernel_rfl
def byteV (b : UInt8) : Value := .int .u8 (b.toNat : Int)
theorem byteV_num (n : Nat) (h : n < 256) : byteV (UInt8.ofNat n) = .int .u8 (n : Int) := by unfold byteV; congr 1; simp; omega

/-- The text of a slice that owns bytes. -/
theorem conv_own (W : World) (base : Nat) (g cap : Nat) (l : List UInt8) (h : W.ownsRow base 5 1 (.slice (some ⟨g, 0, none⟩) l.length cap) l.length (l.map byteV)) :
    (convert 38 9 (.slice (some ⟨g, 0, none⟩) l.length cap)).run Tryd.prog W = .ok (.string ⟨l.toArray⟩) W := by
  have hc := h.cells (g := g) rfl
  have hr := run_convert_bytes_arg (P := Tryd.prog) W 38 5 Tryd.underlying38 Tryd.underlying5 g 0 l.length cap (l.map fun b => (b.toNat : Int)) (by simp) (fun i hi => by
    have := hc i (byteV l[i]) (by simp [hi])
    have ea : (⟨g, 0, none⟩ : Addr).add i = ⟨g, i, none⟩ := by unfold Addr.add; split <;> simp_all
    rw [ea] at this
    rw [Nat.zero_add, this]
    simp [byteV, List.getD, hi]) 9 Tryd.underlying9
  rw [hr]
  congr 2
  unfold strOfNums
  rw [List.map_map]
  congr 2
  conv => rhs; rw [← List.map_id l]
  apply List.map_congr_left
  intro b _
  simp

theorem encF_last {f r : Nat} (h : r < 128) : Wm.encF f r = [UInt8.ofNat r] := by
  cases f with
  | zero => rfl
  | succ f => unfold Wm.encF; rw [if_pos h]
theorem encF_more {f r : Nat} (h : ¬ r < 128) (hf : r < 128 ^ (f + 1)) : ∃ f', f = f' + 1 ∧ Wm.encF f r = UInt8.ofNat (r % 128 + 128) :: Wm.encF f' (r / 128) ∧ r / 128 < 128 ^ (f' + 1) := by
  cases f with
  | zero => simp at hf; omega
  | succ f =>
    have hp : 128 ^ (f + 1 + 1) = 128 * 128 ^ (f + 1) := by rw [Nat.pow_succ]; omega
    exact ⟨f, rfl, by conv => { lhs; unfold Wm.encF }; rw [if_neg h], by omega⟩

set_option maxRecDepth 100000 in
set_option maxHeartbeats 1000000 in
theorem rPutInt_ok (k : Int) (w : World) (hk : Wm.Fits k) :
    Calls Tryd.prog 13 #[.int .i64 k] w fun e w' => e = .returned (.tuple #[.string ⟨(Wm.encI k).toArray⟩, .int .i64 0]) ∧ Below w.heap.size w w' := by
  obtain ⟨hk1, hk2⟩ := hk
  obtain ⟨i0, hi, hz0, hz1, hz2⟩ := info_parts infoU8
  have hz := Wm.zz_lt k hk1 hk2
  go_enter Tryd.func13, Tryd.ntmps13
  go_wp2_with (first | (go_at_call 25; refine (zigzag_any _ _ hk1 hk2).mono ?_; rintro e w' ⟨rfl, rfl⟩))
  go_loopw [4, 5] (fun z v wr => ∃ (pre : List UInt8) (r f : Nat), z = .int .u64 r ∧ Wm.enc (Wm.zz k) = pre ++ Wm.encF f r ∧ r < 128 ^ (f + 1) ∧ r < 9223372036854775808 ∧ wr.ownsRow w.heap.size 5 1 v pre.length (pre.map byteV) ∧ Below w.heap.size w wr)
    (fun z _ _ => (intOf z).toNat)
  case atStart => exact ⟨[], Wm.zz k, 8, rfl, rfl, by omega, by omega, World.ownsRow_nil _ _ _ _, Below.refl _ _⟩
  case round =>
    obtain ⟨pre, r, f, rfl, hx, hf, hr, hown, hB⟩ := hrel
    have hlen : pre.length < 9 := by
      have h1 := Wm.encF_le 8 (Wm.zz k)
      have h2 := Wm.encF_pos f r
      unfold Wm.enc at hx
      rw [hx, List.length_append] at h1; omega
    have HX := Lib.hid hx
    have HF := Lib.hid hf
    have HB := Lib.hid hB
    have hsz := hB.size
    clear hx hf hB
    by_cases h : r < 128
    · go_wp2_with (first
        | (at_builtin; refine wpList_append_own _ rfl _ _ 38 rfl w.heap.size 5 i0 (.int .u8 0) 1 1 Tryd.underlying38 hi hz0 hz1 hz2 rfl (by decide) _ _ _ rfl (hown.alloc _) ⟨wr.heap.size, 0, none⟩ 1 1 [.int .u8 r] rfl rfl (cell_one_new _ _ _) (by intro u hu; simp at hu; subst hu; rfl) (by unfold maxLen; omega) (by omega) (by simp; omega) ?_))
      intro v' w1 hown' hgrow _
      obtain ⟨g, cap, rfl⟩ := ownsRow_succ hown'
      have hl := conv_own w1 w.heap.size g cap (pre ++ [UInt8.ofNat r]) (by
        rw [show (pre ++ [UInt8.ofNat r]).length = pre.length + 1 from by simp, List.map_append, List.map_cons, byteV_num r (by omega)]; exact hown')
      rw [show (pre ++ [UInt8.ofNat r]).length = pre.length + 1 from by simp] at hl
      go_wp2
      go_ret2
      refine ⟨?_, (HB.out.alloc hsz _).grown hgrow (by simp; omega) (fun k e => (hown.lt k e).1)⟩
      unfold Wm.encI
      rw [HX.out, encF_last h]
      rfl
    · go_wp2_with (first
        | (at_builtin; refine wpList_append_own _ rfl _ _ 38 rfl w.heap.size 5 i0 (.int .u8 0) 1 1 Tryd.underlying38 hi hz0 hz1 hz2 rfl (by decide) _ _ _ rfl (hown.alloc _) ⟨wr.heap.size, 0, none⟩ 1 1 [.int .u8 ((r : Int) % 128 + 128)] rfl rfl (cell_one_new _ _ _) (by intro u hu; simp at hu; subst hu; rfl) (by unfold maxLen; omega) (by omega) (by simp; omega) ?_))
      intro v' w1 hown' hgrow _
      go_wp2
      refine ⟨⟨pre ++ [UInt8.ofNat (r % 128 + 128)], r / 128, f - 1, by go_num, ?_, ?_, by omega, ?_, (HB.out.alloc hsz _).grown hgrow (by simp; omega) (fun k e => (hown.lt k e).1)⟩, by simp [intOf]; omega⟩
      · obtain ⟨f', rfl, e⟩ := encF_more h HF.out
        rw [HX.out, e.1]; simp
      · obtain ⟨f', rfl, e⟩ := encF_more h HF.out
        exact e.2
      · rw [List.length_append, List.map_append, List.map_cons, byteV_num _ (by omega)]; exact hown'

set_option maxHeartbeats 400000 in
theorem rPutInt_no (k : Int) (w : World) (hk : ¬ Wm.Fits k) :
    Calls Tryd.prog 13 #[.int .i64 k] w fun e w' => e = .returned (.tuple #[.string ByteArray.empty, .int .i64 10]) ∧ w = w' := by
  have hk' : k < -4611686018427387903 ∨ 4611686018427387903 < k := by unfold Wm.Fits at hk; omega
  clear hk
  rcases hk' with h | h
  · go_enter Tryd.func13, Tryd.ntmps13
    go_wp2_with fail
    go_ret2
    exact ⟨rfl, rfl⟩
  · have h' : ¬ k < -4611686018427387903 := by omega
    go_enter Tryd.func13, Tryd.ntmps13
    go_wp2_with fail
    go_ret2
    exact ⟨rfl, rfl⟩
end Go.Proofs.YteenhpfafomeiaaDoor
