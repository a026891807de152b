/- The iterator groups yields the groups of its number, and PutInt returns the encoding of an integer, or the error for one beyond the limits. Conditions: none but that the argument is in or out of the limits. -/
import Derived.RangeFuncNested
import Derived.RangeFuncBound
import Derived.RangeFuncCalls
import Derived.RangeFuncLeaves
import Derived.Shelf.Abstract
import Derived.Shelf.RegionOpen
import Derived.WalkKit
import Derived.OwnWalkIn
import Derived.TacticsInMore
import Derived.LoopNIn
import Derived.LoopIn
import Derived.Test.YteenhpfafomeiaaDoorWireA
namespace Go.Proofs.YteenhpfafomeiaaDoor
open Go.RowKit Go.Shelf
attribute [local go_sem] Oper.semAt_some

abbrev gencs (p : Wm.GB) : Array Value := #[.int .u8 p.1.1, .bool p.1.2]

set_option maxRecDepth 100000 in
set_option maxHeartbeats 1000000 in
theorem groups_stops (F : Fence) (n : Nat) (h29 : F.fn 29) (hro : F.round = none) (hn : 1 ≤ n) (Bz z : Nat) (hz : z < 9223372036854775808) (w : World) (hlt : Bz < w.heap.size) (hB : w.cell? ⟨Bz, 0, none⟩ = some (.int .u64 z)) :
    SeqStopsA F n Tryd.prog 29 #[.pointer (some ⟨Bz, 0, none⟩)] gencs (fun xs => xs = Wm.grpF 8 z) (fun _ => True) 9 w := fun l J Jx W hW hJ hJx hY h0 => by
  have hBW : W.cell? ⟨Bz, 0, none⟩ = some (.int .u64 z) := (hW.cell (p := ⟨Bz, 0, none⟩) hlt).trans hB
  clear hB hW
  refine callsIn_of_wp Tryd.func29 rfl h29 ?_ hro
  simp only [Tryd.ntmps29, List.size_toArray, List.length_cons, List.length_nil, Nat.reduceAdd, Nat.reduceSub, Array.replicate_succ, Array.replicate_zero, List.push_toArray, List.append_toArray, List.nil_append, List.cons_append]
  gi_wp2
  gi_loopw [3] (fun p wr => ∃ (pre : List Wm.GB) (r f : Nat), p = .int .u64 r ∧ Wm.grpF 8 z = pre ++ Wm.grpF f r ∧ r < 128 ^ (f + 1) ∧ r < 9223372036854775808 ∧ J pre wr)
    (fun p wr => (intOf p).toNat)
  case atStart =>
    exact ⟨[], z, 8, rfl, rfl, by omega, hz, h0⟩
  case round =>
    obtain ⟨pre, r, f, rfl, hx, hf, hr, hJs⟩ := hrel
    have hlen : pre.length < 9 := by
      have h1 := Wm.grpF_le 8 z
      have h2 := Wm.grpF_pos f r
      rw [hx, List.length_append] at h1; omega
    have HX := Lib.hid hx
    clear hx hBW
    by_cases h : r < 128
    · have HL := Lib.hid (Wm.grpF_last (f := f) h)
      obtain ⟨fn, tmps, assign, body, hy, hR⟩ := hY pre ⟨(r, true), h⟩ wr hJs hlen
      dsimp only [gencs] at hy
      gi_wp2
      refine hR.mono ?_
      rintro e W3 (⟨rfl, hJ3, hk3⟩ | ⟨rfl, hJx3⟩)
      · gi_wp2
        go_end0
        exact ⟨⟨_, rfl⟩, .inl ⟨_, by rw [HX.out, HL.out], hJ3⟩⟩
      · gi_wp2
        go_end0
        exact ⟨⟨_, rfl⟩, .inr ⟨_, trivial, hJx3⟩⟩
    · obtain ⟨f', hf1, hg, hlt'⟩ := Wm.grpF_more h hf
      obtain ⟨fn, tmps, assign, body, hy, hR⟩ := hY pre ⟨(r % 128, false), Nat.mod_lt _ (by decide)⟩ wr hJs hlen
      dsimp only [gencs] at hy
      rw [show ((r % 128 : Nat) : Int) = (r : Int) % 128 from by omega] at hy
      have HG := Lib.hid hg
      have HF := Lib.hid hf1
      clear hg hf1
      gi_wp2
      refine hR.mono ?_
      rintro e W3 (⟨rfl, hJ3, hk3⟩ | ⟨rfl, hJx3⟩)
      · gi_wp2
        go_roundw
        case rel => exact ⟨pre ++ [⟨(r % 128, false), Nat.mod_lt _ (by decide)⟩], r / 128, f', by go_num, by rw [HX.out, HG.out]; simp, hlt', by omega, hJ3⟩
        case measure => simp [intOf]; omega
      · gi_wp2
        refine bodyPost_ret (results_none rfl _ _ _) rfl ?_
        exact ⟨⟨_, rfl⟩, .inr ⟨_, trivial, hJx3⟩⟩

set_option maxHeartbeats 400000 in
theorem groups_any (z : Nat) (w : World) :
    Calls Tryd.prog 23 #[.int .u64 z] w fun e w' => e = .returned (.func (.func 29) #[] #[.pointer (some ⟨w.heap.size, 0, none⟩)]) ∧ w.alloc (.cells #[.int .u64 z] 50) = w' := by
  have hmf : ∀ (fn : Fn) (first cap : Array Value) (w : World), (Instr.makeFunc fn first cap).run Tryd.prog w = .ok (.func fn first cap) w := fun _ _ _ _ => rfl
  go_enter Tryd.func23, Tryd.ntmps23
  go_wp2
  go_ret
  exact ⟨rfl, rfl⟩

/-- The cells of the array from block B on hold what has come. -/
def EncIs (W : World) (B : Nat) (pre : List Wm.GB) : Prop := ∀ j, j < 9 → W.cell? ⟨B, j, none⟩ = some (.int .u8 (((pre.map Wm.outN).getD j 0 : Nat) : Int)) ∧ W.frozen? ⟨B, j, none⟩ = false

theorem encIs_kept {W W' : World} {row : Option Nat} {B : Nat} {pre : List Wm.GB} (h : EncIs W B pre) (hg : W.grownBy W' row) (hrow : ∀ r, row = some r → ∃ o : Obj, W.heap[r]? = some o ∧ o.isCells = false) : EncIs W' B pre := fun j hj =>
  ⟨cell_kept (h j hj).1 hg hrow, (frozen_kept (h j hj).1 hg hrow).trans (h j hj).2⟩
theorem encIs_own (B : Nat) : Own (fun (pre : List Wm.GB) W => EncIs W B pre) := fun _ _ _ _ hs hg hr => encIs_kept hs hg hr
theorem encIs_step {W : World} {B B1 : Nat} {pre : List Wm.GB} (h : EncIs W B pre) (hne : B ≠ B1) (x : Wm.GB) (v u : Value) (hv : v = .int .u8 (Wm.outN x : Nat)) :
    EncIs ((W.setCell ⟨B, pre.length, none⟩ v).setCell ⟨B1, 0, none⟩ u) B (pre ++ [x]) := fun j hj => by
  obtain ⟨hc, hf⟩ := h j hj
  refine ⟨?_, by rw [World.frozen?_setCell, World.frozen?_setCell]; exact hf⟩
  have n1 : (⟨B1, 0, none⟩ : Addr) ≠ ⟨B, j, none⟩ := fun e => by injection e with e1; exact hne e1.symm
  rw [World.cell?_setCell_other (h := n1)]
  by_cases e : j = pre.length
  · subst e
    rw [World.cell?_setCell_same (h := hc), hv]
    simp
  · have n2 : (⟨B, pre.length, none⟩ : Addr) ≠ ⟨B, j, none⟩ := fun e' => by injection e' with e1 e2; exact e e2.symm
    rw [World.cell?_setCell_other (h := n2), hc]
    simp only [List.map_append, List.getD, List.getElem?_append, List.length_map]
    congr 3
    split
    · rfl
    · rw [List.getElem?_eq_none (by simp; omega), List.getElem?_eq_none (by simp; omega)]

theorem al9 : Tryd.prog.arrayLen 46 = 9 := by kernel_rfl
theorem el9 : Tryd.prog.elem 46 = 5 := by kernel_rfl
theorem sz8 (W : World) : (sizeOf 5).run Tryd.prog W = .ok 1 W := by kernel_rfl
/-- The first bytes of the array. -/
theorem slice9 (W : World) (b n : Nat) (h : n ≤ 9) : (Instr.sliceAt 46 (.pointer (some ⟨b, 0, none⟩)) none (some (.int .i64 (n : Int))) none).run Tryd.prog W = .ok (.slice (some ⟨b, 0, none⟩) n 9) W := by
  have ht : Tryd.prog.underlying 46 = some (.array (Tryd.prog.arrayLen 46) (Tryd.prog.elem 46)) := by rw [al9, el9]; exact Tryd.underlying46
  rw [run_sliceAt_array_h W _ _ ht .i64 (n : Int) (by omega) (by rw [al9]; omega), el9, sz8]
  simp [Result.andThen, slicedAt, al9, Addr.add]

/-- What holds between two rounds of PutInt's loop. -/
def PutI (w : World) (pre : List Wm.GB) (W : World) : Prop := ((W.cell? ⟨w.heap.size + 1, 0, none⟩ = some (.int .i64 (pre.length : Int)) ∧ W.frozen? ⟨w.heap.size + 1, 0, none⟩ = false) ∧ EncIs W w.heap.size pre) ∧ Below w.heap.size w W
theorem putI_step {w W : World} {pre : List Wm.GB} {x : Wm.GB} {v : Value} (h : PutI w pre W) (hv : v = .int .u8 (Wm.outN x : Nat)) :
    KeepsOthers W ((W.setCell ⟨w.heap.size, pre.length, none⟩ v).setCell ⟨w.heap.size + 1, 0, none⟩ (.int .i64 ((pre.length : Int) + 1))) ∧ KeepsWalks W ((W.setCell ⟨w.heap.size, pre.length, none⟩ v).setCell ⟨w.heap.size + 1, 0, none⟩ (.int .i64 ((pre.length : Int) + 1))) ∧
    PutI w (pre ++ [x]) ((W.setCell ⟨w.heap.size, pre.length, none⟩ v).setCell ⟨w.heap.size + 1, 0, none⟩ (.int .i64 ((pre.length : Int) + 1))) := by
  obtain ⟨⟨⟨hc, hf⟩, hE⟩, hB⟩ := h
  have hk : KeepsOthers W ((W.setCell ⟨w.heap.size, pre.length, none⟩ v).setCell ⟨w.heap.size + 1, 0, none⟩ (.int .i64 ((pre.length : Int) + 1))) := (KeepsOthers.setCell _ _ _).trans (KeepsOthers.setCell _ _ _)
  refine ⟨hk, hk.walks, ⟨⟨?_, by rw [World.frozen?_setCell, World.frozen?_setCell]; exact hf⟩, encIs_step hE (by omega) x v _ hv⟩, (hB.setCell (p := ⟨w.heap.size, pre.length, none⟩) (Nat.le_refl _) _).setCell (p := ⟨w.heap.size + 1, 0, none⟩) (by simp) _⟩
  have n1 : (⟨w.heap.size, pre.length, none⟩ : Addr) ≠ ⟨w.heap.size + 1, 0, none⟩ := fun e => by injection e with e1; omega
  have hc' := World.cell?_setCell_same (w := W.setCell ⟨w.heap.size, pre.length, none⟩ v) (v := .int .i64 ((pre.length : Int) + 1)) ⟨w.heap.size + 1, 0, none⟩ (h := (World.cell?_setCell_other W _ _ v n1).trans hc)
  rw [hc']; simp

theorem strOfNums_enc (k : Int) (h1 : -4611686018427387903 ≤ k) (h2 : k ≤ 4611686018427387903) : strOfNums ((Wm.grpF 8 (Wm.zz k)).map ((fun (n : Nat) => (n : Int)) ∘ Wm.outN)) = ⟨(Wm.encI k).toArray⟩ := by
  have hz := Wm.zz_lt k h1 h2
  unfold strOfNums Wm.encI Wm.enc
  rw [Wm.encF_grp 8 _ (by omega), List.map_map]
  rfl

set_option maxRecDepth 100000 in
set_option maxHeartbeats 2000000 in
theorem putInt_ok (k : Int) (w : World) (hk : Wm.Fits k) :
    Calls Tryd.prog 12 #[.int .i64 k] w fun e w' => e = .returned (.tuple #[.string ⟨(Wm.encI k).toArray⟩, .int .i64 0]) ∧ Below w.heap.size w w' := by
  obtain ⟨hk1, hk2⟩ := hk
  refine (callsIn_wide (n := 6)).1 ?_
  refine callsIn_of_wp_marks Tryd.func12 rfl trivial ?_ rfl
  simp only [Tryd.ntmps12, List.size_toArray, List.length_cons, List.length_nil, Nat.reduceAdd, Nat.reduceSub, Array.replicate_succ, Array.replicate_zero, List.push_toArray, List.append_toArray, List.nil_append, List.cons_append]
  gi_wp2_with (first | (refine ⟨trivial, ?_⟩; gi_at_call 24; refine (callsIn_wide.2 (fold_any _ _ hk1 hk2)).mono ?_; rintro e w' ⟨rfl, rfl⟩) | (refine ⟨trivial, ?_⟩; gi_at_call 23; refine (callsIn_wide.2 (groups_any _ _)).mono ?_; rintro e w' ⟨rfl, rfl⟩))
  have hb := (Boxed.new ((w.alloc (.cells #[.int .u8 0, .int .u8 0, .int .u8 0, .int .u8 0, .int .u8 0, .int .u8 0, .int .u8 0, .int .u8 0, .int .u8 0] 46)).alloc (.cells #[.int .i64 0] 3)) 50 (.int .u64 (Wm.zz k))).cell
  simp only [World.size_alloc] at hb
  have hz := Wm.zz_lt k hk1 hk2
  have hB0 : Below w.heap.size w (((w.alloc (.cells #[.int .u8 0, .int .u8 0, .int .u8 0, .int .u8 0, .int .u8 0, .int .u8 0, .int .u8 0, .int .u8 0, .int .u8 0] 46)).alloc (.cells #[.int .i64 0] 3)).alloc (.cells #[.int .u64 (Wm.zz k)] 50)) :=
    (((Below.refl _ w).alloc (Nat.le_refl _) _).alloc (by simp) _).alloc (by simp; omega) _
  refine wpIn_rangeFunc_ownF rfl (by decide) (gf := 29) (lb := #[.pointer (some ⟨w.heap.size + 1 + 1, 0, none⟩)]) rfl trivial (enters_of Tryd.func29 (by kernel_rfl) rfl)
    (seqStopsA_iff.1 (groups_stops Fence.wide (6 - 1) trivial rfl (by decide) (w.heap.size + 1 + 1) (Wm.zz k) (by omega) _ (by simp) hb)) walksK_t walksK_b (Below.refl _ _) (fun _ => rfl)
    (fun pre W => PutI w pre W)
    (fun _ _ _ => False)
    (OwnFrom.and (OwnFrom.and (Own.from (fun s A B row hs hg hr => ⟨cell_kept hs.1 hg hr, (frozen_kept hs.1 hg hr).trans hs.2⟩) _) (Own.from (encIs_own _) _)) (ownFrom_below (Nat.le_refl _) (by simp; omega)))
    (fun _ _ _ _ _ hs _ _ => hs)
    ?start
    (fun x => { tmps := #[.int .i64 k, undef, .string { data := #[] }, .int .i64 0, .pointer (some ⟨w.heap.size, 0, none⟩), .pointer (some ⟨w.heap.size + 1, 0, none⟩), .int .u8 x.1.1, .bool x.1.2, .int .i64 k, .bool (decide (k < -4611686018427387903)), .bool (decide (k < -4611686018427387903)), .int .i64 k, .bool (decide (4611686018427387903 < k)), .bool (decide (k < -4611686018427387903) || decide (4611686018427387903 < k)), .int .i64 k, .int .u64 (Wm.zz k), .func (.func 29) #[] #[.pointer (some ⟨w.heap.size + 1 + 1, 0, none⟩)], .int .u8 x.1.1, .bool x.1.2, undef, undef, undef, undef, undef, undef, undef, undef, undef, undef, undef, undef], defers := [] }) ?assign ?body ?done ?stop
  case start =>
    refine ⟨⟨⟨?_, ?_⟩, fun j hj => ?_⟩, hB0⟩
    · go_simp
    · go_simp
    · obtain rfl | rfl | rfl | rfl | rfl | rfl | rfl | rfl | rfl : j = 0 ∨ j = 1 ∨ j = 2 ∨ j = 3 ∨ j = 4 ∨ j = 5 ∨ j = 6 ∨ j = 7 ∨ j = 8 := by omega
      all_goals exact ⟨by go_simp, by go_simp⟩
  case assign =>
    intro l x W K hK
    gi_wp2
    exact hK
  case body =>
    rintro l pre ⟨⟨x, b⟩, hx⟩ W hP hl
    have hc := hP.1.1.1
    have hf := hP.1.1.2
    have hE1 := (hP.1.2 pre.length hl).1
    have hE2 := (hP.1.2 pre.length hl).2
    have HP := Lib.hid hP
    clear hP
    cases b
    · gi_wp2
      exact putI_step HP.out (by simp [Wm.outN])
    · gi_wp2
      exact putI_step HP.out (by simp [Wm.outN])
  case done =>
    rintro D ys W hD hys hP hK
    have hlen : ys.length ≤ 9 := by rw [hys]; exact Wm.grpF_le 8 _
    have hcv := fun (cap : Nat) => run_convert_bytes_arg (P := Tryd.prog) W 38 5 Tryd.underlying38 Tryd.underlying5 w.heap.size 0 ys.length cap ((ys.map Wm.outN).map fun (n : Nat) => (n : Int)) (by simp) (fun i hi => by
      rw [Nat.zero_add, (hP.1.2 i (by omega)).1]
      simp [List.getD, List.getElem?_eq_getElem hi]) 9 Tryd.underlying9
    have hsl := slice9 W w.heap.size ys.length hlen
    have hc := hP.1.1.1
    have HP := Lib.hid hP
    have HY := Lib.hid hys
    have HD := Lib.hid hD
    have HK := Lib.hid hK
    clear hP hys hD hK
    gi_wp2
    refine ⟨by simp, .inl ⟨_, _, rfl, run_takeDeferred HK.out, ?_⟩⟩
    refine ⟨_, results_tmp2 rfl _ _ _, ?_, HP.out.2.trans (belowK_b (w := w) (Nat.le_refl _) W D _ _ (by have := HD.out; simp at this; omega) HK.out rfl rfl)⟩
    rw [← strOfNums_enc k hk1 hk2, HY.out]
    rfl
  case stop =>
    rintro D c pre W _ _ h _
    exact h.elim

set_option maxHeartbeats 400000 in
theorem putInt_no (k : Int) (w : World) (hk : ¬ Wm.Fits k) :
    Calls Tryd.prog 12 #[.int .i64 k] w fun e w' => e = .returned (.tuple #[.string ByteArray.empty, .int .i64 10]) ∧ w = w' := by
  have hk' : k < -4611686018427387903 ∨ 4611686018427387903 < k := by unfold Wm.Fits at hk; omega
  clear hk
  rcases hk' with h | h
  · go_enter Tryd.func12, Tryd.ntmps12
    go_wp2_with fail
    go_ret2
    exact ⟨rfl, rfl⟩
  · have h' : ¬ k < -4611686018427387903 := by omega
    go_enter Tryd.func12, Tryd.ntmps12
    go_wp2_with fail
    go_ret2
    exact ⟨rfl, rfl⟩
end Go.Proofs.YteenhpfafomeiaaDoor
