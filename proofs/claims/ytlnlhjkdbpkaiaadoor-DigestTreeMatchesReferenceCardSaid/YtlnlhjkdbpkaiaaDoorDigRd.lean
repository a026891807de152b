/- The reference's digests. Condition: the string has at most 4000 bytes. -/
import Derived.Test.YtlnlhjkdbpkaiaaDoorDigRc
namespace Go.Proofs.YtlnlhjkdbpkaiaaDoor
open Go.RowKit

def blk (P : List UInt8) (j : Nat) : List UInt8 := (P.drop (64 * j)).take 64
def blks (P : List UInt8) (j : Nat) : List (List UInt8) := (List.range j).map (blk P)
theorem blks_succ (P : List UInt8) (j : Nat) : blks P (j + 1) = blks P j ++ [blk P j] := by simp [blks, List.range_succ]
theorem blks_flat (P : List UInt8) (j : Nat) : (blks P j).flatten = P.take (64 * j) := by
  induction j with
  | zero => simp [blks]
  | succ j ih => rw [blks_succ, List.flatten_append, ih, show 64 * (j + 1) = 64 * j + 64 by omega, List.take_add]; simp [blk]
theorem blk_len (P : List UInt8) (j : Nat) (h : 64 * j + 64 ≤ P.length) : (blk P j).length = 64 := by simp [blk]; omega
theorem sha_blks (m : List UInt8) (n : Nat) (h : (Ds.pad m).length = 64 * n) : Ds.sha m = Ds.final (Ds.comps (blks (Ds.pad m) n)) :=
  Ds.sha_of (by rw [blks_flat, List.take_of_length_le (by omega)]) (fun x hx => by
    obtain ⟨j, hj, rfl⟩ := List.mem_map.1 hx
    exact blk_len _ _ (by have := List.mem_range.1 hj; omega))
theorem bN_blk (P : List UInt8) (j : Nat) (W : World) (g : Nat) (hj : 64 * j + 64 ≤ P.length) (h : NumsAt W .u8 g 0 (bN P)) : NumsAt W .u8 g (64 * j) (bN (blk P j)) := fun i hi => by
  rw [bN_len, blk_len P j hj] at hi
  have := h (64 * j + i) (by rw [bN_len]; omega)
  rw [Nat.zero_add] at this
  rw [this]
  congr 3
  rw [bN_get, bN_get]
  congr 1
  simp [blk, List.getD, List.getElem?_drop, hi]
theorem elU8 : Tryd.prog.elem 42 = 5 := by kernel_rfl
theorem htU8 : Tryd.prog.underlying 42 = some (.slice (Tryd.prog.elem 42)) := by rw [elU8]; exact Tryd.underlying42
theorem slice_mid (g n c p q : Nat) (hp : p < c) (hq : q = p + 64) (hc : q ≤ c) (W : World) : (Instr.sliceAt 42 (.slice (some ⟨g, 0, none⟩) n c) (some (.int .i64 (p : Int))) (some (.int .i64 (q : Int))) none).run Tryd.prog W = .ok (.slice (some ⟨g, p, none⟩) 64 (c - p)) W := by
  rw [run_sliceAt_slice W _ _ _ _ _ htU8, run_slice_lh W 42 (some ⟨g, 0, none⟩) n c htU8 .i64 .i64 (p : Int) (q : Int) (by omega) (by omega) (by omega), elU8, szU8]
  simp only [Result.andThen, sliced, Int.toNat_natCast]
  rw [if_neg (by omega), show q - p = 64 by omega]
  cases p <;> simp [Addr.add]
theorem final_take (u : Ds.St) (i : Nat) (hi : i < 8) : (bN (Ds.final u)).take (4 * (i + 1)) = (bN (Ds.final u)).take (4 * i) ++ [u.list.getD i 0 / 16777216 % 256, u.list.getD i 0 / 65536 % 256, u.list.getD i 0 / 256 % 256, u.list.getD i 0 % 256] := by
  obtain rfl | rfl | rfl | rfl | rfl | rfl | rfl | rfl : i = 0 ∨ i = 1 ∨ i = 2 ∨ i = 3 ∨ i = 4 ∨ i = 5 ∨ i = 6 ∨ i = 7 := by omega
  all_goals simp [bN, Ds.final, Ds.be4, Ds.St.list]
theorem conv_final (W : World) (base : Nat) (v : Value) (u : Ds.St) (h : OwnI W base 5 .u8 v (bN (Ds.final u))) :
    ∃ g c, v = .slice (some ⟨g, 0, none⟩) 32 c ∧ (convert 42 9 (.slice (some ⟨g, 0, none⟩) 32 c)).run Tryd.prog W = .ok (.string ⟨(Ds.final u).toArray⟩) W := by
  have hl : (bN (Ds.final u)).length = 32 := by rw [bN_len]; rfl
  obtain ⟨g, c, rfl, _, _, _, hn⟩ := h.row (by omega)
  rw [hl]
  refine ⟨g, c, rfl, ?_⟩
  have := run_convert_bytes_arg (P := Tryd.prog) W 42 5 Tryd.underlying42 Tryd.underlying5 g 0 32 c ((bN (Ds.final u)).map fun (n : Nat) => (n : Int)) (by rw [List.length_map, hl]) (fun i hi => by
    have := hn i (by omega)
    rw [this]
    simp [List.getD, show i < (bN (Ds.final u)).length by omega]) 9 Tryd.underlying9
  rw [this, str_final]

set_option maxRecDepth 100000 in
set_option maxHeartbeats 16000000 in
theorem rSum_any (s : ByteArray) (w : World) (hs : s.size ≤ 4000) :
    Calls Tryd.prog 13 #[.string s] w fun e w' => e = .returned (.string (shaB s)) ∧ Below w.heap.size w w' := by
  obtain ⟨P, hP⟩ : ∃ P, P = Ds.pad s.data.toList := ⟨_, rfl⟩
  have hpl := Ds.pad_len s.data.toList
  have hpl2 : P.length ≤ 5000 := by rw [hP]; unfold Ds.pad Ds.be8; simp; omega
  rw [← hP] at hpl
  obtain ⟨nb, hnb⟩ : ∃ n, n = P.length / 64 := ⟨_, rfl⟩
  have hN : P.length = 64 * nb := by omega
  have hpos : 1 ≤ P.length := by rw [hP]; unfold Ds.pad; simp; omega
  have HV : Hid (shaB s = ⟨(Ds.final (Ds.comps (blks P nb))).toArray⟩) := Lib.hid (by unfold shaB; rw [sha_blks _ nb (by rw [← hP]; exact hN), hP])
  have HP := Lib.hid hP
  clear hP hpl hnb
  go_enter Tryd.func13, Tryd.ntmps13
  go_wp2_with fail
  refine (extended_any s _ hs).mono ?_
  rintro e w1 ⟨v, rfl, hv, hB1⟩
  rw [← HP.out] at hv
  obtain ⟨gb, cb, rfl, hcb, _, hgb, hnums⟩ := hv.row (by rw [bN_len]; exact hpos)
  rw [bN_len] at hcb ⊢
  have hz1 : w.heap.size < w1.heap.size := by have := hB1.size; simp at this; omega
  have HB1 := Lib.hid (((Below.refl _ w).alloc (Nat.le_refl _) (.cells (cellsN .u32 Ds.iv.list) 47)).trans (hB1.mono (by simp)))
  have HIV : Hid (NumsAt w1 .u32 w.heap.size 0 Ds.iv.list) := Lib.hid ((nums_new w .u32 47 Ds.iv.list _ rfl).below hB1 (by simp))
  obtain ⟨N, hNN⟩ : ∃ N, N = P.length := ⟨_, rfl⟩
  have HNN := Lib.hid hNN
  have HN := Lib.hid hN
  rw [← hNN] at hcb hpl2 ⊢
  clear hv hB1 hN hNN
  go_wp2_with fail
  go_loopw [3, 5] (fun v c W => ∃ (j g cv : Nat), 64 * j ≤ N ∧ c = .int .i64 ((64 * j : Nat) : Int) ∧ v = .slice (some ⟨g, 0, none⟩) 8 cv ∧ NumsAt W .u32 g 0 (Ds.comps (blks P j)).list ∧ g < W.heap.size ∧ NumsAt W .u8 gb 0 (bN P) ∧ gb < W.heap.size ∧ Below w.heap.size w W) (fun _ c _ => N - (intOf c).toNat)
  case atStart => exact ⟨0, w.heap.size, 8, by omega, rfl, rfl, HIV.out, hz1, hnums, hgb, HB1.out⟩
  case round =>
    obtain ⟨j, g, cv, hj, rfl, rfl, hg1, hg2, hb1, hb2, hB⟩ := hrel
    obtain ⟨p, hp⟩ : ∃ p, p = 64 * j := ⟨_, rfl⟩
    have HPJ := Lib.hid hp
    rw [← hp] at hj ⊢
    by_cases hlt : p < N
    · obtain ⟨q, hq⟩ : ∃ q, q = p + 64 := ⟨_, rfl⟩
      have hqN : q ≤ N := by have := HN.out; have := HNN.out; omega
      have hsl := slice_mid gb N cb p q (by omega) hq (by omega)
      have q1 : (p : Int) + 64 = (q : Int) := by omega
      have q2 : IntKind.i64.wrap (q : Int) = (q : Int) := IntWalk.i64_in _ (by omega)
      have HQ := Lib.hid hq
      have HB := Lib.hid hB
      have hbl : (blk P j).length = 64 := blk_len P j (by have := HNN.out; omega)
      have HBLK := Lib.hid (block_any (Ds.comps (blks P j)) (blk P j) g 0 cv gb (64 * j) (cb - p) wr (Ds.comps_ok _) hbl hg1 (bN_blk P j wr gb (by have := HNN.out; omega) hb1) hg2 hb2)
      have HB1' := Lib.hid hb1
      rw [← hp] at HBLK
      clear hq hp hB hg1 hb1 hbl
      go_wp2_with (go_at_call 39; refine HBLK.out.mono ?_; rintro e w2 ⟨v2, rfl, hv2, hB2⟩)
      obtain ⟨g2, c2, rfl, _, _, hg2', hn2⟩ := hv2.row (by rw [st_len]; decide)
      rw [st_len]
      have HN2 := Lib.hid hn2
      have HB2 := Lib.hid (HB.out.trans (hB2.mono HB.out.size))
      have HB3 := Lib.hid (HB1'.out.below hB2 hb2)
      have hb3 : gb < w2.heap.size := Nat.lt_of_lt_of_le hb2 hB2.size
      clear hv2 hB2 hn2
      go_roundw
      case rel => exact ⟨j + 1, g2, c2, by have := HPJ.out; have := HQ.out; omega, by have := HPJ.out; have := HQ.out; congr 1; omega, rfl, by rw [blks_succ, Ds.comps_snoc]; exact HN2.out, hg2', HB3.out, hb3, HB2.out⟩
      case measure => simp [intOf]; have := HQ.out; omega
    · have hjn : j = nb := by have := HPJ.out; have := HN.out; have := HNN.out; omega
      subst hjn
      obtain ⟨u, hu⟩ : ∃ u, u = Ds.comps (blks P j) := ⟨_, rfl⟩
      have hok : u.Ok := by rw [hu]; exact Ds.comps_ok _
      rw [← hu] at HV hg1
      have HOKU := Lib.hid (st_small hok)
      have HB := Lib.hid hB
      have HX : Hid (∀ i, i < 8 → ∀ W, Below wr.heap.size wr W → W.cell? ⟨g, i, none⟩ = some (.int .u32 ((u.list.getD i 0 : Nat) : Int)) ∧ Below wr.heap.size wr W) := Lib.hid (fun i hi W hW => ⟨(hg1.below hW hg2).at hi, hW⟩)
      have HFT := Lib.hid (final_take u)
      clear hg1 hb1 hB hu hok hp
      obtain ⟨wq, rfl⟩ : ∃ x, x = wr := ⟨_, rfl⟩
      have HRA : Hid (∀ W o, Below wq.heap.size wq W → Below wq.heap.size wq (W.alloc o)) := Lib.hid (fun W o h => h.alloc h.size o)
      go_wp2_with fail
      go_loopw [6, 7] (fun v c W => ∃ i : Nat, i ≤ 8 ∧ c = .int .i64 i ∧ OwnI W wq.heap.size 5 .u8 v ((bN (Ds.final u)).take (4 * i)) ∧ Below wq.heap.size wq W) (fun _ c _ => 8 - (intOf c).toNat)
      case atStart => exact ⟨0, by omega, rfl, OwnI.nil _ _ _ _, Below.refl _ _⟩
      case round =>
        obtain ⟨i, hi, rfl, hO, hB⟩ := hrel
        obtain ⟨wz, rfl⟩ : ∃ x, x = wr := ⟨_, rfl⟩
        have HO4 := Lib.hid hO
        have HB4 := Lib.hid hB
        clear hO hB
        by_cases hi8 : i < 8
        · have HXI := Lib.hid (HX.out i hi8)
          have HZI := Lib.hid (HFT.out i hi8)
          obtain ⟨x, hx⟩ : ∃ x, x = u.list.getD i 0 := ⟨_, rfl⟩
          have hxs : x < 4294967296 := by rw [hx]; exact HOKU.out i
          rw [← hx] at HXI HZI
          obtain ⟨L, hL⟩ : ∃ L, L = (bN (Ds.final u)).take (4 * i) := ⟨_, rfl⟩
          have hll : L.length + [x / 16777216 % 256, x / 65536 % 256, x / 256 % 256, x % 256].length ≤ 1000000 := by rw [hL, List.length_take]; simp; omega
          rw [← hL] at HO4 HZI
          have f0 : IntKind.u8.wrap ((x : Int) / 16777216) = ((x / 16777216 % 256 : Nat) : Int) := by show ((x : Int) / 16777216) % 256 = _; omega
          have f1 : IntKind.u8.wrap ((x : Int) / 65536) = ((x / 65536 % 256 : Nat) : Int) := by show ((x : Int) / 65536) % 256 = _; omega
          have f2 : IntKind.u8.wrap ((x : Int) / 256) = ((x / 256 % 256 : Nat) : Int) := by show ((x : Int) / 256) % 256 = _; omega
          have f3 : IntKind.u8.wrap (x : Int) = ((x % 256 : Nat) : Int) := by show (x : Int) % 256 = _; omega
          have j0 : 0 ≤ (i : Int) := by omega
          have j1 : (i : Int) < 8 := by omega
          have hD : Below wq.heap.size wq wz := HB4.out
          clear hx hL
          go_wp2_with fail
          go_region_held3 (fun w' => w'.cell? ⟨g, i, none⟩ = some (.int .u32 (x : Int)) ∧ Below wq.heap.size wq w') ((refine HXI.out _ ?_; (repeat (first | assumption | exact Below.refl _ _ | (with_reducible refine Below.drew ?_) | (with_reducible refine HRA.out _ _ ?_))); done)) ((refine step_append_nums_from numU8 rfl (.tmp 28) (.tmp 52) rfl wq _ L rfl _ 0 4 4 [x / 16777216 % 256, x / 65536 % 256, x / 256 % 256, x % 256] rfl rfl hll ?_ ?_ ?_ ?_; (focus (first | exact (HO4.out.alloc _).drew | exact HO4.out.alloc _ | exact (HO4.out.drew).alloc _)); (focus (first | (refine (nums_four _ _ _ _ _ _ _ _ _ _ _ ?_ ?_ ?_ ?_).drew <;> first | rfl | omega) | (refine nums_four _ _ _ _ _ _ _ _ _ _ _ ?_ ?_ ?_ ?_ <;> first | rfl | omega))); (focus ((repeat (first | assumption | exact Below.refl _ _ | (with_reducible refine Below.drew ?_) | (with_reducible refine HRA.out _ _ ?_))); done)); intro v7 w7 ho7 hb7))
          all_goals
            have HO7 := Lib.hid ho7
            have HB7 := Lib.hid hb7
            clear ho7 hb7
            go_wp2_with fail
            go_roundw
            case rel => exact ⟨i + 1, by omega, by go_num, by rw [HZI.out]; exact HO7.out, HB7.out⟩
            case measure => simp [intOf]; omega
        · obtain rfl : i = 8 := by omega
          have hof : OwnI wz wq.heap.size 5 .u8 u6 (bN (Ds.final u)) := by
            have h := HO4.out
            rwa [List.take_of_length_le (by rw [bN_len]; exact Nat.le_refl _)] at h
          obtain ⟨gf, cf, rfl, hconv⟩ := conv_final wz _ _ u hof
          clear hof HO4
          go_wp2_with fail
          go_ret
          exact ⟨by rw [HV.out]; rfl, HB.out.trans (HB4.out.mono HB.out.size)⟩
set_option maxHeartbeats 1000000 in
theorem rLeaf_any (s : ByteArray) (w : World) (hs : s.size ≤ 3000) :
    Calls Tryd.prog 15 #[.string s] w fun e w' => e = .returned (.string (Dt.leaf shaB s)) ∧ Below w.heap.size w w' := by
  have H : Hid (∀ W, Calls Tryd.prog 13 #[.string (⟨#[0]⟩ ++ s)] W fun e w' => e = .returned (.string (Dt.leaf shaB s)) ∧ Below W.heap.size W w') := Lib.hid (fun W => rSum_any (Dt.leafS s) W (by unfold Dt.leafS; rw [ByteArray.size_append]; have : (⟨#[0]⟩ : ByteArray).size = 1 := rfl; omega))
  go_enter Tryd.func15, Tryd.ntmps15
  go_wp2_with fail
  refine (H.out _).mono ?_
  rintro e w' ⟨rfl, hB⟩
  go_wp2_with fail
  go_ret
  exact ⟨rfl, hB⟩
set_option maxHeartbeats 1000000 in
theorem rNode_any (a b : ByteArray) (w : World) (hs : a.size + b.size ≤ 3000) :
    Calls Tryd.prog 17 #[.string a, .string b] w fun e w' => e = .returned (.string (Dt.node shaB a b)) ∧ Below w.heap.size w w' := by
  have H : Hid (∀ W, Calls Tryd.prog 13 #[.string (⟨#[1]⟩ ++ a ++ b)] W fun e w' => e = .returned (.string (Dt.node shaB a b)) ∧ Below W.heap.size W w') := Lib.hid (fun W => rSum_any (Dt.nodeS a b) W (by unfold Dt.nodeS; rw [ByteArray.size_append, ByteArray.size_append]; have : (⟨#[1]⟩ : ByteArray).size = 1 := rfl; omega))
  go_enter Tryd.func17, Tryd.ntmps17
  go_wp2_with fail
  refine (H.out _).mono ?_
  rintro e w' ⟨rfl, hB⟩
  go_wp2_with fail
  go_ret
  exact ⟨rfl, hB⟩
set_option maxHeartbeats 1000000 in
theorem rChain_any (a b : ByteArray) (w : World) (hs : a.size + b.size ≤ 3000) :
    Calls Tryd.prog 19 #[.string a, .string b] w fun e w' => e = .returned (.string (Dt.chain shaB a b)) ∧ Below w.heap.size w w' := by
  have H : Hid (∀ W, Calls Tryd.prog 13 #[.string (⟨#[2]⟩ ++ a ++ b)] W fun e w' => e = .returned (.string (Dt.chain shaB a b)) ∧ Below W.heap.size W w') := Lib.hid (fun W => rSum_any (Dt.chainS a b) W (by unfold Dt.chainS; rw [ByteArray.size_append, ByteArray.size_append]; have : (⟨#[2]⟩ : ByteArray).size = 1 := rfl; omega))
  go_enter Tryd.func19, Tryd.ntmps19
  go_wp2_with fail
  refine (H.out _).mono ?_
  rintro e w' ⟨rfl, hB⟩
  go_wp2_with fail
  go_ret
  exact ⟨rfl, hB⟩
end Go.Proofs.YtlnlhjkdbpkaiaaDoor
