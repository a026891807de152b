/- The schedule of a block. Condition: the block has 64 bytes. -/
import Derived.Test.YtlnlhjkdbpkaiaaDoorDigB
import Derived.RegionTactic
import Derived.Deep.QuietTactic
import Derived.BigQuiet
import Derived.BigRegion
import Derived.Deep.RegionWith
namespace Go.Proofs.YtlnlhjkdbpkaiaaDoor
open Go.RowKit

/-- The first j bytes of word i as a number. -/
def pw (b : List UInt8) (i : Nat) : Nat → Nat
  | 0 => 0
  | j + 1 => pw b i j * 256 + (b.getD (4 * i + j) 0).toNat
theorem pw_lt (b : List UInt8) (i j : Nat) (h : j ≤ 4) : pw b i j < 256 ^ j := by
  induction j with
  | zero => simp [pw]
  | succ j ih =>
    have := ih (by omega)
    have h2 := (b.getD (4 * i + j) 0).toNat_lt
    simp only [pw, Nat.pow_succ]; omega
theorem pw_word (b : List UInt8) (i : Nat) : pw b i 4 = Ds.word b (4 * i) := by
  simp only [pw, Ds.word, Nat.add_zero]; omega
theorem pw_small (b : List UInt8) (i j : Nat) (h : j < 4) : pw b i j < 16777216 := by
  have h1 := pw_lt b i j (by omega)
  have h3 : 256 ^ j ≤ 16777216 := by
    have : j = 0 ∨ j = 1 ∨ j = 2 ∨ j = 3 := by omega
    rcases this with rfl | rfl | rfl | rfl <;> decide
  omega
theorem pw_step (b : List UInt8) (i j : Nat) (h : j < 4) : bits .or .u32 ((pw b i j : Nat) * 256 : Int) ((b.getD (4 * i + j) 0).toNat : Int) = ((pw b i (j + 1) : Nat) : Int) := by
  have h1 := pw_small b i j h
  have h2 := (b.getD (4 * i + j) 0).toNat_lt
  rw [show ((pw b i j : Nat) * 256 : Int) = ((pw b i j <<< 8 : Nat) : Int) by rw [Nat.shiftLeft_eq]; omega, u32_or_nat _ _ (by rw [Nat.shiftLeft_eq]; omega) (by omega),
    ← Nat.shiftLeft_add_eq_or_of_lt (by omega : (b.getD (4 * i + j) 0).toNat < 2 ^ 8), Nat.shiftLeft_eq]
  rfl
theorem words_take (b : List UInt8) (i : Nat) (h : i < 16) : (Ds.words b).take (i + 1) = (Ds.words b).take i ++ [Ds.word b (4 * i)] := by
  unfold Ds.words
  rw [List.take_succ_eq_append_getElem (by simpa using h)]
  simp
def bN (b : List UInt8) : List Nat := b.map UInt8.toNat
theorem bN_get (b : List UInt8) (i : Nat) : (bN b).getD i 0 = (b.getD i 0).toNat := by
  unfold bN
  simp only [List.getD, List.getElem?_map]
  cases b[i]? <;> rfl
theorem bN_len (b : List UInt8) : (bN b).length = b.length := by simp [bN]

/-- Between two rounds: the block's copy, the result's cells, the words, and nothing else of what was there has turned. -/
def SchAt (w : World) (b : List UInt8) (l : List Nat) (W : World) : Prop :=
  Row W w.heap.size 62 .u8 (bN b) ∧ Row W (w.heap.size + 1) 70 .u32 (List.replicate 64 0) ∧ Row W (w.heap.size + 1 + 1) 70 .u32 (fill l) ∧ Below w.heap.size w W
theorem SchAt.put {w W : World} {b : List UInt8} {l : List Nat} {x : Nat} (h : SchAt w b (l ++ [x]) W) (v : Nat) : SchAt w b (l ++ [v]) (W.setCell ⟨w.heap.size + 1 + 1, l.length, none⟩ (.int .u32 (v : Int))) := by
  obtain ⟨h1, h2, h3, h4⟩ := h
  refine ⟨h1.other _ (by simp; omega) _, h2.other _ (by simp) _, ?_, h4.setCell (p := ⟨w.heap.size + 1 + 1, l.length, none⟩) (by simp; omega) _⟩
  have := h3.set l.length v
  rw [fill_put] at this
  exact this
theorem SchAt.zero {w W : World} {b : List UInt8} {l : List Nat} (h : SchAt w b l W) (hl : l.length < 64) : SchAt w b (l ++ [0]) W := by
  obtain ⟨h1, h2, h3, h4⟩ := h
  exact ⟨h1, h2, by rw [fill_zero hl]; exact h3, h4⟩
theorem SchAt.drewN {w W : World} {b : List UInt8} {l : List Nat} (h : SchAt w b l W) (q : Nat) : SchAt w b l (W.drewN q) := by
  obtain ⟨h1, h2, h3, h4⟩ := h
  exact ⟨h1.drewN q, h2.drewN q, h3.drewN q, ⟨h4.os, h4.tape, h4.output, h4.size, h4.block⟩⟩
theorem SchAt.drew {w W : World} {b : List UInt8} {l : List Nat} (h : SchAt w b l W) : SchAt w b l W.drew := by
  obtain ⟨h1, h2, h3, h4⟩ := h
  exact ⟨h1, h2, h3, h4.drew⟩

theorem info64w : (Tryd.prog.info? 70).map (·.size) = some 64 := by kernel_rfl
theorem info64 {l : List Nat} (h : l.length = 64) : (Tryd.prog.info? 70).map (·.size) = some (cellsN .u32 l).size := by rw [cellsN_size, h]; exact info64w
theorem below_row {B : Nat} {w : World} {g : Nat} (cs : Array Value) (h : B ≤ g) : Below B w (w.setRow g cs) :=
  ⟨rfl, rfl, rfl, by simp, fun k hk => setRow_other w g k cs (by omega)⟩

set_option maxRecDepth 100000 in
set_option maxHeartbeats 4000000 in
theorem schedule_any (b : List UInt8) (w : World) (hb : b.length = 64) :
    Calls Tryd.prog 54 #[.agg (cellsN .u8 (bN b))] w fun e w' => e = .returned (.agg (cellsN .u32 (Ds.sched b))) ∧ Below w.heap.size w w' := by
  go_enter Tryd.func54, Tryd.ntmps54
  go_wp2
  go_loopw [9] (fun c wr => ∃ i : Nat, i ≤ 16 ∧ c = .int .i64 i ∧ SchAt w b ((Ds.words b).take i) wr) (fun c _ => 16 - (intOf c).toNat)
  case atStart =>
    refine ⟨0, by omega, rfl, ?_, ?_, ?_, ?_⟩
    · exact ((Row.new w _ .u8 (bN b)).alloc _).alloc _
    · exact (Row.new' _ _ .u32 (List.replicate 64 0) (by simp) rfl).alloc _
    · exact Row.new' _ _ .u32 (List.replicate 64 0) (by simp) rfl
    · exact (((Below.refl _ w).alloc (Nat.le_refl _) _).alloc (by simp) _).alloc (by simp; omega) _
  case round =>
    obtain ⟨i, hi, rfl, hA⟩ := hrel
    by_cases hlt : i < 16
    · have HA := Lib.hid hA
      clear hA
      go_wp2
      obtain ⟨wo, rfl⟩ : ∃ wo : World, wo = wr := ⟨_, rfl⟩
      go_loopw [5, 12] (fun _ c wr => ∃ j : Nat, j ≤ 4 ∧ c = .int .i64 j ∧ SchAt w b ((Ds.words b).take i ++ [pw b i j]) wr) (fun _ c _ => 4 - (intOf c).toNat)
      case atStart =>
        refine ⟨0, by omega, rfl, HA.out.1, HA.out.2.1, ?_, HA.out.2.2.2⟩
        rw [show pw b i 0 = 0 from rfl, fill_zero (by simp [Ds.words]; omega)]
        exact HA.out.2.2.1
      case round =>
        obtain ⟨j, hj, rfl, hA2⟩ := hrel
        have hlen : ((Ds.words b).take i).length = i := by simp [Ds.words]; omega
        by_cases hj4 : j < 4
        · have c1 := hA2.2.2.1.cell (j := i) (by rw [fill_len (by simp; omega)]; omega)
          have f1 := hA2.2.2.1.frozen i
          rw [fill_get, show ((Ds.words b).take i ++ [pw b i j]).getD i 0 = pw b i j by simp [List.getD, hlen]] at c1
          have c2 := hA2.1.cell (j := 4 * i + j) (by rw [bN_len]; omega)
          rw [bN_get] at c2
          have hst := pw_step b i j hj4
          obtain ⟨y, hy⟩ : ∃ y, y = (b.getD (4 * i + j) 0).toNat := ⟨_, rfl⟩
          obtain ⟨x, hx⟩ : ∃ x, x = pw b i j := ⟨_, rfl⟩
          have hxl : x < 16777216 := by rw [hx]; exact pw_small b i j hj4
          have hyl : y < 256 := by rw [hy]; exact (b.getD (4 * i + j) 0).toNat_lt
          rw [← hy, ← hx] at hst
          rw [← hy] at c2
          rw [← hx] at c1
          have HL := Lib.hid hlen
          have HA2 := Lib.hid hA2
          have HV := Lib.hid hst
          clear hA2 hlen hst hx hy
          go_wp2
          go_region
          go_wp2
          go_roundw
          case rel => exact ⟨j + 1, by omega, by go_num, by
            have h := HA2.out.put (pw b i (j + 1))
            rw [HL.out] at h
            rw [HV.out]
            exact h.drew⟩
          case measure => simp [intOf]; omega
        · obtain rfl : j = 4 := by omega
          have HL := Lib.hid hlen
          have HA2 := Lib.hid hA2
          clear hA2 hlen
          go_wp2
          go_roundw
          case rel => exact ⟨i + 1, by omega, by go_num, by rw [words_take b i hlt, ← pw_word]; exact HA2.out⟩
          case measure => simp [intOf]; omega
    · obtain rfl : i = 16 := by omega
      have hA' : SchAt w b (Ds.words b) wr := by rw [List.take_of_length_le (by simp [Ds.words])] at hA; exact hA
      have HA := Lib.hid hA'
      clear hA hA'
      go_wp2
      obtain ⟨wo, rfl⟩ : ∃ wo : World, wo = wr := ⟨_, rfl⟩
      go_loopw [6] (fun c wr => ∃ i : Nat, 16 ≤ i ∧ i ≤ 64 ∧ c = .int .i64 i ∧ SchAt w b (Ds.extK (Ds.words b) (i - 16)) wr) (fun c _ => 64 - (intOf c).toNat)
      case atStart => exact ⟨16, by omega, by omega, rfl, HA.out⟩
      case round =>
        obtain ⟨i, hi1, hi2, rfl, hA⟩ := hrel
        have hll : (Ds.extK (Ds.words b) (i - 16)).length = i := by rw [Ds.extK_len, Ds.words_len]; omega
        by_cases hlt : i < 64
        · obtain ⟨l, hl⟩ : ∃ l, l = Ds.extK (Ds.words b) (i - 16) := ⟨_, rfl⟩
          have hsm : Ds.Small l := by rw [hl]; exact Ds.extK_small (Ds.words_small b) _
          rw [← hl] at hA hll
          have gets : ∀ j, j < i → wr.cell? ⟨w.heap.size + 1 + 1, j, none⟩ = some (.int .u32 ((l.getD j 0 : Nat) : Int)) := fun j hj => by
            have := hA.2.2.1.cell (j := j) (by rw [fill_len (by omega)]; omega)
            rw [fill_get] at this
            exact this
          obtain ⟨p15, hp15⟩ : ∃ p, p = i - 15 := ⟨_, rfl⟩
          obtain ⟨p2, hp2⟩ : ∃ p, p = i - 2 := ⟨_, rfl⟩
          obtain ⟨p16, hp16⟩ : ∃ p, p = i - 16 := ⟨_, rfl⟩
          obtain ⟨p7, hp7⟩ : ∃ p, p = i - 7 := ⟨_, rfl⟩
          have HN : Hid (Ds.nextW l = (((l.getD p16 0 + Ds.sig0 (l.getD p15 0)) % 4294967296 + l.getD p7 0) % 4294967296 + Ds.sig1 (l.getD p2 0)) % 4294967296) := Lib.hid (by
            unfold Ds.nextW; rw [hll, hp15, hp2, hp16, hp7])
          obtain ⟨x15, e15⟩ : ∃ x, x = l.getD p15 0 := ⟨_, rfl⟩
          obtain ⟨x2, e2⟩ : ∃ x, x = l.getD p2 0 := ⟨_, rfl⟩
          obtain ⟨x16, e16⟩ : ∃ x, x = l.getD p16 0 := ⟨_, rfl⟩
          obtain ⟨x7, e7⟩ : ∃ x, x = l.getD p7 0 := ⟨_, rfl⟩
          have c15 := gets p15 (by omega)
          have c2 := gets p2 (by omega)
          have c16 := gets p16 (by omega)
          have c7 := gets p7 (by omega)
          rw [← e15] at c15
          rw [← e2] at c2
          rw [← e16] at c16
          rw [← e7] at c7
          have b15 : x15 < 4294967296 := by rw [e15]; exact hsm _
          have b2 : x2 < 4294967296 := by rw [e2]; exact hsm _
          have b16 : x16 < 4294967296 := by rw [e16]; exact hsm _
          have b7 : x7 < 4294967296 := by rw [e7]; exact hsm _
          have q15 : (i : Int) - 15 = (p15 : Int) := by omega
          have q2 : (i : Int) - 2 = (p2 : Int) := by omega
          have q16 : (i : Int) - 16 = (p16 : Int) := by omega
          have q7 : (i : Int) - 7 = (p7 : Int) := by omega
          have w15 : IntKind.i64.wrap (p15 : Int) = (p15 : Int) := IntWalk.i64_in _ (by omega)
          have w2 : IntKind.i64.wrap (p2 : Int) = (p2 : Int) := IntWalk.i64_in _ (by omega)
          have l15 : (p15 : Int) < 64 := by omega
          have l2 : (p2 : Int) < 64 := by omega
          have n15 : 0 ≤ (p15 : Int) := by omega
          have n2 : 0 ≤ (p2 : Int) := by omega
          have l16 : p16 < 64 := by omega
          have l7 : p7 < 64 := by omega
          have HM := Lib.hid (show Ds.extK (Ds.words b) (i + 1 - 16) = l ++ [Ds.nextW l] by rw [show i + 1 - 16 = (i - 16) + 1 by omega, Ds.extK, ← hl])
          rw [← e15, ← e2, ← e16, ← e7] at HN
          obtain ⟨s0, hs0⟩ : ∃ s, Ds.sig0 x15 = s := ⟨_, rfl⟩
          obtain ⟨s1, hs1⟩ : ∃ s, Ds.sig1 x2 = s := ⟨_, rfl⟩
          have r0 := sig0_raw b15 hs0
          have r1 := sig1_raw b2 hs1
          rw [hs0, hs1] at HN
          have HA2 := Lib.hid hA
          have HL := Lib.hid hll
          have f1 := hA.2.2.1.frozen i
          have HZ : Hid (∃ x, wr.cell? ⟨w.heap.size + 1 + 1, i, none⟩ = some (.int .u32 ((x : Nat) : Int))) := Lib.hid ⟨_, hA.2.2.1.cell (j := i) (by rw [fill_len (by omega)]; omega)⟩
          obtain ⟨z, cz⟩ := HZ.out
          clear HZ hA hll gets hsm hl e15 e2 e16 e7 hs0 hs1 hp15 hp2 hp16 hp7
          go_wp2
          go_quiet ((go_at_call 55; exact Calls.quiet_of_same (right_int x15 _ _ b15 (by decide) (by decide))))
          go_wp2
          go_quiet ((go_at_call 55; exact quiet2 (right_int x2 _ _ b2 (by decide) (by decide))))
          go_wp2
          go_region
          go_wp2
          go_roundw
          case rel => exact ⟨i + 1, by omega, by omega, by go_num, by
            rw [HM.out]
            have h := (HA2.out.zero (by rw [HL.out]; omega)).put (Ds.nextW l)
            rw [HL.out] at h
            rw [show (((x16 : Int) + s0 + x7 + s1) % 4294967296) = (Ds.nextW l : Nat) by rw [HN.out]; omega]
            exact (h.drewN _)⟩
          case measure => simp [intOf]; omega
        · obtain rfl : i = 64 := by omega
          have hg1 : wr.heap[w.heap.size + 1 + 1]? = some (.cells (cellsN .u32 (Ds.sched b)) 70 (0, 0)) := by
            have := hA.2.2.1
            rw [fill_full (by rw [hll])] at this
            exact this
          have hg2 := hA.2.1
          have HB := Lib.hid hA.2.2.2
          have HG2 := Lib.hid hg2
          have HG1 := Lib.hid hg1
          clear hA hg2 hll hg1
          go_wp2_with (first | (refine wpList_load_row rfl 70 _ rfl (w.heap.size + 1 + 1) rfl 70 (cellsN .u32 (Ds.sched b)) (0, 0) _ HG1.out Tryd.underlying70 rfl (info64 (Ds.sched_len b)) ?_) | (refine wpList_store_row rfl 70 _ _ rfl (w.heap.size + 1) (cellsN .u32 (Ds.sched b)) rfl rfl 70 _ HG2.out (info64 (Ds.sched_len b)) (by rw [cellsN_size, cellsN_size, Ds.sched_len, List.length_replicate]) (cellsN_one _ _) ?_))
          refine bodyPost_ret (results_cell_row rfl _ _ (w.heap.size + 1) 70 (cellsN .u32 (Ds.sched b)) (0, 0) _ rfl (setRow_heap _ _ _ _ _ _ HG2.out) Tryd.underlying70 rfl (info64 (Ds.sched_len b))) rfl ?_
          exact ⟨rfl, HB.out.trans (below_row _ (by omega))⟩
end Go.Proofs.YtlnlhjkdbpkaiaaDoor
