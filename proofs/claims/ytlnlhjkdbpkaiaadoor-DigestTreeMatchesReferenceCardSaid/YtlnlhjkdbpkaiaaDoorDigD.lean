/- The words after a block. Conditions: the block has 64 bytes, the words fit, and the table digest.constants holds its 64 numbers. -/
import Derived.Test.YtlnlhjkdbpkaiaaDoorDigC
namespace Go.Proofs.YtlnlhjkdbpkaiaaDoor
open Go.RowKit

/-- The table holds its 64 numbers. -/
def TabK (w : World) : Prop := ∀ i, i < 64 → w.cell? ⟨1, i, none⟩ = some (.int .u32 ((Ds.kTab.getD i 0 : Nat) : Int))
theorem TabK.below {B : Nat} {w w' : World} (h : TabK w) (hb : Below B w w') (hB : 1 < B) : TabK w' := fun i hi => (hb.cell (p := ⟨1, i, none⟩) hB).trans (h i hi)

theorem big0_raw {x s : Nat} (hx : x < 4294967296) (h : Ds.big0 x = s) : bits .xor .u32 (bits .xor .u32 (Ds.rotr x 2 : Int) (Ds.rotr x 13 : Int)) (Ds.rotr x 22 : Int) = (s : Int) :=
  xor3 (Ds.rotr_lt _ hx) (Ds.rotr_lt _ hx) (Ds.rotr_lt _ hx) h
theorem big1_raw {x s : Nat} (hx : x < 4294967296) (h : Ds.big1 x = s) : bits .xor .u32 (bits .xor .u32 (Ds.rotr x 6 : Int) (Ds.rotr x 11 : Int)) (Ds.rotr x 25 : Int) = (s : Int) :=
  xor3 (Ds.rotr_lt _ hx) (Ds.rotr_lt _ hx) (Ds.rotr_lt _ hx) h
theorem chs_raw {e f g s : Nat} (he : e < 4294967296) (hf : f < 4294967296) (hg : g < 4294967296) (h : Ds.chs e f g = s) : bits .xor .u32 (bits .and .u32 (e : Int) (f : Int)) (bits .and .u32 (bits .xor .u32 4294967295 (e : Int)) (g : Int)) = (s : Int) := by
  have h1 : (4294967295 ^^^ e) < 4294967296 := Ds.xor_lt (by decide) he
  rw [show (4294967295 : Int) = ((4294967295 : Nat) : Int) from rfl, u32_xor_nat 4294967295 e (by decide) he, u32_and_nat _ _ he hf, u32_and_nat _ _ h1 hg, u32_xor_nat _ _ (Ds.and_lt he) (Ds.and_lt h1), ← h]; rfl
theorem maj_raw {a b c s : Nat} (ha : a < 4294967296) (hb : b < 4294967296) (hc : c < 4294967296) (h : Ds.maj a b c = s) : bits .xor .u32 (bits .xor .u32 (bits .and .u32 (a : Int) (b : Int)) (bits .and .u32 (a : Int) (c : Int))) (bits .and .u32 (b : Int) (c : Int)) = (s : Int) := by
  rw [u32_and_nat _ _ ha hb, u32_and_nat _ _ ha hc, u32_and_nat _ _ hb hc]
  exact xor3 (Ds.and_lt ha) (Ds.and_lt ha) (Ds.and_lt hb) h

/-- Between two rounds: the words' copy, the result's cells, the schedule, and nothing else of what was there has turned. -/
def CmpAt (w : World) (h : List Nat) (S : Nat) (ws : List Nat) (W : World) : Prop :=
  Row W w.heap.size 58 .u32 h ∧ Row W (w.heap.size + 1 + 1) 58 .u32 (List.replicate 8 0) ∧ Row W S 70 .u32 ws ∧ Below w.heap.size w W
theorem CmpAt.drewN {w W : World} {h : List Nat} {S : Nat} {l : List Nat} (k : CmpAt w h S l W) (q : Nat) : CmpAt w h S l (W.drewN q) := by
  obtain ⟨h1, h2, h3, h4⟩ := k
  exact ⟨h1.drewN q, h2.drewN q, h3.drewN q, ⟨h4.os, h4.tape, h4.output, h4.size, h4.block⟩⟩
theorem Row.row {W : World} {B : Nat} {T : TypeId} {k : IntKind} {l : List Nat} (h : Row W B T k l) {g : Nat} (hg : B ≠ g) (cs : Array Value) : Row (W.setRow g cs) B T k l := (setRow_other W g B cs hg).trans h

theorem info64b : (Tryd.prog.info? 62).map (·.size) = some 64 := by kernel_rfl
theorem info8 : (Tryd.prog.info? 58).map (·.size) = some 8 := by kernel_rfl
theorem info8r {l : List Nat} (h : l.length = 8) : (Tryd.prog.info? 58).map (·.size) = some (cellsN .u32 l).size := by rw [cellsN_size, h]; exact info8
theorem info64br {l : List UInt8} (h : l.length = 64) : (Tryd.prog.info? 62).map (·.size) = some (cellsN .u8 (bN l)).size := by rw [cellsN_size, bN_len, h]; exact info64b

theorem idx8_0 (x0 x1 x2 x3 x4 x5 x6 x7 : Value) (W : World) : (Instr.index 58 (.agg #[x0, x1, x2, x3, x4, x5, x6, x7]) (.int .i64 0)).run Tryd.prog W = .ok x0 W := by kernel_rfl
theorem idx8_1 (x0 x1 x2 x3 x4 x5 x6 x7 : Value) (W : World) : (Instr.index 58 (.agg #[x0, x1, x2, x3, x4, x5, x6, x7]) (.int .i64 1)).run Tryd.prog W = .ok x1 W := by kernel_rfl
theorem idx8_2 (x0 x1 x2 x3 x4 x5 x6 x7 : Value) (W : World) : (Instr.index 58 (.agg #[x0, x1, x2, x3, x4, x5, x6, x7]) (.int .i64 2)).run Tryd.prog W = .ok x2 W := by kernel_rfl
theorem idx8_3 (x0 x1 x2 x3 x4 x5 x6 x7 : Value) (W : World) : (Instr.index 58 (.agg #[x0, x1, x2, x3, x4, x5, x6, x7]) (.int .i64 3)).run Tryd.prog W = .ok x3 W := by kernel_rfl
theorem idx8_4 (x0 x1 x2 x3 x4 x5 x6 x7 : Value) (W : World) : (Instr.index 58 (.agg #[x0, x1, x2, x3, x4, x5, x6, x7]) (.int .i64 4)).run Tryd.prog W = .ok x4 W := by kernel_rfl
theorem idx8_5 (x0 x1 x2 x3 x4 x5 x6 x7 : Value) (W : World) : (Instr.index 58 (.agg #[x0, x1, x2, x3, x4, x5, x6, x7]) (.int .i64 5)).run Tryd.prog W = .ok x5 W := by kernel_rfl
theorem idx8_6 (x0 x1 x2 x3 x4 x5 x6 x7 : Value) (W : World) : (Instr.index 58 (.agg #[x0, x1, x2, x3, x4, x5, x6, x7]) (.int .i64 6)).run Tryd.prog W = .ok x6 W := by kernel_rfl
theorem idx8_7 (x0 x1 x2 x3 x4 x5 x6 x7 : Value) (W : World) : (Instr.index 58 (.agg #[x0, x1, x2, x3, x4, x5, x6, x7]) (.int .i64 7)).run Tryd.prog W = .ok x7 W := by kernel_rfl
theorem st_len (s : Ds.St) : s.list.length = 8 := rfl
theorem CmpAt.put {w W : World} {h : List Nat} {S : Nat} {l : List Nat} (k : CmpAt w h S l W) (j v : Nat) (hS : w.heap.size + 3 ≤ S := by assumption) : CmpAt w (h.set j v) S l (W.setCell ⟨w.heap.size, j, none⟩ (.int .u32 (v : Int))) := by
  obtain ⟨h1, h2, h3, h4⟩ := k
  exact ⟨h1.set j v, h2.other _ (by simp; omega) _, h3.other _ (by simp; omega) _, h4.setCell (p := ⟨w.heap.size, j, none⟩) (Nat.le_refl _) _⟩

set_option maxRecDepth 100000 in
set_option maxHeartbeats 8000000 in
theorem compress_any (s : Ds.St) (b : List UInt8) (w : World) (hs : s.Ok) (hb : b.length = 64) (hK : TabK w) (hg : 1 < w.heap.size) :
    Calls Tryd.prog 49 #[.agg (cellsN .u32 s.list), .agg (cellsN .u8 (bN b))] w fun e w' => e = .returned (.agg (cellsN .u32 (Ds.comp s b).list)) ∧ Below w.heap.size w w' := by
  have HK := Lib.hid hK
  clear hK
  obtain ⟨V, hV⟩ : ∃ V : World, V = (w.alloc (.cells (cellsN .u32 s.list) 58)).alloc (.cells (cellsN .u8 (bN b)) 62) := ⟨_, rfl⟩
  have hr0 : Row V w.heap.size 58 .u32 s.list := by rw [hV]; exact (Row.new w _ .u32 s.list).alloc _
  have hr1 : Row V (w.heap.size + 1) 62 .u8 (bN b) := by rw [hV]; exact Row.new' _ _ _ _ (by simp) rfl
  have sV : V.heap.size = w.heap.size + 2 := by rw [hV]; simp
  have bV : Below w.heap.size w V := by rw [hV]; exact ((Below.refl _ w).alloc (Nat.le_refl _) _).alloc (by simp) _
  have HBlk := Lib.hid fun (o : Obj) => (hr1.alloc o)
  have HV := Lib.hid hV
  have H0 := Lib.hid hr0
  clear hr0 hr1 hV
  go_enter Tryd.func49, Tryd.ntmps49
  go_wp2_with (first | (rw [← HV.out]; refine wpList_load_row rfl 62 _ rfl (w.heap.size + 1) rfl 62 (cellsN .u8 (bN b)) (0, 0) _ (HBlk.out _) Tryd.underlying62 rfl (info64br hb) ?_) | fail)
  refine (schedule_any b _ hb).mono ?_
  rintro e w1 ⟨rfl, hB1⟩
  have hz1 : w.heap.size + 3 ≤ w1.heap.size := by have := hB1.size; simp at this; omega
  have hC : CmpAt w s.list w1.heap.size (Ds.sched b) (w1.alloc (.cells (cellsN .u32 (Ds.sched b)) 70)) := by
    have hb2 : Below (w.heap.size + 3) _ w1 := hB1.mono (by simp; omega)
    refine ⟨?_, ?_, ?_, ?_⟩
    · exact ((H0.out.alloc _).below hb2 (by omega)).alloc _
    · exact ((Row.new' V 58 .u32 (List.replicate 8 0) (by omega) rfl).below hb2 (by omega)).alloc _
    · exact Row.new _ _ _ _
    · exact ((bV.alloc (by omega) _).trans (hB1.mono (by simp; omega))).alloc (by omega) _
  have HC := Lib.hid hC
  clear hC hB1
  go_wp2_with (first | (refine wpList_store_row rfl 70 _ _ rfl w1.heap.size (cellsN .u32 (Ds.sched b)) rfl rfl 70 _ (heap_alloc_new w1 _) (info64 (Ds.sched_len b)) (by rw [cellsN_size, Ds.sched_len]; rfl) (cellsN_one _ _) ?_; rw [alloc_setRow]) | fail)
  obtain ⟨S, hS⟩ : ∃ S, S = w1.heap.size := ⟨_, rfl⟩
  obtain ⟨w2, hw2⟩ : ∃ w2, w2 = w1.alloc (.cells (cellsN .u32 (Ds.sched b)) 70) := ⟨_, rfl⟩
  have hC := HC.out
  rw [← hw2, ← hS] at hC
  have hS3 : w.heap.size + 3 ≤ S := by omega
  rw [← hw2, ← hS]
  have d0 := hC.1.cell (j := 0) (by simp [Ds.St.list])
  have d1 := hC.1.cell (j := 1) (by simp [Ds.St.list])
  have d2 := hC.1.cell (j := 2) (by simp [Ds.St.list])
  have d3 := hC.1.cell (j := 3) (by simp [Ds.St.list])
  have d4 := hC.1.cell (j := 4) (by simp [Ds.St.list])
  have d5 := hC.1.cell (j := 5) (by simp [Ds.St.list])
  have d6 := hC.1.cell (j := 6) (by simp [Ds.St.list])
  have d7 := hC.1.cell (j := 7) (by simp [Ds.St.list])
  simp only [Ds.St.list, List.getD, List.getElem?_cons_zero, List.getElem?_cons_succ, Option.getD_some] at d0 d1 d2 d3 d4 d5 d6 d7
  have HC2 := Lib.hid hC
  clear hC hw2 hS HC HV sV bV H0 HBlk
  go_quiet (fail)
  clear d0 d1 d2 d3 d4 d5 d6 d7
  go_wp2
  go_loopw [6, 7, 8, 9, 10, 11, 12, 13, 37] (fun pa pb pc pd pe pf pg ph pk wr => ∃ (i : Nat) (t : Ds.St), i ≤ 64 ∧ pk = .int .i64 i ∧ t = Ds.rounds s (Ds.sched b) i ∧ pa = .int .u32 t.a ∧ pb = .int .u32 t.b ∧ pc = .int .u32 t.c ∧ pd = .int .u32 t.d ∧ pe = .int .u32 t.e ∧ pf = .int .u32 t.f ∧ pg = .int .u32 t.g ∧ ph = .int .u32 t.h ∧ CmpAt w s.list S (Ds.sched b) wr) (fun _ _ _ _ _ _ _ _ k _ => 64 - (intOf k).toNat)
  case atStart => exact ⟨0, s, by omega, rfl, rfl, rfl, rfl, rfl, rfl, rfl, rfl, rfl, rfl, HC2.out.drewN _⟩
  case round =>
    obtain ⟨i, t, hi, rfl, ht, rfl, rfl, rfl, rfl, rfl, rfl, rfl, rfl, hA⟩ := hrel
    have hok : t.Ok := by rw [ht]; exact Ds.rounds_ok hs _ _
    by_cases hlt : i < 64
    · have hsucc : Ds.rounds s (Ds.sched b) (i + 1) = Ds.rnd t (Ds.kTab.getD i 0) ((Ds.sched b).getD i 0) := by rw [ht]; rfl
      obtain ⟨ta, tb, tc, td, te, tf, tg, th⟩ := t
      obtain ⟨ba, bb, bc, bd, be, bf, bg, bh⟩ := hok
      dsimp only at ba bb bc bd be bf bg bh
      obtain ⟨kk, hk⟩ : ∃ k, k = Ds.kTab.getD i 0 := ⟨_, rfl⟩
      obtain ⟨ww, hww⟩ : ∃ k, k = (Ds.sched b).getD i 0 := ⟨_, rfl⟩
      have bk : kk < 4294967296 := by rw [hk]; exact Ds.kTab_lt i
      have bw : ww < 4294967296 := by rw [hww]; exact Ds.sched_small b i
      have ck : wr.cell? ⟨1, i, none⟩ = some (.int .u32 (kk : Int)) := by rw [hk]; exact HK.out.below hA.2.2.2 hg i hlt
      have cw : wr.cell? ⟨S, i, none⟩ = some (.int .u32 (ww : Int)) := by rw [hww]; exact hA.2.2.1.cell (by rw [Ds.sched_len]; exact hlt)
      rw [← hk, ← hww] at hsucc
      obtain ⟨s1, e1⟩ : ∃ x, Ds.big1 te = x := ⟨_, rfl⟩
      obtain ⟨s0, e0⟩ : ∃ x, Ds.big0 ta = x := ⟨_, rfl⟩
      obtain ⟨cc, ec⟩ : ∃ x, Ds.chs te tf tg = x := ⟨_, rfl⟩
      obtain ⟨mm, em⟩ : ∃ x, Ds.maj ta tb tc = x := ⟨_, rfl⟩
      have r1 := big1_raw be e1
      have r0 := big0_raw ba e0
      have rc : bits .xor .u32 (bits .and .u32 (te : Int) (tf : Int)) (bits .and .u32 (bits .xor .u32 (if IntKind.u32.signed = true then -1 else IntKind.u32.max) (te : Int)) (tg : Int)) = (cc : Int) := chs_raw be bf bg ec
      have rm := maj_raw ba bb bc em
      have z1 : s1 < 4294967296 := by rw [← e1]; exact Ds.big1_lt be
      have z0 : s0 < 4294967296 := by rw [← e0]; exact Ds.big0_lt ba
      have zc : cc < 4294967296 := by rw [← ec]; exact Ds.chs_lt be
      have zm : mm < 4294967296 := by rw [← em]; exact Ds.maj_lt ba bb
      have HS : Hid (Ds.rounds s (Ds.sched b) (i + 1) = ⟨(((((th + s1) % 4294967296 + cc) % 4294967296 + kk) % 4294967296 + ww) % 4294967296 + (s0 + mm) % 4294967296) % 4294967296, ta, tb, tc, (td + ((((th + s1) % 4294967296 + cc) % 4294967296 + kk) % 4294967296 + ww) % 4294967296) % 4294967296, te, tf, tg⟩) := Lib.hid (by
        rw [hsucc]; unfold Ds.rnd Ds.tee Ds.you; dsimp only; rw [e1, e0, ec, em])
      have HA := Lib.hid hA
      have i0 : 0 ≤ (i : Int) := by omega
      have i64 : (i : Int) < 64 := by omega
      clear hA ht hsucc hk hww e1 e0 ec em
      go_wp2
      go_quiet ((go_at_call 55; exact Calls.quiet_of_same (right_int te _ _ be (by decide) (by decide))))
      go_wp2_with (go_at_call 55; refine (right_int ta _ _ ba (by decide) (by decide)).mono ?_; rintro e w' ⟨rfl, rfl⟩)
      go_roundw
      case rel => exact ⟨i + 1, _, by omega, by go_num, rfl, by
        rw [HS.out]
        refine ⟨?_, rfl, rfl, rfl, ?_, rfl, rfl, rfl, HA.out.drewN _⟩
        · dsimp only; congr 1; omega
        · dsimp only; congr 1; omega⟩
      case measure => simp [intOf]; omega
    · obtain rfl : i = 64 := by omega
      have HT := Lib.hid ht
      have HA := Lib.hid hA
      clear ht hA
      obtain ⟨ta, tb, tc, td, te, tf, tg, th⟩ := t
      go_wp2
      obtain ⟨wo, rfl⟩ : ∃ wo : World, wo = wr := ⟨_, rfl⟩
      go_loopw [17, 18, 109] (fun _ _ c wr => ∃ j : Nat, j ≤ 8 ∧ c = .int .i64 j ∧ CmpAt w ((Ds.plus s ⟨ta, tb, tc, td, te, tf, tg, th⟩).list.take j ++ s.list.drop j) S (Ds.sched b) wr) (fun _ _ c _ => 8 - (intOf c).toNat)
      case atStart => exact ⟨0, by omega, rfl, HA.out⟩
      case round =>
        obtain ⟨j, hj, rfl, hA⟩ := hrel
        have HA3 := Lib.hid hA
        have hcells := fun (j' : Nat) (h : j' < 8) => hA.1.cell (j := j') (by simp [Ds.St.list]; omega)
        have hfrz := fun (j' : Nat) => hA.1.frozen j'
        have HCL := Lib.hid hcells
        have HFR := Lib.hid hfrz
        clear hA hcells hfrz
        by_cases hlt : j < 8
        · obtain ⟨sa, sb, sc, sd, se, sf, sg, sh⟩ := s
          obtain rfl | rfl | rfl | rfl | rfl | rfl | rfl | rfl : j = 0 ∨ j = 1 ∨ j = 2 ∨ j = 3 ∨ j = 4 ∨ j = 5 ∨ j = 6 ∨ j = 7 := by omega
          · have hc := HCL.out 0 (by omega)
            have hf := HFR.out 0
            simp [Ds.St.list, Ds.plus, List.getD] at hc
            have hi := fun W => idx8_0 (.int .u32 ta) (.int .u32 tb) (.int .u32 tc) (.int .u32 td) (.int .u32 te) (.int .u32 tf) (.int .u32 tg) (.int .u32 th) W
            go_wp2
            go_roundw
            case rel => exact ⟨1, by omega, by go_num, by
              have h := HA3.out.put 0 ((sa + ta) % 4294967296)
              rw [show ((sa : Int) + ta) % 4294967296 = (((sa + ta) % 4294967296 : Nat) : Int) by omega]
              simp only [Ds.St.list, Ds.plus, List.take, List.drop, List.nil_append, List.cons_append, List.set] at h ⊢
              exact h⟩
            case measure => simp [intOf]
          · have hc := HCL.out 1 (by omega)
            have hf := HFR.out 1
            simp [Ds.St.list, Ds.plus, List.getD] at hc
            have hi := fun W => idx8_1 (.int .u32 ta) (.int .u32 tb) (.int .u32 tc) (.int .u32 td) (.int .u32 te) (.int .u32 tf) (.int .u32 tg) (.int .u32 th) W
            go_wp2
            go_roundw
            case rel => exact ⟨2, by omega, by go_num, by
              have h := HA3.out.put 1 ((sb + tb) % 4294967296)
              rw [show ((sb : Int) + tb) % 4294967296 = (((sb + tb) % 4294967296 : Nat) : Int) by omega]
              simp only [Ds.St.list, Ds.plus, List.take, List.drop, List.nil_append, List.cons_append, List.set] at h ⊢
              exact h⟩
            case measure => simp [intOf]
          · have hc := HCL.out 2 (by omega)
            have hf := HFR.out 2
            simp [Ds.St.list, Ds.plus, List.getD] at hc
            have hi := fun W => idx8_2 (.int .u32 ta) (.int .u32 tb) (.int .u32 tc) (.int .u32 td) (.int .u32 te) (.int .u32 tf) (.int .u32 tg) (.int .u32 th) W
            go_wp2
            go_roundw
            case rel => exact ⟨3, by omega, by go_num, by
              have h := HA3.out.put 2 ((sc + tc) % 4294967296)
              rw [show ((sc : Int) + tc) % 4294967296 = (((sc + tc) % 4294967296 : Nat) : Int) by omega]
              simp only [Ds.St.list, Ds.plus, List.take, List.drop, List.nil_append, List.cons_append, List.set] at h ⊢
              exact h⟩
            case measure => simp [intOf]
          · have hc := HCL.out 3 (by omega)
            have hf := HFR.out 3
            simp [Ds.St.list, Ds.plus, List.getD] at hc
            have hi := fun W => idx8_3 (.int .u32 ta) (.int .u32 tb) (.int .u32 tc) (.int .u32 td) (.int .u32 te) (.int .u32 tf) (.int .u32 tg) (.int .u32 th) W
            go_wp2
            go_roundw
            case rel => exact ⟨4, by omega, by go_num, by
              have h := HA3.out.put 3 ((sd + td) % 4294967296)
              rw [show ((sd : Int) + td) % 4294967296 = (((sd + td) % 4294967296 : Nat) : Int) by omega]
              simp only [Ds.St.list, Ds.plus, List.take, List.drop, List.nil_append, List.cons_append, List.set] at h ⊢
              exact h⟩
            case measure => simp [intOf]
          · have hc := HCL.out 4 (by omega)
            have hf := HFR.out 4
            simp [Ds.St.list, Ds.plus, List.getD] at hc
            have hi := fun W => idx8_4 (.int .u32 ta) (.int .u32 tb) (.int .u32 tc) (.int .u32 td) (.int .u32 te) (.int .u32 tf) (.int .u32 tg) (.int .u32 th) W
            go_wp2
            go_roundw
            case rel => exact ⟨5, by omega, by go_num, by
              have h := HA3.out.put 4 ((se + te) % 4294967296)
              rw [show ((se : Int) + te) % 4294967296 = (((se + te) % 4294967296 : Nat) : Int) by omega]
              simp only [Ds.St.list, Ds.plus, List.take, List.drop, List.nil_append, List.cons_append, List.set] at h ⊢
              exact h⟩
            case measure => simp [intOf]
          · have hc := HCL.out 5 (by omega)
            have hf := HFR.out 5
            simp [Ds.St.list, Ds.plus, List.getD] at hc
            have hi := fun W => idx8_5 (.int .u32 ta) (.int .u32 tb) (.int .u32 tc) (.int .u32 td) (.int .u32 te) (.int .u32 tf) (.int .u32 tg) (.int .u32 th) W
            go_wp2
            go_roundw
            case rel => exact ⟨6, by omega, by go_num, by
              have h := HA3.out.put 5 ((sf + tf) % 4294967296)
              rw [show ((sf : Int) + tf) % 4294967296 = (((sf + tf) % 4294967296 : Nat) : Int) by omega]
              simp only [Ds.St.list, Ds.plus, List.take, List.drop, List.nil_append, List.cons_append, List.set] at h ⊢
              exact h⟩
            case measure => simp [intOf]
          · have hc := HCL.out 6 (by omega)
            have hf := HFR.out 6
            simp [Ds.St.list, Ds.plus, List.getD] at hc
            have hi := fun W => idx8_6 (.int .u32 ta) (.int .u32 tb) (.int .u32 tc) (.int .u32 td) (.int .u32 te) (.int .u32 tf) (.int .u32 tg) (.int .u32 th) W
            go_wp2
            go_roundw
            case rel => exact ⟨7, by omega, by go_num, by
              have h := HA3.out.put 6 ((sg + tg) % 4294967296)
              rw [show ((sg : Int) + tg) % 4294967296 = (((sg + tg) % 4294967296 : Nat) : Int) by omega]
              simp only [Ds.St.list, Ds.plus, List.take, List.drop, List.nil_append, List.cons_append, List.set] at h ⊢
              exact h⟩
            case measure => simp [intOf]
          · have hc := HCL.out 7 (by omega)
            have hf := HFR.out 7
            simp [Ds.St.list, Ds.plus, List.getD] at hc
            have hi := fun W => idx8_7 (.int .u32 ta) (.int .u32 tb) (.int .u32 tc) (.int .u32 td) (.int .u32 te) (.int .u32 tf) (.int .u32 tg) (.int .u32 th) W
            go_wp2
            go_roundw
            case rel => exact ⟨8, by omega, by go_num, by
              have h := HA3.out.put 7 ((sh + th) % 4294967296)
              rw [show ((sh : Int) + th) % 4294967296 = (((sh + th) % 4294967296 : Nat) : Int) by omega]
              simp only [Ds.St.list, Ds.plus, List.take, List.drop, List.nil_append, List.cons_append, List.set] at h ⊢
              exact h⟩
            case measure => simp [intOf]
        · obtain rfl : j = 8 := by omega
          have hg1 : wr.heap[w.heap.size]? = some (.cells (cellsN .u32 (Ds.comp s b).list) 58 (0, 0)) := by
            have := HA3.out.1
            rw [show List.drop 8 s.list = [] from rfl, List.append_nil, List.take_of_length_le (Nat.le_refl 8)] at this
            unfold Ds.comp
            rw [← HT.out]
            exact this
          obtain ⟨u, hu⟩ : ∃ u, u = Ds.comp s b := ⟨_, rfl⟩
          rw [← hu] at hg1
          have HU := Lib.hid hu
          have HG1 := Lib.hid hg1
          have HG2 := Lib.hid HA3.out.2.1
          have HB := Lib.hid HA3.out.2.2.2
          clear hg1 hu HCL HFR
          go_wp2_with (first | (refine wpList_load_row rfl 58 _ rfl w.heap.size rfl 58 (cellsN .u32 u.list) (0, 0) _ HG1.out Tryd.underlying58 rfl (info8r (st_len u)) ?_) | (refine wpList_store_row rfl 58 _ _ rfl (w.heap.size + 1 + 1) (cellsN .u32 u.list) rfl rfl 58 _ HG2.out (info8r (st_len u)) (by rw [cellsN_size, cellsN_size, st_len, List.length_replicate]) (cellsN_one _ _) ?_))
          refine bodyPost_ret (results_cell_row rfl _ _ (w.heap.size + 1 + 1) 58 (cellsN .u32 u.list) (0, 0) _ rfl (setRow_heap _ _ _ _ _ _ HG2.out) Tryd.underlying58 rfl (info8r (st_len u))) rfl ?_
          exact ⟨by rw [HU.out], HB.out.trans (below_row _ (by omega))⟩
end Go.Proofs.YtlnlhjkdbpkaiaaDoor
