/- Values of a format are chosen: the calls of the reference's maker end, and leave what is not the maker's as it was. Conditions: the maker lies in memory, the table is one that the laws make. -/
import Derived.Test.YtdndmhlmbpgdeaaGreatDoorPb01
import Derived.Test.YtdndmhlmbpgdeaaGreatDoorPb15
import Derived.Test.YtdndmhlmbpgdeaaGreatDoorPb10
import Derived.Deep.CutRange
namespace Go.Proofs.YtdndmhlmbpgdeaaGreatDoor
open Go.RowKit Fx Rec

/-- So many fields begin at most in a value of a format with fewer than n before it. -/
def bb : Nat → Nat
  | 0 => 0
  | n + 1 => 6 * (1 + 2 * bb n)
theorem find_at {L : List Fm} (h : Ok L) {id : Int} {i : Nat} (ha : At L id i) : findO L id = some (L.getD i zm) := by
  obtain ⟨hi, e⟩ := ha
  unfold findO
  rw [List.find?_eq_some_iff_getElem]
  have hg : ∀ j (hj : j < L.length), L[j] = L.getD j zm := fun j hj => by simp [List.getD, hj]
  refine ⟨decide_eq_true e, i, hi, hg i hi, fun j hj => ?_⟩
  rw [hg j (by omega)]
  have := asc_lt h.asc hj hi
  simp only [Bool.not_eq_true', decide_eq_false_iff_not]
  omega
theorem frm_lt {L : List Fm} (h : Ok L) {i k : Nat} (hi : i < L.length) (hk : k < (L.getD i zm).fs.length) (h4 : ((L.getD i zm).fs.getD k zf).kind = 4) : ∃ q : Nat, ((L.getD i zm).fs.getD k zf).frm = q ∧ q < k := by
  have hr := (h.each i hi).each k hk
  obtain ⟨f, hf⟩ : ∃ f, f = (L.getD i zm).fs.getD k zf := ⟨_, rfl⟩
  rw [← hf] at hr h4 ⊢
  unfold Fx.right at hr
  rw [if_neg (by omega), if_neg (by omega), if_neg (by omega), if_pos h4] at hr
  obtain ⟨_, _, n3⟩ := nests_of hr
  obtain ⟨c1, c2, _⟩ := counts_of n3
  rw [List.length_take] at c2
  exact ⟨f.frm.toNat, by omega, by omega⟩
/-- Values are chosen. -/
def MakV (mb top : Nat) (L : List Fm) (lv : Value) (n : Nat) : Prop := ∀ (w : World) (out : List ByteArray) (cnt : Nat) (id : Int) (i : Nat) (fv : Value), MkA w mb top L lv out cnt → At L id i → i < n → FldsAt w fv (L.getD i zm).fs → (∀ b, fv.ownBlock = some b → SafeK w mb b) → cnt + bb n ≤ 100000000 →
  Calls Tryz.prog 36 #[ptr mb, .agg #[.int .i64 id, fv]] w fun e w' => e = .returned (.tuple #[]) ∧ StepK mb w w' ∧ ∃ out' cnt', cnt' ≤ cnt + bb n ∧ MkA w' mb top L lv out' cnt'
/-- A format that a search gave, in a box. -/
structure Inner (w w' : World) (g : Nat) (id : Int) (v : Value) (fs : List Fld) : Prop where
  b : Below w.heap.size w w'
  blk : Blk w' g 52 #[.int .i64 id, v]
  lo : w.heap.size ≤ g
  flds : FldsAt w' v fs
  own : ∀ b, v.ownBlock = some b → w.heap.size ≤ b ∧ b < w'.heap.size
section
variable {w w' : World} {mb top : Nat} {L : List Fm} {lv : Value} {out : List ByteArray} {cnt : Nat}
theorem MkA.below (h : MkA w mb top L lv out cnt) (hb : Below w.heap.size w w') : StepK mb w w' ∧ (∀ q, w.heap.size ≤ q → q < w'.heap.size → SafeK w' mb q) ∧ MkA w' mb top L lv out cnt := by
  obtain ⟨xv, ov, hm⟩ := h
  obtain ⟨h1, h2, h3⟩ := hm.below hb
  exact ⟨h1, h2, xv, ov, h3⟩
theorem MkA.begun (h : MkA w mb top L lv out cnt) (h9 : cnt + 1 ≤ 100000000) : (w.cell? ⟨mb, 3, none⟩ = some (.int .i64 (cnt : Nat)) ∧ w.frozen? ⟨mb, 3, none⟩ = false ∧ mb < w.heap.size) ∧
    StepK mb w (w.setCell ⟨mb, 3, none⟩ (.int .i64 ((cnt : Int) + 1))) ∧ MkA (w.setCell ⟨mb, 3, none⟩ (.int .i64 ((cnt : Int) + 1))) mb top L lv out (cnt + 1) := by
  obtain ⟨xv, ov, hm⟩ := h
  have e : ((cnt + 1 : Nat) : Int) = (cnt : Int) + 1 := by omega
  have hP := hm.poke 3 (.int .i64 ((cnt + 1 : Nat) : Int)) (hm.blk.set_ 3 _) hm.ints (Nat.le_trans hm.few (Nat.le_succ _)) h9
  rw [e] at hP
  exact ⟨⟨by rw [hm.blk.cell]; rfl, hm.blk.frozen 3, hm.blk.lt⟩, hP.1, _, _, hP.2⟩
theorem MkA.table (h : MkA w mb top L lv out cnt) : w.cell? ⟨mb, 0, none⟩ = some lv ∧ FmsAt (· < w.heap.size) w lv L ∧ mb < w.heap.size ∧ cnt ≤ 100000000 ∧ top ≤ w.heap.size ∧ w.cell? ⟨mb, 3, none⟩ = some (.int .i64 (cnt : Nat)) := by
  obtain ⟨xv, ov, hm⟩ := h
  exact ⟨by rw [hm.blk.cell]; rfl, hm.tab.mono fun g hg => hg.1.lt, hm.blk.lt, hm.cnt9, hm.tp, by rw [hm.blk.cell]; rfl⟩
theorem MkA.slice_ (h : MkA w mb top L lv out cnt) : ∃ a c, lv = .slice a L.length c := by
  obtain ⟨xv, ov, hm⟩ := h
  obtain ⟨a, c, e, _⟩ := hm.tab.slice_
  exact ⟨a, c, e⟩
end
set_option maxRecDepth 20000 in
set_option maxHeartbeats 40000000 in
theorem mak_step (mb top : Nat) (L : List Fm) (lv : Value) (hL : Nice L) (n : Nat) (hC : MakV mb top L lv n) : MakV mb top L lv (n + 1) := by
  intro w out cnt id i fv hM hat hin hfv hfs hbd
  obtain ⟨fs, hfs0⟩ : ∃ fs, fs = (L.getD i zm).fs := ⟨_, rfl⟩
  rw [← hfs0] at hfv
  obtain ⟨m, hm⟩ : ∃ m, m = fs.length := ⟨_, rfl⟩
  have hm1 : 1 ≤ m := by rw [hm, hfs0]; exact (hL.ok.each i hat.1).some_
  have hm6 : m ≤ 6 := by rw [hm, hfs0]; exact hL.fs i hat.1
  obtain ⟨ua, uc, rfl, -⟩ := hfv.slice_
  obtain ⟨ub, uo, rfl, -, lub, hmu, hum, -⟩ := hfv.at_ (by omega)
  rw [← hm] at hmu ⊢
  unfold maxLen at hum
  obtain ⟨la, lc, hlv⟩ := hM.slice_
  have htop := hM.table.2.2.2.2.1
  obtain ⟨W1, hW1⟩ : ∃ W1, W1 = w.alloc (.cells #[.int .i64 id, .slice (some ⟨ub, uo, none⟩) m uc] 52) := ⟨_, rfl⟩
  have hs1 : W1.heap.size = w.heap.size + 1 := by rw [hW1]; simp
  have hb1 : Below w.heap.size w W1 := by rw [hW1]; exact bx _
  have hfb1 : Blk W1 w.heap.size 52 #[.int .i64 id, .slice (some ⟨ub, uo, none⟩) m uc] := by rw [hW1]; exact Blk.new w _ _
  obtain ⟨W2, hmk, hb2, hcb⟩ := made_ints W1 m (by omega)
  rw [hs1] at hmk hcb
  have hb12 : Below w.heap.size w W2 := hb1.trans (hb2.mono (by omega))
  obtain ⟨s1, s2, s3⟩ := hM.below hb12
  have hfb2 : Blk W2 w.heap.size 52 #[.int .i64 id, .slice (some ⟨ub, uo, none⟩) m uc] := (hb2.block _ hfb1.lt).trans hfb1
  have hl0 : Loc w W2 mb w.heap.size (w.heap.size + 1) id (.slice (some ⟨ub, uo, none⟩) m uc) fs (List.replicate m 0) := by
    refine ⟨hfb2, hcb, s2 _ (Nat.le_refl _) hfb2.lt, s2 _ (by omega) hcb.lt, Nat.le_refl _, by omega, by rw [List.length_replicate]; exact hm, fun j => ?_, by rw [hm]; exact hfv.below hb12, fun b hb => ⟨s1.safe _ (hfs b hb), (hfs b hb).lt⟩⟩
    rw [List.getD_eq_getElem?_getD, List.getElem?_replicate]
    split
    · exact ⟨Int.le_refl 0, show (0 : Int) ≤ 2 by decide⟩
    · exact ⟨Int.le_refl 0, show (0 : Int) ≤ 2 by decide⟩
  have HI0 := Lib.hid (And.intro s1 (And.intro s3 hl0))
  have c1x : W1.cell? ⟨w.heap.size, 1, none⟩ = some (.slice (some ⟨ub, uo, none⟩) m uc) := by rw [hfb1.cell]; rfl
  have hfk : ∀ k, k < m → FOk L n (fs.getD k zf) ∧ ((fs.getD k zf).kind = 2 ∨ (fs.getD k zf).kind = 3 → 0 ≤ (fs.getD k zf).n ∧ (fs.getD k zf).n ≤ 4) ∧ ((fs.getD k zf).kind = 4 → ∃ q : Nat, (fs.getD k zf).frm = q ∧ q < k) := fun k hk => by
    rw [hm, hfs0] at hk
    have h1 := fok_of hL.ok hat.1 (show i ≤ n by omega) hk
    rw [hfs0]
    refine ⟨h1, fun h23 => ?_, fun h4 => frm_lt hL.ok hat.1 hk h4⟩
    rcases h23 with h | h
    · have := h1.k2 (.inl h); omega
    · exact hL.n4 i hat.1 k hk h
  obtain ⟨B, hB⟩ : ∃ B, B = bb n := ⟨_, rfl⟩
  obtain ⟨D, hD⟩ : ∃ D, D = 1 + 2 * B := ⟨_, rfl⟩
  have hbn : cnt + 6 * D ≤ 100000000 := by rw [hD, hB]; exact hbd
  have HP := Lib.hid (And.intro hfk (And.intro hm (And.intro hC (And.intro hB (And.intro hlv hat)))))
  have HQ : Hid (bb (n + 1) = 6 * D) := Lib.hid (by rw [hD, hB]; rfl)
  rw [hW1] at hmk c1x
  clear hM hat hfv hfs hbd hfs0 hm hb1 hfb1 hb2 hcb hb12 s1 s2 s3 hfb2 hl0 hfk hC hlv lub hB hs1
  go_enter Tryz.func36, Tryz.ntmps36
  go_wp2_with fail

  clear hmk c1x hW1
  go_loopw [5] (fun i wr => ∃ (k cn : Nat) (ou : List ByteArray) (cs : List Int), k ≤ m ∧ i = .int .i64 k ∧ cn ≤ cnt + k * D ∧ Hid (StepK mb w wr ∧ MkA wr mb top L lv ou cn ∧ Loc w wr mb w.heap.size (w.heap.size + 1) id (.slice (some ⟨ub, uo, none⟩) m uc) fs cs)) (fun i _ => m - (intOf i).toNat)
  case atStart => exact ⟨0, cnt, out, _, Nat.zero_le _, rfl, by omega, HI0⟩
  case round =>
    obtain ⟨k, cn, ou, cs, hkm, rfl, hcn, HJ⟩ := hrel
    obtain ⟨wq, rfl⟩ : ∃ wq, wq = wr := ⟨_, rfl⟩
    have hou : ou.length ≤ cn := by obtain ⟨_, _, hm⟩ := HJ.out.2.1; exact hm.few
    have c1 : wq.cell? ⟨w.heap.size, 1, none⟩ = some (.slice (some ⟨ub, uo, none⟩) m uc) := by rw [HJ.out.2.2.fblk.cell]; rfl
    have lq : w.heap.size < wq.heap.size := HJ.out.2.2.sf.lt
    by_cases hlt : k < m
    · have hkD : k * D + D ≤ 6 * D := by
        have h1 : (k + 1) * D ≤ 6 * D := Nat.mul_le_mul_right D (by omega)
        rw [Nat.succ_mul] at h1
        exact h1
      obtain ⟨ub', uo', e0, -, -, -, -, hfl⟩ := HJ.out.2.2.flds.at_ (by rw [← HP.out.2.1]; omega)
      cases e0
      obtain ⟨f, hf⟩ : ∃ f, f = fs.getD k zf := ⟨_, rfl⟩
      have hfa := hfl k (by rw [← HP.out.2.1]; exact hlt)
      have hpf := HP.out.1 k hlt
      rw [← hf] at hfa hpf
      have g0 := hfa.c0
      have g1 := hfa.c1
      have g2 := hfa.c2
      have g3 := hfa.c3
      have hki : (0 : Int) ≤ (k : Int) ∧ (k : Int) < (m : Int) := by omega
      obtain ⟨W3, hW3⟩ : ∃ W3, W3 = wq.alloc (.cells #[.int .i64 f.kind, .int .i64 f.n, .int .i64 f.frm, .string f.text] 56) := ⟨_, rfl⟩
      have hb3 : Below wq.heap.size wq W3 := by rw [hW3]; exact bx _
      obtain ⟨t1, t2, t3⟩ := HJ.out.2.1.below hb3
      have hx3 : Blk W3 wq.heap.size 56 #[.int .i64 f.kind, .int .i64 f.n, .int .i64 f.frm, .string f.text] := by rw [hW3]; exact Blk.new wq _ _
      obtain ⟨⟨p3, y3, plt⟩, u1, u2⟩ := t3.begun (by omega)
      have hsx : SafeK W3 mb wq.heap.size := t2 _ (Nat.le_refl _) hx3.lt
      obtain ⟨xb, hxb⟩ : ∃ xb, xb = wq.heap.size := ⟨_, rfl⟩
      have hle3 : ((cn : Int) + 1) = ((cn + 1 : Nat) : Int) := by omega
      have H4 := Lib.hid (And.intro ((HJ.out.1.trans t1).trans u1) (And.intro u2 (And.intro ((HJ.out.2.2.step t1).step u1) (And.intro (show Blk _ wq.heap.size 56 #[.int .i64 f.kind, .int .i64 f.n, .int .i64 f.frm, .string f.text] from (u1.same hsx).trans hx3) (u1.safe _ hsx)))))
      have Hf := Lib.hid (And.intro hf hpf)
      rw [hW3] at p3 y3 plt H4
      clear hfl hfa hf hpf hb3 t1 t2 t3 hx3 u1 u2 hsx hW3 hle3
      go_upto_region 7 with fail
      generalize (wq.alloc (.cells #[.int .i64 f.kind, .int .i64 f.n, .int .i64 f.frm, .string f.text] 56)).setCell ⟨mb, 3, none⟩ (.int .i64 ((cn : Int) + 1)) = W4 at *
      rw [← hxb] at H4 ⊢
      clear p3 y3 plt g0 g1 g2 g3 c1 lq hxb
      obtain ⟨c', hc'⟩ : ∃ c', c' = cn + 1 := ⟨_, rfl⟩
      rw [← hc'] at H4
      have hkl : k < fs.length := by rw [← HP.out.2.1]; exact hlt
      have hlv := HP.out.2.2.2.2.1
      subst hlv
      by_cases h5 : f.kind = 5
      · have d5 : (f.kind == 5) = true := by simp [h5]
        have x0 : W4.cell? ⟨xb, 0, none⟩ = some (.int .i64 f.kind) := by rw [H4.out.2.2.2.1.cell]; rfl
        have H5K := Lib.hid h5
        clear h5
        go_upto_region 8 with fail
        obtain ⟨iq, hiq, hiqn⟩ := (Hf.out.2.1.k4 (.inr H5K.out)).2
        obtain ⟨fq, hfq⟩ : ∃ fq, fq = (L.getD iq zm).fs := ⟨_, rfl⟩
        have HFQ := Lib.hid hfq
        clear hfq
        have hFIND : Hid (∀ W, Below W4.heap.size W4 W → Calls Tryz.prog 28 #[.slice la L.length lc, .int .i64 f.n] W fun e w' => (∃ v, e = .returned (.tuple #[.agg #[.int .i64 f.n, v], .bool true]) ∧ FldsAt w' v fq ∧ ∀ g, v.ownBlock = some g → W.heap.size ≤ g ∧ g < w'.heap.size) ∧ Below W.heap.size W w') := Lib.hid fun W hb => by
          have h1 := rFind3_any (.slice la L.length lc) L f.n W ((H4.out.2.1.below hb).2.2.table.2.1) (fun j hj => by have := hL.fs j hj; omega)
          rw [find_at hL.ok hiq] at h1
          rw [HFQ.out]
          exact h1
        have HQ4 : Hid (∀ W, Below W4.heap.size W4 W → W.cell? ⟨mb, 0, none⟩ = some (.slice la L.length lc) ∧ W.cell? ⟨xb, 1, none⟩ = some (.int .i64 f.n)) := Lib.hid fun W hb =>
          ⟨(H4.out.2.1.below hb).2.2.table.1, by rw [World.cell?_of_block (w := W4) (hb.block _ H4.out.2.2.2.2.lt), H4.out.2.2.2.1.cell]; rfl⟩
        refine wp_region_T 6 (fun w' : World => Below W4.heap.size W4 w') (by kernel_rfl) (Below.refl _ _).drew (fun hHeld => ?_)
        refine anyT 0 (h := ?_)
        (try simp only [pA, pB, pC, pD])
        refine anyT 1 (h := ?_)
        (try simp only [pA, pB, pC, pD])
        refine anyT 2 (h := ?_)
        (try simp only [pA, pB, pC, pD])
        refine takeT 3 (y := by intro wS hSw; obtain ⟨s0, s1⟩ := HQ4.out _ hSw; go_simp; (try with_reducible rfl)) (h := ?_)
        (try simp only [pA, pB, pC, pD])
        refine anyT 4 (h := ?_)
        (try simp only [pA, pB, pC, pD])
        refine takeT 5 (y := by intro wS hSw; obtain ⟨s0, s1⟩ := HQ4.out _ hSw; go_simp; (try with_reducible rfl)) (h := ?_)
        (try simp only [pA, pB, pC, pD])
        refine wpAnyT_ready (rs := [6, 10]) (by kernel_rfl) (by simp) ?_
        refine AllReadyT.cons (o := ?oA11) ?hA11 ?kA11 (AllReadyT.cons (o := ?oB11) ?hB11 ?kB11 AllReadyT.nil)
        case hA11 => (simp only [List.getElem?_toArray, List.getElem?_cons_zero, List.getElem?_cons_succ]; rfl)
        case hB11 => (simp only [List.getElem?_toArray, List.getElem?_cons_zero, List.getElem?_cons_succ]; rfl)
        case kA11 =>
          intro K hK
          go_simp
          refine (hFIND.out _ (Below.refl _ _).drew).mono ?_
          rintro e w5 ⟨⟨v, rfl, hv1, hv2⟩, hB5⟩
          have hB45 : Below W4.heap.size W4 w5 := (Below.refl _ _).drew.trans hB5
          obtain ⟨fa, fc, rfl, -⟩ := hv1.slice_
          obtain ⟨mq, hmq⟩ : ∃ mq, mq = fq.length := ⟨_, rfl⟩
          rw [← hmq] at hv1 hv2 ⊢
          clear hmq
          refine hK.out _ _ (no_more (by kernel_rfl)) ?_
          clear hK K
          (try simp only [pA, pB, pC, pD])
          refine anyT 7 (S := by exact no_more (by kernel_rfl)) (h := ?_)
          (try simp only [pA, pB, pC, pD])
          refine anyT 8 (S := by exact no_more (by kernel_rfl)) (h := ?_)
          (try simp only [pA, pB, pC, pD])
          refine anyT 9 (S := by exact no_more (by kernel_rfl)) (h := ?_)
          (try simp only [pA, pB, pC, pD])
          refine wpAnyT_ready (rs := [10]) (by kernel_rfl) (by simp) ?_
          refine AllReadyT.cons (o := ?oB15) ?hB15 ?kB15 AllReadyT.nil
          case hB15 => (simp only [List.getElem?_toArray, List.getElem?_cons_zero, List.getElem?_cons_succ]; rfl)
          case kB15 =>
            intro K hK
            go_simp
            refine hK.out _ _ (no_more (by kernel_rfl)) ?_
            clear hK K
            (try simp only [pA, pB, pC, pD])
            have hz := Blk.new w5 52 #[.int .i64 0, .slice none 0 0]
            have z0 := hz.cell 0
            have z1 := hz.cell 1
            have y0 := hz.frozen 0
            have y1 := hz.frozen 1
            simp only [List.getElem?_toArray, List.getElem?_cons_zero, List.getElem?_cons_succ] at z0 z1
            refine wpAnyT_ready (rs := [11]) (by kernel_rfl) (by simp) ?_
            refine AllReadyT.cons (o := ?oB16) ?hB16 ?kB16 AllReadyT.nil
            case hB16 => (simp only [List.getElem?_toArray, List.getElem?_cons_zero, List.getElem?_cons_succ]; rfl)
            case kB16 =>
              intro K hK
              go_simp
              refine hK.out _ _ (no_more (by kernel_rfl)) ?_
              clear hK K
              (try simp only [pA, pB, pC, pD])
              refine anyT 12 (S := by exact no_more (by kernel_rfl)) (h := ?_)
              (try simp only [pA, pB, pC, pD])
              refine wpAnyT_done (by kernel_rfl) ?_ _
              obtain ⟨g7, hg7⟩ : ∃ g7, g7 = w5.heap.size := ⟨_, rfl⟩
              have HI7 := Lib.hid (Inner.mk (id := f.n) (v := .slice fa mq fc) (hB45.trans ((bx (w := w5) (.cells #[.int .i64 f.n, .slice fa mq fc] 52)).mono hB45.size)) (Blk.new w5 _ _) hB45.size (hv1.below (bx _)) (fun b hb => ⟨Nat.le_trans (show W4.heap.size ≤ W4.drew.heap.size from Nat.le_refl _) (hv2 b hb).1, by have := (hv2 b hb).2; simp; omega⟩))
              generalize w5.alloc (.cells #[.int .i64 f.n, .slice fa mq fc] 52) = W7 at *
              rw [← hg7] at HI7 ⊢
              clear hz z0 z1 y0 y1 hB5 hB45 hv1 hv2 hg7 hHeld
              obtain ⟨s7, n7, m7⟩ := H4.out.2.1.below HI7.out.b
              have z0 : W7.cell? ⟨g7, 0, none⟩ = some (.int .i64 f.n) := by rw [HI7.out.blk.cell]; rfl
              have z1 : W7.cell? ⟨g7, 1, none⟩ = some (.slice fa mq fc) := by rw [HI7.out.blk.cell]; rfl
              have H7 := Lib.hid (And.intro (H4.out.1.trans s7) (And.intro m7 (And.intro (H4.out.2.2.1.step s7) (And.intro (show Blk _ xb 56 #[.int .i64 f.kind, .int .i64 f.n, .int .i64 f.frm, .string f.text] from (s7.same H4.out.2.2.2.2).trans H4.out.2.2.2.1) (s7.safe _ H4.out.2.2.2.2)))))
              have HS7 := Lib.hid n7
              clear s7 n7 m7
              go_wp2_with fail
              refine (HP.out.2.2.1 W7 ou c' f.n iq (.slice fa mq fc) H7.out.2.1 hiq hiqn (by rw [← HFQ.out]; exact HI7.out.flds) (fun b hb => HS7.out b (HI7.out.own b hb).1 (HI7.out.own b hb).2) (by rw [← HP.out.2.2.2.1]; omega)).mono ?_
              rintro e w8 ⟨rfl, s8, o8, c8, hc8, m8⟩
              rw [← HP.out.2.2.2.1] at hc8
              have H8 := Lib.hid (And.intro (H7.out.1.trans s8) (And.intro m8 (And.intro (H7.out.2.2.1.step s8) (And.intro (show Blk _ xb 56 #[.int .i64 f.kind, .int .i64 f.n, .int .i64 f.frm, .string f.text] from (s8.same H7.out.2.2.2.2).trans H7.out.2.2.2.1) (s8.safe _ H7.out.2.2.2.2)))))
              clear s8 m8 z0 z1
              have x0 : w8.cell? ⟨xb, 0, none⟩ = some (.int .i64 f.kind) := by rw [H8.out.2.2.2.1.cell]; rfl
              have x1 : w8.cell? ⟨xb, 1, none⟩ = some (.int .i64 f.n) := by rw [H8.out.2.2.2.1.cell]; rfl
              have x2 : w8.cell? ⟨xb, 2, none⟩ = some (.int .i64 f.frm) := by rw [H8.out.2.2.2.1.cell]; rfl
              have x3 : w8.cell? ⟨xb, 3, none⟩ = some (.string f.text) := by rw [H8.out.2.2.2.1.cell]; rfl
              have a0 : w8.cell? ⟨w.heap.size, 0, none⟩ = some (.int .i64 id) := by rw [H8.out.2.2.1.fblk.cell]; rfl
              have a1 : w8.cell? ⟨w.heap.size, 1, none⟩ = some (.slice (some ⟨ub, uo, none⟩) m uc) := by rw [H8.out.2.2.1.fblk.cell]; rfl
              go_wp2_with fail
              refine (given_any id _ fs k w8 H8.out.2.2.1.flds hkl).mono ?_
              rw [show givenB fs k = false by rw [givenB, ← Hf.out.1, if_neg (by rw [H5K.out]; decide), if_neg (by rw [H5K.out]; decide)]]
              rintro e wg ⟨rfl, hBg⟩
              obtain ⟨sg, -, mg⟩ := H8.out.2.1.below hBg
              have Hg := Lib.hid (And.intro (H8.out.1.trans sg) (And.intro mg (And.intro (H8.out.2.2.1.step sg) (And.intro (show Blk _ xb 56 #[.int .i64 f.kind, .int .i64 f.n, .int .i64 f.frm, .string f.text] from (sg.same H8.out.2.2.2.2).trans H8.out.2.2.2.1) (sg.safe _ H8.out.2.2.2.2)))))
              clear hBg sg mg
              clear x0 x1 x2 x3 a0 a1
              go_wp2_with fail
              exact ⟨⟨k + 1, c8, o8, cs, by omega, by go_num, by rw [Nat.succ_mul]; omega, Lib.hid ⟨Hg.out.1, Hg.out.2.1, Hg.out.2.2.1⟩⟩, by simp [intOf]; omega⟩
        case kB11 =>
          intro K hK
          go_simp
          refine hK.out _ _ (fun _ => (bx _).drew) ?_
          clear hK K
          (try simp only [pA, pB, pC, pD])
          have hba : Below W4.heap.size W4 (W4.alloc (.cells #[.int .i64 0, .slice none 0 0] 52)).drew := (bx _).drew
          have hza : Blk (W4.alloc (.cells #[.int .i64 0, .slice none 0 0] 52)).drew W4.heap.size 52 #[.int .i64 0, .slice none 0 0] := Blk.new W4 _ _
          generalize (W4.alloc (.cells #[.int .i64 0, .slice none 0 0] 52)).drew = Wa at *
          refine wpAnyT_ready (rs := [6]) (by kernel_rfl) (by simp) ?_
          refine AllReadyT.cons (o := ?oB18) ?hB18 ?kB18 AllReadyT.nil
          case hB18 => (simp only [List.getElem?_toArray, List.getElem?_cons_zero, List.getElem?_cons_succ]; rfl)
          case kB18 =>
            intro K hK
            go_simp
            refine (hFIND.out _ hba).mono ?_
            rintro e w5 ⟨⟨v, rfl, hv1, hv2⟩, hB5⟩
            obtain ⟨fa, fc, rfl, -⟩ := hv1.slice_
            obtain ⟨mq, hmq⟩ : ∃ mq, mq = fq.length := ⟨_, rfl⟩
            rw [← hmq] at hv1 hv2 ⊢
            clear hmq
            refine hK.out _ _ (no_more (by kernel_rfl)) ?_
            clear hK K
            (try simp only [pA, pB, pC, pD])
            refine anyT 7 (S := by exact no_more (by kernel_rfl)) (h := ?_)
            (try simp only [pA, pB, pC, pD])
            refine anyT 8 (S := by exact no_more (by kernel_rfl)) (h := ?_)
            (try simp only [pA, pB, pC, pD])
            refine anyT 9 (S := by exact no_more (by kernel_rfl)) (h := ?_)
            (try simp only [pA, pB, pC, pD])
            have hz : Blk w5 W4.heap.size 52 #[.int .i64 0, .slice none 0 0] := (hB5.block _ hza.lt).trans hza
            have z0 := hz.cell 0
            have z1 := hz.cell 1
            have y0 := hz.frozen 0
            have y1 := hz.frozen 1
            simp only [List.getElem?_toArray, List.getElem?_cons_zero, List.getElem?_cons_succ] at z0 z1
            refine wpAnyT_ready (rs := [11]) (by kernel_rfl) (by simp) ?_
            refine AllReadyT.cons (o := ?oB22) ?hB22 ?kB22 AllReadyT.nil
            case hB22 => (simp only [List.getElem?_toArray, List.getElem?_cons_zero, List.getElem?_cons_succ]; rfl)
            case kB22 =>
              intro K hK
              go_simp
              refine hK.out _ _ (no_more (by kernel_rfl)) ?_
              clear hK K
              (try simp only [pA, pB, pC, pD])
              refine anyT 12 (S := by exact no_more (by kernel_rfl)) (h := ?_)
              (try simp only [pA, pB, pC, pD])
              refine wpAnyT_done (by kernel_rfl) ?_ _
              have hBz : Below W4.heap.size W4 ((w5.setCell ⟨W4.heap.size, 0, none⟩ (.int .i64 f.n)).setCell ⟨W4.heap.size, 1, none⟩ (.slice fa mq fc)) := ((hba.trans (hB5.mono hba.size)).setCell (p := ⟨W4.heap.size, 0, none⟩) (Nat.le_refl _) _).setCell (p := ⟨W4.heap.size, 1, none⟩) (Nat.le_refl _) _
              have hoth : ∀ q, q ≠ W4.heap.size → ((w5.setCell ⟨W4.heap.size, 0, none⟩ (.int .i64 f.n)).setCell ⟨W4.heap.size, 1, none⟩ (.slice fa mq fc)).heap[q]? = w5.heap[q]? := fun q hq => (Below.heap_setCell _ _ _ _ hq).trans (Below.heap_setCell _ _ _ _ hq)
              have hsz9 : ((w5.setCell ⟨W4.heap.size, 0, none⟩ (.int .i64 f.n)).setCell ⟨W4.heap.size, 1, none⟩ (.slice fa mq fc)).heap.size = w5.heap.size := by simp [World.setCell]
              have HI7 := Lib.hid (Inner.mk (id := f.n) (v := .slice fa mq fc) hBz ((hz.set_ 0 _).set_ 1 _) (Nat.le_refl _) (hv1.keep (by rw [hsz9]; exact Nat.le_refl _) fun b hb => hoth b (by have := (hv2 b hb).1; have := hza.lt; omega)) (fun b hb => ⟨Nat.le_trans hba.size (hv2 b hb).1, by rw [hsz9]; exact (hv2 b hb).2⟩))
              generalize (w5.setCell ⟨W4.heap.size, 0, none⟩ (.int .i64 f.n)).setCell ⟨W4.heap.size, 1, none⟩ (.slice fa mq fc) = W7 at *
              obtain ⟨g7, hg7⟩ : ∃ g7, g7 = W4.heap.size := ⟨_, rfl⟩
              rw [← hg7] at HI7 ⊢
              clear hz z0 z1 y0 y1 hB5 hv1 hv2 hg7 hHeld hBz hoth hsz9 hba hza
              obtain ⟨s7, n7, m7⟩ := H4.out.2.1.below HI7.out.b
              have z0 : W7.cell? ⟨g7, 0, none⟩ = some (.int .i64 f.n) := by rw [HI7.out.blk.cell]; rfl
              have z1 : W7.cell? ⟨g7, 1, none⟩ = some (.slice fa mq fc) := by rw [HI7.out.blk.cell]; rfl
              have H7 := Lib.hid (And.intro (H4.out.1.trans s7) (And.intro m7 (And.intro (H4.out.2.2.1.step s7) (And.intro (show Blk _ xb 56 #[.int .i64 f.kind, .int .i64 f.n, .int .i64 f.frm, .string f.text] from (s7.same H4.out.2.2.2.2).trans H4.out.2.2.2.1) (s7.safe _ H4.out.2.2.2.2)))))
              have HS7 := Lib.hid n7
              clear s7 n7 m7
              go_wp2_with fail
              refine (HP.out.2.2.1 W7 ou c' f.n iq (.slice fa mq fc) H7.out.2.1 hiq hiqn (by rw [← HFQ.out]; exact HI7.out.flds) (fun b hb => HS7.out b (HI7.out.own b hb).1 (HI7.out.own b hb).2) (by rw [← HP.out.2.2.2.1]; omega)).mono ?_
              rintro e w8 ⟨rfl, s8, o8, c8, hc8, m8⟩
              rw [← HP.out.2.2.2.1] at hc8
              have H8 := Lib.hid (And.intro (H7.out.1.trans s8) (And.intro m8 (And.intro (H7.out.2.2.1.step s8) (And.intro (show Blk _ xb 56 #[.int .i64 f.kind, .int .i64 f.n, .int .i64 f.frm, .string f.text] from (s8.same H7.out.2.2.2.2).trans H7.out.2.2.2.1) (s8.safe _ H7.out.2.2.2.2)))))
              clear s8 m8 z0 z1
              have x0 : w8.cell? ⟨xb, 0, none⟩ = some (.int .i64 f.kind) := by rw [H8.out.2.2.2.1.cell]; rfl
              have x1 : w8.cell? ⟨xb, 1, none⟩ = some (.int .i64 f.n) := by rw [H8.out.2.2.2.1.cell]; rfl
              have x2 : w8.cell? ⟨xb, 2, none⟩ = some (.int .i64 f.frm) := by rw [H8.out.2.2.2.1.cell]; rfl
              have x3 : w8.cell? ⟨xb, 3, none⟩ = some (.string f.text) := by rw [H8.out.2.2.2.1.cell]; rfl
              have a0 : w8.cell? ⟨w.heap.size, 0, none⟩ = some (.int .i64 id) := by rw [H8.out.2.2.1.fblk.cell]; rfl
              have a1 : w8.cell? ⟨w.heap.size, 1, none⟩ = some (.slice (some ⟨ub, uo, none⟩) m uc) := by rw [H8.out.2.2.1.fblk.cell]; rfl
              go_wp2_with fail
              refine (given_any id _ fs k w8 H8.out.2.2.1.flds hkl).mono ?_
              rw [show givenB fs k = false by rw [givenB, ← Hf.out.1, if_neg (by rw [H5K.out]; decide), if_neg (by rw [H5K.out]; decide)]]
              rintro e wg ⟨rfl, hBg⟩
              obtain ⟨sg, -, mg⟩ := H8.out.2.1.below hBg
              have Hg := Lib.hid (And.intro (H8.out.1.trans sg) (And.intro mg (And.intro (H8.out.2.2.1.step sg) (And.intro (show Blk _ xb 56 #[.int .i64 f.kind, .int .i64 f.n, .int .i64 f.frm, .string f.text] from (sg.same H8.out.2.2.2.2).trans H8.out.2.2.2.1) (sg.safe _ H8.out.2.2.2.2)))))
              clear hBg sg mg
              clear x0 x1 x2 x3 a0 a1
              go_wp2_with fail
              exact ⟨⟨k + 1, c8, o8, cs, by omega, by go_num, by rw [Nat.succ_mul]; omega, Lib.hid ⟨Hg.out.1, Hg.out.2.1, Hg.out.2.2.1⟩⟩, by simp [intOf]; omega⟩
      · have d5 : (f.kind == 5) = false := by simp [h5]
        by_cases h4 : f.kind = 4
        · have d4 : (f.kind == 4) = true := by simp [h4]
          have x0 : W4.cell? ⟨xb, 0, none⟩ = some (.int .i64 f.kind) := by rw [H4.out.2.2.2.1.cell]; rfl
          have H5K := Lib.hid h4
          clear h4 h5
          go_upto_region 11 with fail
          obtain ⟨iq, hiq, hiqn⟩ := (Hf.out.2.1.k4 (.inl H5K.out)).2
          obtain ⟨fq, hfq⟩ : ∃ fq, fq = (L.getD iq zm).fs := ⟨_, rfl⟩
          have HFQ := Lib.hid hfq
          clear hfq
          have hFIND : Hid (∀ W, Below W4.heap.size W4 W → Calls Tryz.prog 28 #[.slice la L.length lc, .int .i64 f.n] W fun e w' => (∃ v, e = .returned (.tuple #[.agg #[.int .i64 f.n, v], .bool true]) ∧ FldsAt w' v fq ∧ ∀ g, v.ownBlock = some g → W.heap.size ≤ g ∧ g < w'.heap.size) ∧ Below W.heap.size W w') := Lib.hid fun W hb => by
            have h1 := rFind3_any (.slice la L.length lc) L f.n W ((H4.out.2.1.below hb).2.2.table.2.1) (fun j hj => by have := hL.fs j hj; omega)
            rw [find_at hL.ok hiq] at h1
            rw [HFQ.out]
            exact h1
          have HQ4 : Hid (∀ W, Below W4.heap.size W4 W → W.cell? ⟨mb, 0, none⟩ = some (.slice la L.length lc) ∧ W.cell? ⟨xb, 1, none⟩ = some (.int .i64 f.n)) := Lib.hid fun W hb =>
            ⟨(H4.out.2.1.below hb).2.2.table.1, by rw [World.cell?_of_block (w := W4) (hb.block _ H4.out.2.2.2.2.lt), H4.out.2.2.2.1.cell]; rfl⟩
          refine wp_region_T 6 (fun w' : World => Below W4.heap.size W4 w') (by kernel_rfl) (Below.refl _ _).drew (fun hHeld => ?_)
          refine anyT 0 (h := ?_)
          (try simp only [pA, pB, pC, pD])
          refine anyT 1 (h := ?_)
          (try simp only [pA, pB, pC, pD])
          refine anyT 2 (h := ?_)
          (try simp only [pA, pB, pC, pD])
          refine takeT 3 (y := by intro wS hSw; obtain ⟨s0, s1⟩ := HQ4.out _ hSw; go_simp; (try with_reducible rfl)) (h := ?_)
          (try simp only [pA, pB, pC, pD])
          refine anyT 4 (h := ?_)
          (try simp only [pA, pB, pC, pD])
          refine takeT 5 (y := by intro wS hSw; obtain ⟨s0, s1⟩ := HQ4.out _ hSw; go_simp; (try with_reducible rfl)) (h := ?_)
          (try simp only [pA, pB, pC, pD])
          refine wpAnyT_ready (rs := [6, 10]) (by kernel_rfl) (by simp) ?_
          refine AllReadyT.cons (o := ?oA34) ?hA34 ?kA34 (AllReadyT.cons (o := ?oB34) ?hB34 ?kB34 AllReadyT.nil)
          case hA34 => (simp only [List.getElem?_toArray, List.getElem?_cons_zero, List.getElem?_cons_succ]; rfl)
          case hB34 => (simp only [List.getElem?_toArray, List.getElem?_cons_zero, List.getElem?_cons_succ]; rfl)
          case kA34 =>
            intro K hK
            go_simp
            refine (hFIND.out _ (Below.refl _ _).drew).mono ?_
            rintro e w5 ⟨⟨v, rfl, hv1, hv2⟩, hB5⟩
            have hB45 : Below W4.heap.size W4 w5 := (Below.refl _ _).drew.trans hB5
            obtain ⟨fa, fc, rfl, -⟩ := hv1.slice_
            obtain ⟨mq, hmq⟩ : ∃ mq, mq = fq.length := ⟨_, rfl⟩
            rw [← hmq] at hv1 hv2 ⊢
            clear hmq
            refine hK.out _ _ (no_more (by kernel_rfl)) ?_
            clear hK K
            (try simp only [pA, pB, pC, pD])
            refine anyT 7 (S := by exact no_more (by kernel_rfl)) (h := ?_)
            (try simp only [pA, pB, pC, pD])
            refine anyT 8 (S := by exact no_more (by kernel_rfl)) (h := ?_)
            (try simp only [pA, pB, pC, pD])
            refine anyT 9 (S := by exact no_more (by kernel_rfl)) (h := ?_)
            (try simp only [pA, pB, pC, pD])
            refine wpAnyT_ready (rs := [10]) (by kernel_rfl) (by simp) ?_
            refine AllReadyT.cons (o := ?oB38) ?hB38 ?kB38 AllReadyT.nil
            case hB38 => (simp only [List.getElem?_toArray, List.getElem?_cons_zero, List.getElem?_cons_succ]; rfl)
            case kB38 =>
              intro K hK
              go_simp
              refine hK.out _ _ (no_more (by kernel_rfl)) ?_
              clear hK K
              (try simp only [pA, pB, pC, pD])
              have hz := Blk.new w5 52 #[.int .i64 0, .slice none 0 0]
              have z0 := hz.cell 0
              have z1 := hz.cell 1
              have y0 := hz.frozen 0
              have y1 := hz.frozen 1
              simp only [List.getElem?_toArray, List.getElem?_cons_zero, List.getElem?_cons_succ] at z0 z1
              refine wpAnyT_ready (rs := [11]) (by kernel_rfl) (by simp) ?_
              refine AllReadyT.cons (o := ?oB39) ?hB39 ?kB39 AllReadyT.nil
              case hB39 => (simp only [List.getElem?_toArray, List.getElem?_cons_zero, List.getElem?_cons_succ]; rfl)
              case kB39 =>
                intro K hK
                go_simp
                refine hK.out _ _ (no_more (by kernel_rfl)) ?_
                clear hK K
                (try simp only [pA, pB, pC, pD])
                refine anyT 12 (S := by exact no_more (by kernel_rfl)) (h := ?_)
                (try simp only [pA, pB, pC, pD])
                refine wpAnyT_done (by kernel_rfl) ?_ _
                obtain ⟨g7, hg7⟩ : ∃ g7, g7 = w5.heap.size := ⟨_, rfl⟩
                have HI7 := Lib.hid (Inner.mk (id := f.n) (v := .slice fa mq fc) (hB45.trans ((bx (w := w5) (.cells #[.int .i64 f.n, .slice fa mq fc] 52)).mono hB45.size)) (Blk.new w5 _ _) hB45.size (hv1.below (bx _)) (fun b hb => ⟨Nat.le_trans (show W4.heap.size ≤ W4.drew.heap.size from Nat.le_refl _) (hv2 b hb).1, by have := (hv2 b hb).2; simp; omega⟩))
                generalize w5.alloc (.cells #[.int .i64 f.n, .slice fa mq fc] 52) = W7 at *
                rw [← hg7] at HI7 ⊢
                clear hz z0 z1 y0 y1 hB5 hB45 hv1 hv2 hg7 hHeld
                obtain ⟨s7, n7, m7⟩ := H4.out.2.1.below HI7.out.b
                have H7 := Lib.hid (And.intro (H4.out.1.trans s7) (And.intro m7 (And.intro (H4.out.2.2.1.step s7) (And.intro (show Blk _ xb 56 #[.int .i64 f.kind, .int .i64 f.n, .int .i64 f.frm, .string f.text] from (s7.same H4.out.2.2.2.2).trans H4.out.2.2.2.1) (s7.safe _ H4.out.2.2.2.2)))))
                have HIV : Hid (∀ W, StepK mb W7 W → FldsAt W (.slice fa mq fc) fq ∧ (∀ b, (Value.slice fa mq fc).ownBlock = some b → SafeK W mb b) ∧ Blk W g7 52 #[.int .i64 f.n, .slice fa mq fc]) := Lib.hid fun W hs =>
                  ⟨HI7.out.flds.keep hs.base.size fun b hb => hs.same (n7 b (HI7.out.own b hb).1 (HI7.out.own b hb).2), fun b hb => hs.safe _ (n7 b (HI7.out.own b hb).1 (HI7.out.own b hb).2), (hs.same (n7 g7 HI7.out.lo HI7.out.blk.lt)).trans HI7.out.blk⟩
                clear s7 n7 m7
                obtain ⟨q, hq, hqk⟩ := Hf.out.2.2.2 H5K.out
                obtain ⟨T, hT⟩ : ∃ T : Nat, T = (cs.getD q 0).toNat := ⟨_, rfl⟩
                have hc2 := H7.out.2.2.1.c02 q
                have HT : Hid (cs.getD q 0 = (T : Int)) := Lib.hid (by omega)
                have hT2 : T ≤ 2 := by omega
                have HQF := Lib.hid hq
                clear hq hT hc2
                go_wp2_with fail
                go_loopw [11] (fun i wr => ∃ (j c2 : Nat) (o2 : List ByteArray), j ≤ T ∧ i = .int .i64 j ∧ c2 ≤ c' + j * B ∧ Hid (StepK mb W7 wr) ∧ Hid (StepK mb w wr ∧ MkA wr mb top L (.slice la L.length lc) o2 c2 ∧ Loc w wr mb w.heap.size (w.heap.size + 1) id (.slice (some ⟨ub, uo, none⟩) m uc) fs cs ∧ Blk wr xb 56 #[.int .i64 f.kind, .int .i64 f.n, .int .i64 f.frm, .string f.text] ∧ SafeK wr mb xb)) (fun i _ => T - (intOf i).toNat)
                case atStart => exact ⟨0, c', ou, Nat.zero_le _, rfl, by omega, Lib.hid (StepK.refl _ _), H7⟩
                case round =>
                  obtain ⟨j, c2, o2, hj, rfl, hc2, HS, HR⟩ := hrel
                  obtain ⟨wz, rfl⟩ : ∃ wz, wz = wr := ⟨_, rfl⟩
                  have x2 : wz.cell? ⟨xb, 2, none⟩ = some (.int .i64 (q : Nat)) := by rw [HR.out.2.2.2.1.cell, ← HQF.out]; rfl
                  have xq : wz.cell? ⟨w.heap.size + 1, q, none⟩ = some (.int .i64 (T : Nat)) := by rw [(HR.out.2.2.1.cell (j := q) (by omega)).1, HT.out]
                  have z0 : wz.cell? ⟨g7, 0, none⟩ = some (.int .i64 f.n) := by rw [(HIV.out _ HS.out).2.2.cell]; rfl
                  have z1 : wz.cell? ⟨g7, 1, none⟩ = some (.slice fa mq fc) := by rw [(HIV.out _ HS.out).2.2.cell]; rfl
                  have hqi : (0 : Int) ≤ (q : Int) ∧ (q : Int) < (m : Int) := by omega
                  have hjB : j * B + B ≤ 2 * B ∨ ¬ j < T := by
                    by_cases hjt : j < T
                    · left
                      have h1 : (j + 1) * B ≤ 2 * B := Nat.mul_le_mul_right B (by omega)
                      rw [Nat.succ_mul] at h1
                      exact h1
                    · exact .inr hjt
                  by_cases hjt : j < T
                  · have hjB2 := hjB.resolve_right (fun h => h hjt)
                    go_wp2_with fail
                    refine (HP.out.2.2.1 wz o2 c2 f.n iq (.slice fa mq fc) HR.out.2.1 hiq hiqn (by rw [← HFQ.out]; exact (HIV.out _ HS.out).1) (HIV.out _ HS.out).2.1 (by rw [← HP.out.2.2.2.1]; omega)).mono ?_
                    rintro e w8 ⟨rfl, s8, o8, c8, hc8, m8⟩
                    rw [← HP.out.2.2.2.1] at hc8
                    have H8 := Lib.hid (And.intro (HR.out.1.trans s8) (And.intro m8 (And.intro (HR.out.2.2.1.step s8) (And.intro (show Blk _ xb 56 #[.int .i64 f.kind, .int .i64 f.n, .int .i64 f.frm, .string f.text] from (s8.same HR.out.2.2.2.2).trans HR.out.2.2.2.1) (s8.safe _ HR.out.2.2.2.2)))))
                    have HS8 := Lib.hid (HS.out.trans s8)
                    clear s8 m8 x2 xq z0 z1
                    go_wp2_with fail
                    exact ⟨⟨j + 1, c8, o8, by omega, by go_num, by rw [Nat.succ_mul]; omega, HS8, H8⟩, by simp [intOf]; omega⟩
                  · obtain rfl : j = T := by omega
                    have hTB : j * B ≤ 2 * B := Nat.mul_le_mul_right B hT2
                    have x0 : wz.cell? ⟨xb, 0, none⟩ = some (.int .i64 f.kind) := by rw [HR.out.2.2.2.1.cell]; rfl
                    have x1 : wz.cell? ⟨xb, 1, none⟩ = some (.int .i64 f.n) := by rw [HR.out.2.2.2.1.cell]; rfl
                    have x2 : wz.cell? ⟨xb, 2, none⟩ = some (.int .i64 f.frm) := by rw [HR.out.2.2.2.1.cell]; rfl
                    have x3 : wz.cell? ⟨xb, 3, none⟩ = some (.string f.text) := by rw [HR.out.2.2.2.1.cell]; rfl
                    have a0 : wz.cell? ⟨w.heap.size, 0, none⟩ = some (.int .i64 id) := by rw [HR.out.2.2.1.fblk.cell]; rfl
                    have a1 : wz.cell? ⟨w.heap.size, 1, none⟩ = some (.slice (some ⟨ub, uo, none⟩) m uc) := by rw [HR.out.2.2.1.fblk.cell]; rfl
                    go_wp2_with fail
                    refine (given_any id _ fs k wz HR.out.2.2.1.flds hkl).mono ?_
                    rw [show givenB fs k = false by rw [givenB, ← Hf.out.1, if_neg (by rw [H5K.out]; decide), if_neg (by rw [H5K.out]; decide)]]
                    rintro e wg ⟨rfl, hBg⟩
                    obtain ⟨sg, -, mg⟩ := HR.out.2.1.below hBg
                    have Hg := Lib.hid (And.intro (HR.out.1.trans sg) (And.intro mg (And.intro (HR.out.2.2.1.step sg) (And.intro (show Blk _ xb 56 #[.int .i64 f.kind, .int .i64 f.n, .int .i64 f.frm, .string f.text] from (sg.same HR.out.2.2.2.2).trans HR.out.2.2.2.1) (sg.safe _ HR.out.2.2.2.2)))))
                    clear hBg sg mg
                    clear x0 x1 x2 x3 a0 a1
                    go_wp2_with fail
                    exact ⟨⟨k + 1, c2, o2, cs, by omega, by go_num, by rw [Nat.succ_mul]; omega, Lib.hid ⟨Hg.out.1, Hg.out.2.1, Hg.out.2.2.1⟩⟩, by simp [intOf]; omega⟩
          case kB34 =>
            intro K hK
            go_simp
            refine hK.out _ _ (fun _ => (bx _).drew) ?_
            clear hK K
            (try simp only [pA, pB, pC, pD])
            have hba : Below W4.heap.size W4 (W4.alloc (.cells #[.int .i64 0, .slice none 0 0] 52)).drew := (bx _).drew
            have hza : Blk (W4.alloc (.cells #[.int .i64 0, .slice none 0 0] 52)).drew W4.heap.size 52 #[.int .i64 0, .slice none 0 0] := Blk.new W4 _ _
            generalize (W4.alloc (.cells #[.int .i64 0, .slice none 0 0] 52)).drew = Wa at *
            refine wpAnyT_ready (rs := [6]) (by kernel_rfl) (by simp) ?_
            refine AllReadyT.cons (o := ?oB41) ?hB41 ?kB41 AllReadyT.nil
            case hB41 => (simp only [List.getElem?_toArray, List.getElem?_cons_zero, List.getElem?_cons_succ]; rfl)
            case kB41 =>
              intro K hK
              go_simp
              refine (hFIND.out _ hba).mono ?_
              rintro e w5 ⟨⟨v, rfl, hv1, hv2⟩, hB5⟩
              obtain ⟨fa, fc, rfl, -⟩ := hv1.slice_
              obtain ⟨mq, hmq⟩ : ∃ mq, mq = fq.length := ⟨_, rfl⟩
              rw [← hmq] at hv1 hv2 ⊢
              clear hmq
              refine hK.out _ _ (no_more (by kernel_rfl)) ?_
              clear hK K
              (try simp only [pA, pB, pC, pD])
              refine anyT 7 (S := by exact no_more (by kernel_rfl)) (h := ?_)
              (try simp only [pA, pB, pC, pD])
              refine anyT 8 (S := by exact no_more (by kernel_rfl)) (h := ?_)
              (try simp only [pA, pB, pC, pD])
              refine anyT 9 (S := by exact no_more (by kernel_rfl)) (h := ?_)
              (try simp only [pA, pB, pC, pD])
              have hz : Blk w5 W4.heap.size 52 #[.int .i64 0, .slice none 0 0] := (hB5.block _ hza.lt).trans hza
              have z0 := hz.cell 0
              have z1 := hz.cell 1
              have y0 := hz.frozen 0
              have y1 := hz.frozen 1
              simp only [List.getElem?_toArray, List.getElem?_cons_zero, List.getElem?_cons_succ] at z0 z1
              refine wpAnyT_ready (rs := [11]) (by kernel_rfl) (by simp) ?_
              refine AllReadyT.cons (o := ?oB45) ?hB45 ?kB45 AllReadyT.nil
              case hB45 => (simp only [List.getElem?_toArray, List.getElem?_cons_zero, List.getElem?_cons_succ]; rfl)
              case kB45 =>
                intro K hK
                go_simp
                refine hK.out _ _ (no_more (by kernel_rfl)) ?_
                clear hK K
                (try simp only [pA, pB, pC, pD])
                refine anyT 12 (S := by exact no_more (by kernel_rfl)) (h := ?_)
                (try simp only [pA, pB, pC, pD])
                refine wpAnyT_done (by kernel_rfl) ?_ _
                have hBz : Below W4.heap.size W4 ((w5.setCell ⟨W4.heap.size, 0, none⟩ (.int .i64 f.n)).setCell ⟨W4.heap.size, 1, none⟩ (.slice fa mq fc)) := ((hba.trans (hB5.mono hba.size)).setCell (p := ⟨W4.heap.size, 0, none⟩) (Nat.le_refl _) _).setCell (p := ⟨W4.heap.size, 1, none⟩) (Nat.le_refl _) _
                have hoth : ∀ q, q ≠ W4.heap.size → ((w5.setCell ⟨W4.heap.size, 0, none⟩ (.int .i64 f.n)).setCell ⟨W4.heap.size, 1, none⟩ (.slice fa mq fc)).heap[q]? = w5.heap[q]? := fun q hq => (Below.heap_setCell _ _ _ _ hq).trans (Below.heap_setCell _ _ _ _ hq)
                have hsz9 : ((w5.setCell ⟨W4.heap.size, 0, none⟩ (.int .i64 f.n)).setCell ⟨W4.heap.size, 1, none⟩ (.slice fa mq fc)).heap.size = w5.heap.size := by simp [World.setCell]
                have HI7 := Lib.hid (Inner.mk (id := f.n) (v := .slice fa mq fc) hBz ((hz.set_ 0 _).set_ 1 _) (Nat.le_refl _) (hv1.keep (by rw [hsz9]; exact Nat.le_refl _) fun b hb => hoth b (by have := (hv2 b hb).1; have := hza.lt; omega)) (fun b hb => ⟨Nat.le_trans hba.size (hv2 b hb).1, by rw [hsz9]; exact (hv2 b hb).2⟩))
                generalize (w5.setCell ⟨W4.heap.size, 0, none⟩ (.int .i64 f.n)).setCell ⟨W4.heap.size, 1, none⟩ (.slice fa mq fc) = W7 at *
                obtain ⟨g7, hg7⟩ : ∃ g7, g7 = W4.heap.size := ⟨_, rfl⟩
                rw [← hg7] at HI7 ⊢
                clear hz z0 z1 y0 y1 hB5 hv1 hv2 hg7 hHeld hBz hoth hsz9 hba hza
                obtain ⟨s7, n7, m7⟩ := H4.out.2.1.below HI7.out.b
                have H7 := Lib.hid (And.intro (H4.out.1.trans s7) (And.intro m7 (And.intro (H4.out.2.2.1.step s7) (And.intro (show Blk _ xb 56 #[.int .i64 f.kind, .int .i64 f.n, .int .i64 f.frm, .string f.text] from (s7.same H4.out.2.2.2.2).trans H4.out.2.2.2.1) (s7.safe _ H4.out.2.2.2.2)))))
                have HIV : Hid (∀ W, StepK mb W7 W → FldsAt W (.slice fa mq fc) fq ∧ (∀ b, (Value.slice fa mq fc).ownBlock = some b → SafeK W mb b) ∧ Blk W g7 52 #[.int .i64 f.n, .slice fa mq fc]) := Lib.hid fun W hs =>
                  ⟨HI7.out.flds.keep hs.base.size fun b hb => hs.same (n7 b (HI7.out.own b hb).1 (HI7.out.own b hb).2), fun b hb => hs.safe _ (n7 b (HI7.out.own b hb).1 (HI7.out.own b hb).2), (hs.same (n7 g7 HI7.out.lo HI7.out.blk.lt)).trans HI7.out.blk⟩
                clear s7 n7 m7
                obtain ⟨q, hq, hqk⟩ := Hf.out.2.2.2 H5K.out
                obtain ⟨T, hT⟩ : ∃ T : Nat, T = (cs.getD q 0).toNat := ⟨_, rfl⟩
                have hc2 := H7.out.2.2.1.c02 q
                have HT : Hid (cs.getD q 0 = (T : Int)) := Lib.hid (by omega)
                have hT2 : T ≤ 2 := by omega
                have HQF := Lib.hid hq
                clear hq hT hc2
                go_wp2_with fail
                go_loopw [11] (fun i wr => ∃ (j c2 : Nat) (o2 : List ByteArray), j ≤ T ∧ i = .int .i64 j ∧ c2 ≤ c' + j * B ∧ Hid (StepK mb W7 wr) ∧ Hid (StepK mb w wr ∧ MkA wr mb top L (.slice la L.length lc) o2 c2 ∧ Loc w wr mb w.heap.size (w.heap.size + 1) id (.slice (some ⟨ub, uo, none⟩) m uc) fs cs ∧ Blk wr xb 56 #[.int .i64 f.kind, .int .i64 f.n, .int .i64 f.frm, .string f.text] ∧ SafeK wr mb xb)) (fun i _ => T - (intOf i).toNat)
                case atStart => exact ⟨0, c', ou, Nat.zero_le _, rfl, by omega, Lib.hid (StepK.refl _ _), H7⟩
                case round =>
                  obtain ⟨j, c2, o2, hj, rfl, hc2, HS, HR⟩ := hrel
                  obtain ⟨wz, rfl⟩ : ∃ wz, wz = wr := ⟨_, rfl⟩
                  have x2 : wz.cell? ⟨xb, 2, none⟩ = some (.int .i64 (q : Nat)) := by rw [HR.out.2.2.2.1.cell, ← HQF.out]; rfl
                  have xq : wz.cell? ⟨w.heap.size + 1, q, none⟩ = some (.int .i64 (T : Nat)) := by rw [(HR.out.2.2.1.cell (j := q) (by omega)).1, HT.out]
                  have z0 : wz.cell? ⟨g7, 0, none⟩ = some (.int .i64 f.n) := by rw [(HIV.out _ HS.out).2.2.cell]; rfl
                  have z1 : wz.cell? ⟨g7, 1, none⟩ = some (.slice fa mq fc) := by rw [(HIV.out _ HS.out).2.2.cell]; rfl
                  have hqi : (0 : Int) ≤ (q : Int) ∧ (q : Int) < (m : Int) := by omega
                  have hjB : j * B + B ≤ 2 * B ∨ ¬ j < T := by
                    by_cases hjt : j < T
                    · left
                      have h1 : (j + 1) * B ≤ 2 * B := Nat.mul_le_mul_right B (by omega)
                      rw [Nat.succ_mul] at h1
                      exact h1
                    · exact .inr hjt
                  by_cases hjt : j < T
                  · have hjB2 := hjB.resolve_right (fun h => h hjt)
                    go_wp2_with fail
                    refine (HP.out.2.2.1 wz o2 c2 f.n iq (.slice fa mq fc) HR.out.2.1 hiq hiqn (by rw [← HFQ.out]; exact (HIV.out _ HS.out).1) (HIV.out _ HS.out).2.1 (by rw [← HP.out.2.2.2.1]; omega)).mono ?_
                    rintro e w8 ⟨rfl, s8, o8, c8, hc8, m8⟩
                    rw [← HP.out.2.2.2.1] at hc8
                    have H8 := Lib.hid (And.intro (HR.out.1.trans s8) (And.intro m8 (And.intro (HR.out.2.2.1.step s8) (And.intro (show Blk _ xb 56 #[.int .i64 f.kind, .int .i64 f.n, .int .i64 f.frm, .string f.text] from (s8.same HR.out.2.2.2.2).trans HR.out.2.2.2.1) (s8.safe _ HR.out.2.2.2.2)))))
                    have HS8 := Lib.hid (HS.out.trans s8)
                    clear s8 m8 x2 xq z0 z1
                    go_wp2_with fail
                    exact ⟨⟨j + 1, c8, o8, by omega, by go_num, by rw [Nat.succ_mul]; omega, HS8, H8⟩, by simp [intOf]; omega⟩
                  · obtain rfl : j = T := by omega
                    have hTB : j * B ≤ 2 * B := Nat.mul_le_mul_right B hT2
                    have x0 : wz.cell? ⟨xb, 0, none⟩ = some (.int .i64 f.kind) := by rw [HR.out.2.2.2.1.cell]; rfl
                    have x1 : wz.cell? ⟨xb, 1, none⟩ = some (.int .i64 f.n) := by rw [HR.out.2.2.2.1.cell]; rfl
                    have x2 : wz.cell? ⟨xb, 2, none⟩ = some (.int .i64 f.frm) := by rw [HR.out.2.2.2.1.cell]; rfl
                    have x3 : wz.cell? ⟨xb, 3, none⟩ = some (.string f.text) := by rw [HR.out.2.2.2.1.cell]; rfl
                    have a0 : wz.cell? ⟨w.heap.size, 0, none⟩ = some (.int .i64 id) := by rw [HR.out.2.2.1.fblk.cell]; rfl
                    have a1 : wz.cell? ⟨w.heap.size, 1, none⟩ = some (.slice (some ⟨ub, uo, none⟩) m uc) := by rw [HR.out.2.2.1.fblk.cell]; rfl
                    go_wp2_with fail
                    refine (given_any id _ fs k wz HR.out.2.2.1.flds hkl).mono ?_
                    rw [show givenB fs k = false by rw [givenB, ← Hf.out.1, if_neg (by rw [H5K.out]; decide), if_neg (by rw [H5K.out]; decide)]]
                    rintro e wg ⟨rfl, hBg⟩
                    obtain ⟨sg, -, mg⟩ := HR.out.2.1.below hBg
                    have Hg := Lib.hid (And.intro (HR.out.1.trans sg) (And.intro mg (And.intro (HR.out.2.2.1.step sg) (And.intro (show Blk _ xb 56 #[.int .i64 f.kind, .int .i64 f.n, .int .i64 f.frm, .string f.text] from (sg.same HR.out.2.2.2.2).trans HR.out.2.2.2.1) (sg.safe _ HR.out.2.2.2.2)))))
                    clear hBg sg mg
                    clear x0 x1 x2 x3 a0 a1
                    go_wp2_with fail
                    exact ⟨⟨k + 1, c2, o2, cs, by omega, by go_num, by rw [Nat.succ_mul]; omega, Lib.hid ⟨Hg.out.1, Hg.out.2.1, Hg.out.2.2.1⟩⟩, by simp [intOf]; omega⟩
        · have d4 : (f.kind == 4) = false := by simp [h4]
          have HNK := Lib.hid (And.intro h5 h4)
          clear h4 h5
          have x0 : W4.cell? ⟨xb, 0, none⟩ = some (.int .i64 f.kind) := by rw [H4.out.2.2.2.1.cell]; rfl
          have x1 : W4.cell? ⟨xb, 1, none⟩ = some (.int .i64 f.n) := by rw [H4.out.2.2.2.1.cell]; rfl
          have x2 : W4.cell? ⟨xb, 2, none⟩ = some (.int .i64 f.frm) := by rw [H4.out.2.2.2.1.cell]; rfl
          have x3 : W4.cell? ⟨xb, 3, none⟩ = some (.string f.text) := by rw [H4.out.2.2.2.1.cell]; rfl
          have a0 : W4.cell? ⟨w.heap.size, 0, none⟩ = some (.int .i64 id) := by rw [H4.out.2.2.1.fblk.cell]; rfl
          have a1 : W4.cell? ⟨w.heap.size, 1, none⟩ = some (.slice (some ⟨ub, uo, none⟩) m uc) := by rw [H4.out.2.2.1.fblk.cell]; rfl
          go_wp2_with fail
          refine (given_any id _ fs k W4 H4.out.2.2.1.flds hkl).mono ?_
          rintro e w5 ⟨rfl, hB5⟩
          obtain ⟨s5, -, m5⟩ := H4.out.2.1.below hB5
          have H5 := Lib.hid (And.intro (H4.out.1.trans s5) (And.intro m5 (And.intro (H4.out.2.2.1.step s5) (And.intro (show Blk _ xb 56 #[.int .i64 f.kind, .int .i64 f.n, .int .i64 f.frm, .string f.text] from (s5.same H4.out.2.2.2.2).trans H4.out.2.2.2.1) (s5.safe _ H4.out.2.2.2.2)))))
          clear hB5 s5 m5
          clear x0 x1 x2 x3 a0 a1
          rcases hg : givenB fs k with _ | _
          · clear hg
            go_wp2_with fail
            exact ⟨⟨k + 1, c', ou, cs, by omega, by go_num, by rw [Nat.succ_mul]; omega, Lib.hid ⟨H5.out.1, H5.out.2.1, H5.out.2.2.1⟩⟩, by simp [intOf]; omega⟩
          · have hn4 : 0 ≤ f.n ∧ f.n ≤ 4 := Hf.out.2.2.1 (by
            rw [givenB, ← Hf.out.1] at hg
            by_cases h3 : f.kind = 3
            · exact .inr h3
            · rw [if_neg h3] at hg
              by_cases h2 : f.kind = 2
              · exact .inl h2
              · rw [if_neg h2] at hg; cases hg)
            clear hg
            obtain ⟨nn, hnn⟩ : ∃ nn : Nat, f.n = (nn : Int) := ⟨f.n.toNat, by omega⟩
            have hnn4 : nn ≤ 4 := by omega
            have HNN := Lib.hid hnn
            clear hnn hn4
            have x1 : w5.cell? ⟨xb, 1, none⟩ = some (.int .i64 (nn : Nat)) := by rw [H5.out.2.2.2.1.cell, ← HNN.out]; rfl
            have x2 : w5.cell? ⟨xb, 2, none⟩ = some (.int .i64 f.frm) := by rw [H5.out.2.2.2.1.cell]; rfl
            have a1 : w5.cell? ⟨w.heap.size, 1, none⟩ = some (.slice (some ⟨ub, uo, none⟩) m uc) := by rw [H5.out.2.2.1.fblk.cell]; rfl
            by_cases hfr : f.frm ≥ 0
            · go_wp2_with fail
              refine (mnext_any H5.out.2.1).mono ?_
              rintro e w6 ⟨⟨z, rfl, z1, z2⟩, s6, m6⟩
              have H6 := Lib.hid (And.intro (H5.out.1.trans s6) (And.intro m6 (And.intro (H5.out.2.2.1.step s6) (And.intro (show Blk _ xb 56 #[.int .i64 f.kind, .int .i64 f.n, .int .i64 f.frm, .string f.text] from (s6.same H5.out.2.2.2.2).trans H5.out.2.2.2.1) (s6.safe _ H5.out.2.2.2.2)))))
              clear s6 m6
              go_wp2_with fail
              obtain ⟨r, hr, hr5⟩ := cpick_nat z 5 (by omega)
              refine (cpick_any z 5 r w6 z1 z2 (by omega) (by omega) hr).mono ?_
              clear z1 z2 hr
              rintro e w' ⟨rfl, rfl⟩
              obtain ⟨w6, rfl⟩ : ∃ w6, w6 = w' := ⟨_, rfl⟩
              clear x1 x2 a1
              go_wp2_with fail
              go_loopw [13, 14] (fun s i wr => ∃ (j : Nat) (S : ByteArray), j ≤ r ∧ s = .string S ∧ i = .int .i64 j ∧ S.size = j ∧ Hid (StepK mb w wr ∧ MkA wr mb top L (.slice la L.length lc) ou c' ∧ Loc w wr mb w.heap.size (w.heap.size + 1) id (.slice (some ⟨ub, uo, none⟩) m uc) fs cs ∧ Blk wr xb 56 #[.int .i64 f.kind, .int .i64 f.n, .int .i64 f.frm, .string f.text] ∧ SafeK wr mb xb)) (fun _ i _ => r - (intOf i).toNat)
              case atStart => exact ⟨0, ⟨#[]⟩, Nat.zero_le _, rfl, rfl, rfl, H6⟩
              case round =>
                obtain ⟨j, S, hj, rfl, rfl, hSz, HR⟩ := hrel
                obtain ⟨wz, rfl⟩ : ∃ wz, wz = wr := ⟨_, rfl⟩
                by_cases hjt : j < r
                · go_wp2_with fail
                  refine (mnext_any HR.out.2.1).mono ?_
                  rintro e w6 ⟨⟨z, rfl, z1, z2⟩, s6, m6⟩
                  have H6 := Lib.hid (And.intro (HR.out.1.trans s6) (And.intro m6 (And.intro (HR.out.2.2.1.step s6) (And.intro (show Blk _ xb 56 #[.int .i64 f.kind, .int .i64 f.n, .int .i64 f.frm, .string f.text] from (s6.same HR.out.2.2.2.2).trans HR.out.2.2.2.1) (s6.safe _ HR.out.2.2.2.2)))))
                  clear s6 m6
                  go_wp2_with fail
                  obtain ⟨r, hr, hr3⟩ := cpick_nat z 3 (by omega)
                  refine (cpick_any z 3 r w6 z1 z2 (by omega) (by omega) hr).mono ?_
                  clear z1 z2 hr
                  rintro e w' ⟨rfl, rfl⟩
                  obtain ⟨w6, rfl⟩ : ∃ w6, w6 = w' := ⟨_, rfl⟩
                  obtain ⟨s9, -, m9⟩ := H6.out.2.1.below (bx (w := w6) (.cells #[.int .u8 (97 + (r : Int))] 5))
                  have H9 := Lib.hid (And.intro (H6.out.1.trans s9) (And.intro m9 (And.intro (H6.out.2.2.1.step s9) (And.intro (show Blk _ xb 56 #[.int .i64 f.kind, .int .i64 f.n, .int .i64 f.frm, .string f.text] from (s9.same H6.out.2.2.2.2).trans H6.out.2.2.2.1) (s9.safe _ H6.out.2.2.2.2)))))
                  clear s9 m9
                  have hcv := conv_byte w6 (97 + (r : Int))
                  have hs9 : ((⟨#[UInt8.ofNat (97 + (r : Int)).toNat]⟩ : ByteArray)).size = 1 := rfl
                  go_wp2_with fail
                  exact ⟨⟨j + 1, _, by omega, rfl, by go_num, by rw [ByteArray.size_append, hSz]; show _ + 1 = _; omega, H9⟩, by simp [intOf]; omega⟩
                · obtain rfl : r = j := by omega
                  go_wp2_with fail
                  go_loopw [13, 15] (fun s i wr => ∃ (y : Nat) (S : ByteArray) (cs : List Int), k + 1 ≤ y ∧ y ≤ m ∧ s = .string S ∧ i = .int .i64 y ∧ S.size ≤ 8 ∧ Hid (StepK mb w wr ∧ MkA wr mb top L (.slice la L.length lc) ou c' ∧ Loc w wr mb w.heap.size (w.heap.size + 1) id (.slice (some ⟨ub, uo, none⟩) m uc) fs cs ∧ Blk wr xb 56 #[.int .i64 f.kind, .int .i64 f.n, .int .i64 f.frm, .string f.text] ∧ SafeK wr mb xb)) (fun _ i _ => m - (intOf i).toNat)
                  case atStart => exact ⟨k + 1, S, cs, Nat.le_refl _, by omega, rfl, by go_num, by omega, HR⟩
                  case round =>
                    obtain ⟨y, S, cs, hky, hym, rfl, rfl, hS8, HR⟩ := hrel
                    obtain ⟨wz, rfl⟩ : ∃ wz, wz = wr := ⟨_, rfl⟩
                    have a1 : wz.cell? ⟨w.heap.size, 1, none⟩ = some (.slice (some ⟨ub, uo, none⟩) m uc) := by rw [HR.out.2.2.1.fblk.cell]; rfl
                    by_cases hyt : y < m
                    · obtain ⟨ub', uo', e0, -, -, -, -, hfl⟩ := HR.out.2.2.1.flds.at_ (by rw [← HP.out.2.1]; omega)
                      cases e0
                      obtain ⟨fy, hfy⟩ : ∃ fy, fy = fs.getD y zf := ⟨_, rfl⟩
                      have hya := hfl y (by rw [← HP.out.2.1]; exact hyt)
                      rw [← hfy] at hya
                      have y0 := hya.c0
                      have y2 := hya.c2
                      have hyi : (0 : Int) ≤ (y : Int) ∧ (y : Int) < (m : Int) := by omega
                      have b3 := HR.out.2.1.table.2.2.2.2.2
                      clear hfl hya hfy
                      by_cases hy4 : fy.kind = 4
                      · have e4 : (fy.kind == 4) = true := by simp [hy4]
                        by_cases hyk : fy.frm = (k : Int)
                        · have e5 : (fy.frm == (k : Int)) = true := by simp [hyk]
                          clear hy4 hyk
                          by_cases hc200 : c' < 200
                          · have h200 : (c' : Int) < 200 := by omega
                            go_wp2_with fail
                            refine (mnext_any HR.out.2.1).mono ?_
                            rintro e w6 ⟨⟨z, rfl, z1, z2⟩, s6, m6⟩
                            have H6 := Lib.hid (And.intro (HR.out.1.trans s6) (And.intro m6 (And.intro (HR.out.2.2.1.step s6) (And.intro (show Blk _ xb 56 #[.int .i64 f.kind, .int .i64 f.n, .int .i64 f.frm, .string f.text] from (s6.same HR.out.2.2.2.2).trans HR.out.2.2.2.1) (s6.safe _ HR.out.2.2.2.2)))))
                            clear s6 m6 y0 y2 a1 b3 e4 e5
                            have ck := (H6.out.2.2.1.cell hkl).1
                            have fk := (H6.out.2.2.1.cell hkl).2
                            go_wp2_with fail
                            obtain ⟨r2, hr2, hr23⟩ := cpick_nat z 3 (by omega)
                            refine (cpick_any z 3 r2 w6 z1 z2 (by omega) (by omega) hr2).mono ?_
                            clear z1 z2 hr2
                            rintro e w' ⟨rfl, rfl⟩
                            obtain ⟨w6, rfl⟩ : ∃ w6, w6 = w' := ⟨_, rfl⟩
                            obtain ⟨xv, ov, hma⟩ := H6.out.2.1
                            obtain ⟨o1, o2⟩ := hma.other (q := w.heap.size + 1) (i := k) H6.out.2.2.1.sc (by omega) (.int .i64 (r2 : Nat))
                            have HB := Lib.hid (And.intro (H6.out.1.other (q := w.heap.size + 1) (i := k) (by omega) o1) (And.intro (show MkA _ mb top L (.slice la L.length lc) ou c' from ⟨_, _, o2⟩) (And.intro (H6.out.2.2.1.count (j := k) (z := (r2 : Int)) (by omega) (by omega) o1) (And.intro (show Blk _ xb 56 #[.int .i64 f.kind, .int .i64 f.n, .int .i64 f.frm, .string f.text] from (show (w6.setCell ⟨w.heap.size + 1, k, none⟩ (.int .i64 (r2 : Nat))).heap[xb]? = w6.heap[xb]? from Below.heap_setCell _ _ _ _ (show xb ≠ w.heap.size + 1 from Blk.ne_ H6.out.2.2.2.1 H6.out.2.2.1.cblk (by decide))).trans H6.out.2.2.2.1) (o1 _ H6.out.2.2.2.2)))))
                            have HZ : Hid ((cs.set k (r2 : Int)).getD k 0 = (r2 : Int) ∧ 0 ≤ (r2 : Int) ∧ (r2 : Int) ≤ 2) := Lib.hid ⟨by
                              have hcl := H6.out.2.2.1.cl
                              rw [List.getD_eq_getElem?_getD, List.getElem?_set_self (by omega)]; rfl, by omega, by omega⟩
                            clear hma o1 o2
                            go_upto_region 31 with fail
                            clear ck fk
                            generalize w6.setCell ⟨w.heap.size + 1, k, none⟩ (.int .i64 (r2 : Nat)) = wB at *
                            have HF31 : Hid (∀ W, Below wB.heap.size wB W → W.cell? ⟨w.heap.size + 1, k, none⟩ = some (.int .i64 (r2 : Int)) ∧ W.cell? ⟨xb, 1, none⟩ = some (.int .i64 (nn : Nat))) := Lib.hid fun W hb =>
                              ⟨by rw [World.cell?_of_block (w := wB) (hb.block _ HB.out.2.2.1.sc.lt), (HB.out.2.2.1.cell hkl).1, HZ.out.1], by rw [World.cell?_of_block (w := wB) (hb.block _ HB.out.2.2.2.2.lt), HB.out.2.2.2.1.cell, ← HNN.out]; rfl⟩
                            refine wp_region_T 6 (fun w' : World => Below wB.heap.size wB w') (by kernel_rfl) (Below.refl _ _).drew (fun hHeld => ?_)
                            refine anyT 0 (h := ?_)
                            (try simp only [pA, pB, pC, pD])
                            refine anyT 1 (h := ?_)
                            (try simp only [pA, pB, pC, pD])
                            refine takeT 2 (y := by intro wS hSw; obtain ⟨s0, s1⟩ := HF31.out _ hSw; go_simp; (try with_reducible rfl)) (h := ?_)
                            (try simp only [pA, pB, pC, pD])
                            refine takeT 3 (y := by intro wS hSw; obtain ⟨s0, s1⟩ := HF31.out _ hSw; go_simp; (try with_reducible rfl)) (h := ?_)
                            (try simp only [pA, pB, pC, pD])
                            refine anyT 4 (h := ?_)
                            (try simp only [pA, pB, pC, pD])
                            refine takeT 5 (y := by intro wS hSw; obtain ⟨s0, s1⟩ := HF31.out _ hSw; go_simp; (try with_reducible rfl)) (h := ?_)
                            (try simp only [pA, pB, pC, pD])
                            refine wpAnyT_ready (rs := [6]) (by kernel_rfl) (by simp) ?_
                            refine AllReadyT.cons (o := ?oB56) ?hB56 ?kB56 AllReadyT.nil
                            case hB56 => (simp only [List.getElem?_toArray, List.getElem?_cons_zero, List.getElem?_cons_succ]; rfl)
                            case kB56 =>
                              intro K hK
                              go_simp
                              refine (written_any (r2 : Int) nn wB.drew HZ.out.2.1 (by have := HZ.out.2.2; omega) (by omega)).mono ?_
                              rintro e w9 ⟨rfl, hB9⟩
                              have hB99 : Below wB.heap.size wB w9 := (Below.refl _ _).drew.trans hB9
                              obtain ⟨s9, -, m9⟩ := HB.out.2.1.below hB99
                              refine hK.out _ _ (no_more (by kernel_rfl)) ?_
                              clear hK K
                              (try simp only [pA, pB, pC, pD])
                              refine anyT 7 (S := by exact no_more (by kernel_rfl)) (h := ?_)
                              (try simp only [pA, pB, pC, pD])
                              refine wpAnyT_done (by kernel_rfl) ?_ _
                              have H9 := Lib.hid (And.intro (HB.out.1.trans s9) (And.intro m9 (And.intro (HB.out.2.2.1.step s9) (And.intro (show Blk _ xb 56 #[.int .i64 f.kind, .int .i64 f.n, .int .i64 f.frm, .string f.text] from (s9.same HB.out.2.2.2.2).trans HB.out.2.2.2.1) (s9.safe _ HB.out.2.2.2.2)))))
                              clear s9 m9 hB9 hB99 hHeld
                              have hS9 : (bytesOf (nbytes nn (r2 : Int))).size ≤ 8 := by show (nbytes nn (r2 : Int)).toArray.size ≤ 8; rw [List.size_toArray, nbytes_len]; omega
                              go_wp2_with fail
                              exact ⟨⟨y + 1, _, _, by omega, by omega, rfl, by go_num, hS9, H9⟩, by simp [intOf]; omega⟩
                          · have h200 : (200 : Int) ≤ (c' : Int) := by omega
                            clear hc200
                            obtain ⟨zc, hzc⟩ : ∃ zc, zc = cs.getD k 0 := ⟨_, rfl⟩
                            have HZ : Hid (cs.getD k 0 = zc ∧ 0 ≤ zc ∧ zc ≤ 2) := Lib.hid ⟨hzc.symm, by rw [hzc]; exact HR.out.2.2.1.c02 k⟩
                            clear hzc
                            go_upto_region 31 with fail
                            clear y0 y2 a1 b3 e4 e5
                            have HF31 : Hid (∀ W, Below wz.heap.size wz W → W.cell? ⟨w.heap.size + 1, k, none⟩ = some (.int .i64 (zc)) ∧ W.cell? ⟨xb, 1, none⟩ = some (.int .i64 (nn : Nat))) := Lib.hid fun W hb =>
                              ⟨by rw [World.cell?_of_block (w := wz) (hb.block _ HR.out.2.2.1.sc.lt), (HR.out.2.2.1.cell hkl).1, HZ.out.1], by rw [World.cell?_of_block (w := wz) (hb.block _ HR.out.2.2.2.2.lt), HR.out.2.2.2.1.cell, ← HNN.out]; rfl⟩
                            refine wp_region_T 6 (fun w' : World => Below wz.heap.size wz w') (by kernel_rfl) (Below.refl _ _).drew (fun hHeld => ?_)
                            refine anyT 0 (h := ?_)
                            (try simp only [pA, pB, pC, pD])
                            refine anyT 1 (h := ?_)
                            (try simp only [pA, pB, pC, pD])
                            refine takeT 2 (y := by intro wS hSw; obtain ⟨s0, s1⟩ := HF31.out _ hSw; go_simp; (try with_reducible rfl)) (h := ?_)
                            (try simp only [pA, pB, pC, pD])
                            refine takeT 3 (y := by intro wS hSw; obtain ⟨s0, s1⟩ := HF31.out _ hSw; go_simp; (try with_reducible rfl)) (h := ?_)
                            (try simp only [pA, pB, pC, pD])
                            refine anyT 4 (h := ?_)
                            (try simp only [pA, pB, pC, pD])
                            refine takeT 5 (y := by intro wS hSw; obtain ⟨s0, s1⟩ := HF31.out _ hSw; go_simp; (try with_reducible rfl)) (h := ?_)
                            (try simp only [pA, pB, pC, pD])
                            refine wpAnyT_ready (rs := [6]) (by kernel_rfl) (by simp) ?_
                            refine AllReadyT.cons (o := ?oB67) ?hB67 ?kB67 AllReadyT.nil
                            case hB67 => (simp only [List.getElem?_toArray, List.getElem?_cons_zero, List.getElem?_cons_succ]; rfl)
                            case kB67 =>
                              intro K hK
                              go_simp
                              refine (written_any (zc) nn wz.drew HZ.out.2.1 (by have := HZ.out.2.2; omega) (by omega)).mono ?_
                              rintro e w9 ⟨rfl, hB9⟩
                              have hB99 : Below wz.heap.size wz w9 := (Below.refl _ _).drew.trans hB9
                              obtain ⟨s9, -, m9⟩ := HR.out.2.1.below hB99
                              refine hK.out _ _ (no_more (by kernel_rfl)) ?_
                              clear hK K
                              (try simp only [pA, pB, pC, pD])
                              refine anyT 7 (S := by exact no_more (by kernel_rfl)) (h := ?_)
                              (try simp only [pA, pB, pC, pD])
                              refine wpAnyT_done (by kernel_rfl) ?_ _
                              have H9 := Lib.hid (And.intro (HR.out.1.trans s9) (And.intro m9 (And.intro (HR.out.2.2.1.step s9) (And.intro (show Blk _ xb 56 #[.int .i64 f.kind, .int .i64 f.n, .int .i64 f.frm, .string f.text] from (s9.same HR.out.2.2.2.2).trans HR.out.2.2.2.1) (s9.safe _ HR.out.2.2.2.2)))))
                              clear s9 m9 hB9 hB99 hHeld
                              have hS9 : (bytesOf (nbytes nn (zc))).size ≤ 8 := by show (nbytes nn (zc)).toArray.size ≤ 8; rw [List.size_toArray, nbytes_len]; omega
                              go_wp2_with fail
                              exact ⟨⟨y + 1, _, _, by omega, by omega, rfl, by go_num, hS9, H9⟩, by simp [intOf]; omega⟩
                        · have e5 : (fy.frm == (k : Int)) = false := by simp [hyk]
                          clear hy4 hyk
                          go_wp2_with fail
                          exact ⟨⟨y + 1, S, cs, by omega, by omega, rfl, by go_num, hS8, HR⟩, by simp [intOf]; omega⟩
                      · have e4 : (fy.kind == 4) = false := by simp [hy4]
                        clear hy4
                        go_wp2_with fail
                        exact ⟨⟨y + 1, S, cs, by omega, by omega, rfl, by go_num, hS8, HR⟩, by simp [intOf]; omega⟩
                    · obtain rfl : y = m := by omega
                      obtain ⟨xv, ov, hma⟩ := HR.out.2.1
                      obtain ⟨sd, -, md⟩ := hma.below (bx (w := wz) (.cells #[.string S] 9))
                      have o2 : wz.cell? ⟨mb, 2, none⟩ = some ov := by rw [hma.blk.cell]; rfl
                      have lmb := hma.blk.lt
                      have hfew := hma.few
                      have hc9 := hma.cnt9
                      have HD := Lib.hid (And.intro sd md)
                      obtain ⟨oa, oc, rfl⟩ : ∃ oa oc, ov = .slice oa ou.length oc := by
                        rcases hma.row.2 with ⟨rfl, h0⟩ | ⟨g, cap, cur, rfl, _⟩
                        · exact ⟨none, 0, by rw [h0]⟩
                        · exact ⟨_, _, rfl⟩
                      obtain ⟨ol, hol⟩ : ∃ ol, ol = ou.length := ⟨_, rfl⟩
                      have HOL := Lib.hid hol
                      rw [← hol] at o2 hfew HD
                      have hrow := HD.out.2.row
                      rw [← hol] at hrow
                      have hof : ol + 1 ≤ c' := by omega
                      clear hma sd md hol
                      go_wp2_with (at_builtin; refine wpList_append_strg rfl (.tmp 154) (.tmp 156) rfl (.slice oa ol oc) ol (strsV ou) rfl hrow (by omega) wz.heap.size S rfl (heap_alloc_new _ _) ?_; intro v1 wA hG; have hA := HD.out.2.added (s := S) hS8 (by rw [← HOL.out]; exact hof) (by rw [← HOL.out]; exact hG); obtain ⟨a9, c9, rfl⟩ : ∃ a c, v1 = .slice a (ol + 1) c := (by rcases hG.own.2 with ⟨_, h0⟩ | ⟨g, cap, cur, rfl, _⟩ <;> first | exact ⟨_, _, rfl⟩ | omega); have v0 := hA.1.1; have v2 := hA.1.2; have HA := Lib.hid hA; clear hG hA)
                      have sE := HD.out.1.trans HA.out.2.1
                      have mE : MkA _ mb top L (.slice la L.length lc) (ou ++ [S]) c' := ⟨_, _, HA.out.2.2⟩
                      have HE := Lib.hid (And.intro (HR.out.1.trans sE) (And.intro mE (And.intro (HR.out.2.2.1.step sE) (And.intro (show Blk _ xb 56 #[.int .i64 f.kind, .int .i64 f.n, .int .i64 f.frm, .string f.text] from (sE.same HR.out.2.2.2.2).trans HR.out.2.2.2.1) (sE.safe _ HR.out.2.2.2.2)))))
                      clear sE mE
                      exact ⟨⟨k + 1, c', ou ++ [S], cs, by omega, by go_num, by rw [Nat.succ_mul]; omega, Lib.hid ⟨HE.out.1, HE.out.2.1, HE.out.2.2.1⟩⟩, by simp [intOf]; omega⟩
            · have hfr2 : f.frm < 0 := by omega
              clear hfr
              go_wp2_with fail
              go_loopw [13, 14] (fun s i wr => ∃ (j : Nat) (S : ByteArray), j ≤ nn ∧ s = .string S ∧ i = .int .i64 j ∧ S.size = j ∧ Hid (StepK mb w wr ∧ MkA wr mb top L (.slice la L.length lc) ou c' ∧ Loc w wr mb w.heap.size (w.heap.size + 1) id (.slice (some ⟨ub, uo, none⟩) m uc) fs cs ∧ Blk wr xb 56 #[.int .i64 f.kind, .int .i64 f.n, .int .i64 f.frm, .string f.text] ∧ SafeK wr mb xb)) (fun _ i _ => nn - (intOf i).toNat)
              case atStart => exact ⟨0, ⟨#[]⟩, Nat.zero_le _, rfl, rfl, rfl, H5⟩
              case round =>
                obtain ⟨j, S, hj, rfl, rfl, hSz, HR⟩ := hrel
                obtain ⟨wz, rfl⟩ : ∃ wz, wz = wr := ⟨_, rfl⟩
                by_cases hjt : j < nn
                · go_wp2_with fail
                  refine (mnext_any HR.out.2.1).mono ?_
                  rintro e w6 ⟨⟨z, rfl, z1, z2⟩, s6, m6⟩
                  have H6 := Lib.hid (And.intro (HR.out.1.trans s6) (And.intro m6 (And.intro (HR.out.2.2.1.step s6) (And.intro (show Blk _ xb 56 #[.int .i64 f.kind, .int .i64 f.n, .int .i64 f.frm, .string f.text] from (s6.same HR.out.2.2.2.2).trans HR.out.2.2.2.1) (s6.safe _ HR.out.2.2.2.2)))))
                  clear s6 m6
                  go_wp2_with fail
                  obtain ⟨r, hr, hr3⟩ := cpick_nat z 3 (by omega)
                  refine (cpick_any z 3 r w6 z1 z2 (by omega) (by omega) hr).mono ?_
                  clear z1 z2 hr
                  rintro e w' ⟨rfl, rfl⟩
                  obtain ⟨w6, rfl⟩ : ∃ w6, w6 = w' := ⟨_, rfl⟩
                  obtain ⟨s9, -, m9⟩ := H6.out.2.1.below (bx (w := w6) (.cells #[.int .u8 (97 + (r : Int))] 5))
                  have H9 := Lib.hid (And.intro (H6.out.1.trans s9) (And.intro m9 (And.intro (H6.out.2.2.1.step s9) (And.intro (show Blk _ xb 56 #[.int .i64 f.kind, .int .i64 f.n, .int .i64 f.frm, .string f.text] from (s9.same H6.out.2.2.2.2).trans H6.out.2.2.2.1) (s9.safe _ H6.out.2.2.2.2)))))
                  clear s9 m9
                  have hcv := conv_byte w6 (97 + (r : Int))
                  have hs9 : ((⟨#[UInt8.ofNat (97 + (r : Int)).toNat]⟩ : ByteArray)).size = 1 := rfl
                  go_wp2_with fail
                  exact ⟨⟨j + 1, _, by omega, rfl, by go_num, by rw [ByteArray.size_append, hSz]; show _ + 1 = _; omega, H9⟩, by simp [intOf]; omega⟩
                · obtain rfl : nn = j := by omega
                  go_wp2_with fail
                  go_loopw [13, 15] (fun s i wr => ∃ (y : Nat) (S : ByteArray) (cs : List Int), k + 1 ≤ y ∧ y ≤ m ∧ s = .string S ∧ i = .int .i64 y ∧ S.size ≤ 8 ∧ Hid (StepK mb w wr ∧ MkA wr mb top L (.slice la L.length lc) ou c' ∧ Loc w wr mb w.heap.size (w.heap.size + 1) id (.slice (some ⟨ub, uo, none⟩) m uc) fs cs ∧ Blk wr xb 56 #[.int .i64 f.kind, .int .i64 f.n, .int .i64 f.frm, .string f.text] ∧ SafeK wr mb xb)) (fun _ i _ => m - (intOf i).toNat)
                  case atStart => exact ⟨k + 1, S, cs, Nat.le_refl _, by omega, rfl, by go_num, by omega, HR⟩
                  case round =>
                    obtain ⟨y, S, cs, hky, hym, rfl, rfl, hS8, HR⟩ := hrel
                    obtain ⟨wz, rfl⟩ : ∃ wz, wz = wr := ⟨_, rfl⟩
                    have a1 : wz.cell? ⟨w.heap.size, 1, none⟩ = some (.slice (some ⟨ub, uo, none⟩) m uc) := by rw [HR.out.2.2.1.fblk.cell]; rfl
                    by_cases hyt : y < m
                    · obtain ⟨ub', uo', e0, -, -, -, -, hfl⟩ := HR.out.2.2.1.flds.at_ (by rw [← HP.out.2.1]; omega)
                      cases e0
                      obtain ⟨fy, hfy⟩ : ∃ fy, fy = fs.getD y zf := ⟨_, rfl⟩
                      have hya := hfl y (by rw [← HP.out.2.1]; exact hyt)
                      rw [← hfy] at hya
                      have y0 := hya.c0
                      have y2 := hya.c2
                      have hyi : (0 : Int) ≤ (y : Int) ∧ (y : Int) < (m : Int) := by omega
                      have b3 := HR.out.2.1.table.2.2.2.2.2
                      clear hfl hya hfy
                      by_cases hy4 : fy.kind = 4
                      · have e4 : (fy.kind == 4) = true := by simp [hy4]
                        by_cases hyk : fy.frm = (k : Int)
                        · have e5 : (fy.frm == (k : Int)) = true := by simp [hyk]
                          clear hy4 hyk
                          by_cases hc200 : c' < 200
                          · have h200 : (c' : Int) < 200 := by omega
                            go_wp2_with fail
                            refine (mnext_any HR.out.2.1).mono ?_
                            rintro e w6 ⟨⟨z, rfl, z1, z2⟩, s6, m6⟩
                            have H6 := Lib.hid (And.intro (HR.out.1.trans s6) (And.intro m6 (And.intro (HR.out.2.2.1.step s6) (And.intro (show Blk _ xb 56 #[.int .i64 f.kind, .int .i64 f.n, .int .i64 f.frm, .string f.text] from (s6.same HR.out.2.2.2.2).trans HR.out.2.2.2.1) (s6.safe _ HR.out.2.2.2.2)))))
                            clear s6 m6 y0 y2 a1 b3 e4 e5
                            have ck := (H6.out.2.2.1.cell hkl).1
                            have fk := (H6.out.2.2.1.cell hkl).2
                            go_wp2_with fail
                            obtain ⟨r2, hr2, hr23⟩ := cpick_nat z 3 (by omega)
                            refine (cpick_any z 3 r2 w6 z1 z2 (by omega) (by omega) hr2).mono ?_
                            clear z1 z2 hr2
                            rintro e w' ⟨rfl, rfl⟩
                            obtain ⟨w6, rfl⟩ : ∃ w6, w6 = w' := ⟨_, rfl⟩
                            obtain ⟨xv, ov, hma⟩ := H6.out.2.1
                            obtain ⟨o1, o2⟩ := hma.other (q := w.heap.size + 1) (i := k) H6.out.2.2.1.sc (by omega) (.int .i64 (r2 : Nat))
                            have HB := Lib.hid (And.intro (H6.out.1.other (q := w.heap.size + 1) (i := k) (by omega) o1) (And.intro (show MkA _ mb top L (.slice la L.length lc) ou c' from ⟨_, _, o2⟩) (And.intro (H6.out.2.2.1.count (j := k) (z := (r2 : Int)) (by omega) (by omega) o1) (And.intro (show Blk _ xb 56 #[.int .i64 f.kind, .int .i64 f.n, .int .i64 f.frm, .string f.text] from (show (w6.setCell ⟨w.heap.size + 1, k, none⟩ (.int .i64 (r2 : Nat))).heap[xb]? = w6.heap[xb]? from Below.heap_setCell _ _ _ _ (show xb ≠ w.heap.size + 1 from Blk.ne_ H6.out.2.2.2.1 H6.out.2.2.1.cblk (by decide))).trans H6.out.2.2.2.1) (o1 _ H6.out.2.2.2.2)))))
                            have HZ : Hid ((cs.set k (r2 : Int)).getD k 0 = (r2 : Int) ∧ 0 ≤ (r2 : Int) ∧ (r2 : Int) ≤ 2) := Lib.hid ⟨by
                              have hcl := H6.out.2.2.1.cl
                              rw [List.getD_eq_getElem?_getD, List.getElem?_set_self (by omega)]; rfl, by omega, by omega⟩
                            clear hma o1 o2
                            go_upto_region 31 with fail
                            clear ck fk
                            generalize w6.setCell ⟨w.heap.size + 1, k, none⟩ (.int .i64 (r2 : Nat)) = wB at *
                            have HF31 : Hid (∀ W, Below wB.heap.size wB W → W.cell? ⟨w.heap.size + 1, k, none⟩ = some (.int .i64 (r2 : Int)) ∧ W.cell? ⟨xb, 1, none⟩ = some (.int .i64 (nn : Nat))) := Lib.hid fun W hb =>
                              ⟨by rw [World.cell?_of_block (w := wB) (hb.block _ HB.out.2.2.1.sc.lt), (HB.out.2.2.1.cell hkl).1, HZ.out.1], by rw [World.cell?_of_block (w := wB) (hb.block _ HB.out.2.2.2.2.lt), HB.out.2.2.2.1.cell, ← HNN.out]; rfl⟩
                            refine wp_region_T 6 (fun w' : World => Below wB.heap.size wB w') (by kernel_rfl) (Below.refl _ _).drew (fun hHeld => ?_)
                            refine anyT 0 (h := ?_)
                            (try simp only [pA, pB, pC, pD])
                            refine anyT 1 (h := ?_)
                            (try simp only [pA, pB, pC, pD])
                            refine takeT 2 (y := by intro wS hSw; obtain ⟨s0, s1⟩ := HF31.out _ hSw; go_simp; (try with_reducible rfl)) (h := ?_)
                            (try simp only [pA, pB, pC, pD])
                            refine takeT 3 (y := by intro wS hSw; obtain ⟨s0, s1⟩ := HF31.out _ hSw; go_simp; (try with_reducible rfl)) (h := ?_)
                            (try simp only [pA, pB, pC, pD])
                            refine anyT 4 (h := ?_)
                            (try simp only [pA, pB, pC, pD])
                            refine takeT 5 (y := by intro wS hSw; obtain ⟨s0, s1⟩ := HF31.out _ hSw; go_simp; (try with_reducible rfl)) (h := ?_)
                            (try simp only [pA, pB, pC, pD])
                            refine wpAnyT_ready (rs := [6]) (by kernel_rfl) (by simp) ?_
                            refine AllReadyT.cons (o := ?oB78) ?hB78 ?kB78 AllReadyT.nil
                            case hB78 => (simp only [List.getElem?_toArray, List.getElem?_cons_zero, List.getElem?_cons_succ]; rfl)
                            case kB78 =>
                              intro K hK
                              go_simp
                              refine (written_any (r2 : Int) nn wB.drew HZ.out.2.1 (by have := HZ.out.2.2; omega) (by omega)).mono ?_
                              rintro e w9 ⟨rfl, hB9⟩
                              have hB99 : Below wB.heap.size wB w9 := (Below.refl _ _).drew.trans hB9
                              obtain ⟨s9, -, m9⟩ := HB.out.2.1.below hB99
                              refine hK.out _ _ (no_more (by kernel_rfl)) ?_
                              clear hK K
                              (try simp only [pA, pB, pC, pD])
                              refine anyT 7 (S := by exact no_more (by kernel_rfl)) (h := ?_)
                              (try simp only [pA, pB, pC, pD])
                              refine wpAnyT_done (by kernel_rfl) ?_ _
                              have H9 := Lib.hid (And.intro (HB.out.1.trans s9) (And.intro m9 (And.intro (HB.out.2.2.1.step s9) (And.intro (show Blk _ xb 56 #[.int .i64 f.kind, .int .i64 f.n, .int .i64 f.frm, .string f.text] from (s9.same HB.out.2.2.2.2).trans HB.out.2.2.2.1) (s9.safe _ HB.out.2.2.2.2)))))
                              clear s9 m9 hB9 hB99 hHeld
                              have hS9 : (bytesOf (nbytes nn (r2 : Int))).size ≤ 8 := by show (nbytes nn (r2 : Int)).toArray.size ≤ 8; rw [List.size_toArray, nbytes_len]; omega
                              go_wp2_with fail
                              exact ⟨⟨y + 1, _, _, by omega, by omega, rfl, by go_num, hS9, H9⟩, by simp [intOf]; omega⟩
                          · have h200 : (200 : Int) ≤ (c' : Int) := by omega
                            clear hc200
                            obtain ⟨zc, hzc⟩ : ∃ zc, zc = cs.getD k 0 := ⟨_, rfl⟩
                            have HZ : Hid (cs.getD k 0 = zc ∧ 0 ≤ zc ∧ zc ≤ 2) := Lib.hid ⟨hzc.symm, by rw [hzc]; exact HR.out.2.2.1.c02 k⟩
                            clear hzc
                            go_upto_region 31 with fail
                            clear y0 y2 a1 b3 e4 e5
                            have HF31 : Hid (∀ W, Below wz.heap.size wz W → W.cell? ⟨w.heap.size + 1, k, none⟩ = some (.int .i64 (zc)) ∧ W.cell? ⟨xb, 1, none⟩ = some (.int .i64 (nn : Nat))) := Lib.hid fun W hb =>
                              ⟨by rw [World.cell?_of_block (w := wz) (hb.block _ HR.out.2.2.1.sc.lt), (HR.out.2.2.1.cell hkl).1, HZ.out.1], by rw [World.cell?_of_block (w := wz) (hb.block _ HR.out.2.2.2.2.lt), HR.out.2.2.2.1.cell, ← HNN.out]; rfl⟩
                            refine wp_region_T 6 (fun w' : World => Below wz.heap.size wz w') (by kernel_rfl) (Below.refl _ _).drew (fun hHeld => ?_)
                            refine anyT 0 (h := ?_)
                            (try simp only [pA, pB, pC, pD])
                            refine anyT 1 (h := ?_)
                            (try simp only [pA, pB, pC, pD])
                            refine takeT 2 (y := by intro wS hSw; obtain ⟨s0, s1⟩ := HF31.out _ hSw; go_simp; (try with_reducible rfl)) (h := ?_)
                            (try simp only [pA, pB, pC, pD])
                            refine takeT 3 (y := by intro wS hSw; obtain ⟨s0, s1⟩ := HF31.out _ hSw; go_simp; (try with_reducible rfl)) (h := ?_)
                            (try simp only [pA, pB, pC, pD])
                            refine anyT 4 (h := ?_)
                            (try simp only [pA, pB, pC, pD])
                            refine takeT 5 (y := by intro wS hSw; obtain ⟨s0, s1⟩ := HF31.out _ hSw; go_simp; (try with_reducible rfl)) (h := ?_)
                            (try simp only [pA, pB, pC, pD])
                            refine wpAnyT_ready (rs := [6]) (by kernel_rfl) (by simp) ?_
                            refine AllReadyT.cons (o := ?oB89) ?hB89 ?kB89 AllReadyT.nil
                            case hB89 => (simp only [List.getElem?_toArray, List.getElem?_cons_zero, List.getElem?_cons_succ]; rfl)
                            case kB89 =>
                              intro K hK
                              go_simp
                              refine (written_any (zc) nn wz.drew HZ.out.2.1 (by have := HZ.out.2.2; omega) (by omega)).mono ?_
                              rintro e w9 ⟨rfl, hB9⟩
                              have hB99 : Below wz.heap.size wz w9 := (Below.refl _ _).drew.trans hB9
                              obtain ⟨s9, -, m9⟩ := HR.out.2.1.below hB99
                              refine hK.out _ _ (no_more (by kernel_rfl)) ?_
                              clear hK K
                              (try simp only [pA, pB, pC, pD])
                              refine anyT 7 (S := by exact no_more (by kernel_rfl)) (h := ?_)
                              (try simp only [pA, pB, pC, pD])
                              refine wpAnyT_done (by kernel_rfl) ?_ _
                              have H9 := Lib.hid (And.intro (HR.out.1.trans s9) (And.intro m9 (And.intro (HR.out.2.2.1.step s9) (And.intro (show Blk _ xb 56 #[.int .i64 f.kind, .int .i64 f.n, .int .i64 f.frm, .string f.text] from (s9.same HR.out.2.2.2.2).trans HR.out.2.2.2.1) (s9.safe _ HR.out.2.2.2.2)))))
                              clear s9 m9 hB9 hB99 hHeld
                              have hS9 : (bytesOf (nbytes nn (zc))).size ≤ 8 := by show (nbytes nn (zc)).toArray.size ≤ 8; rw [List.size_toArray, nbytes_len]; omega
                              go_wp2_with fail
                              exact ⟨⟨y + 1, _, _, by omega, by omega, rfl, by go_num, hS9, H9⟩, by simp [intOf]; omega⟩
                        · have e5 : (fy.frm == (k : Int)) = false := by simp [hyk]
                          clear hy4 hyk
                          go_wp2_with fail
                          exact ⟨⟨y + 1, S, cs, by omega, by omega, rfl, by go_num, hS8, HR⟩, by simp [intOf]; omega⟩
                      · have e4 : (fy.kind == 4) = false := by simp [hy4]
                        clear hy4
                        go_wp2_with fail
                        exact ⟨⟨y + 1, S, cs, by omega, by omega, rfl, by go_num, hS8, HR⟩, by simp [intOf]; omega⟩
                    · obtain rfl : y = m := by omega
                      obtain ⟨xv, ov, hma⟩ := HR.out.2.1
                      obtain ⟨sd, -, md⟩ := hma.below (bx (w := wz) (.cells #[.string S] 9))
                      have o2 : wz.cell? ⟨mb, 2, none⟩ = some ov := by rw [hma.blk.cell]; rfl
                      have lmb := hma.blk.lt
                      have hfew := hma.few
                      have hc9 := hma.cnt9
                      have HD := Lib.hid (And.intro sd md)
                      obtain ⟨oa, oc, rfl⟩ : ∃ oa oc, ov = .slice oa ou.length oc := by
                        rcases hma.row.2 with ⟨rfl, h0⟩ | ⟨g, cap, cur, rfl, _⟩
                        · exact ⟨none, 0, by rw [h0]⟩
                        · exact ⟨_, _, rfl⟩
                      obtain ⟨ol, hol⟩ : ∃ ol, ol = ou.length := ⟨_, rfl⟩
                      have HOL := Lib.hid hol
                      rw [← hol] at o2 hfew HD
                      have hrow := HD.out.2.row
                      rw [← hol] at hrow
                      have hof : ol + 1 ≤ c' := by omega
                      clear hma sd md hol
                      go_wp2_with (at_builtin; refine wpList_append_strg rfl (.tmp 154) (.tmp 156) rfl (.slice oa ol oc) ol (strsV ou) rfl hrow (by omega) wz.heap.size S rfl (heap_alloc_new _ _) ?_; intro v1 wA hG; have hA := HD.out.2.added (s := S) hS8 (by rw [← HOL.out]; exact hof) (by rw [← HOL.out]; exact hG); obtain ⟨a9, c9, rfl⟩ : ∃ a c, v1 = .slice a (ol + 1) c := (by rcases hG.own.2 with ⟨_, h0⟩ | ⟨g, cap, cur, rfl, _⟩ <;> first | exact ⟨_, _, rfl⟩ | omega); have v0 := hA.1.1; have v2 := hA.1.2; have HA := Lib.hid hA; clear hG hA)
                      have sE := HD.out.1.trans HA.out.2.1
                      have mE : MkA _ mb top L (.slice la L.length lc) (ou ++ [S]) c' := ⟨_, _, HA.out.2.2⟩
                      have HE := Lib.hid (And.intro (HR.out.1.trans sE) (And.intro mE (And.intro (HR.out.2.2.1.step sE) (And.intro (show Blk _ xb 56 #[.int .i64 f.kind, .int .i64 f.n, .int .i64 f.frm, .string f.text] from (sE.same HR.out.2.2.2.2).trans HR.out.2.2.2.1) (sE.safe _ HR.out.2.2.2.2)))))
                      clear sE mE
                      exact ⟨⟨k + 1, c', ou ++ [S], cs, by omega, by go_num, by rw [Nat.succ_mul]; omega, Lib.hid ⟨HE.out.1, HE.out.2.1, HE.out.2.2.1⟩⟩, by simp [intOf]; omega⟩
    · obtain rfl : k = m := by omega
      have hmD : k * D ≤ 6 * D := Nat.mul_le_mul_right D hm6
      have HY : Hid (StepK mb w wq ∧ ∃ out' cnt', cnt' ≤ cnt + bb (n + 1) ∧ MkA wq mb top L lv out' cnt') := Lib.hid ⟨HJ.out.1, ou, cn, by rw [HQ.out]; omega, HJ.out.2.1⟩
      go_wp2_with fail
      first | go_end0 | go_ret
      exact ⟨rfl, HY.out⟩
theorem makV (mb top : Nat) (L : List Fm) (lv : Value) (hL : Nice L) : ∀ n, MakV mb top L lv n
  | 0 => fun _ _ _ _ _ _ _ _ h => absurd h (Nat.not_lt_zero _)
  | n + 1 => mak_step mb top L lv hL n (makV mb top L lv hL n)
end Go.Proofs.YtdndmhlmbpgdeaaGreatDoor
