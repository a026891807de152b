/- Which recogniser a field's kind has. Conditions: the reader and the value lie in memory, the value's numbers are small, the field is a right one; values of the formats before are recognised. The next field of a value. Conditions: the reader and the value lie in memory, the value's numbers are small, the field is a right one; values of the formats before are recognised. Fields of valid tables are right; the numbers of parts are small. No condition of its own. What holds while values are written: plain facts. No condition of its own. -/
import Derived.Test.YtdndmhlmbpgdeaaGreatDoorPb07
import Derived.Test.YtdndmhlmbpgdeaaGreatDoorPb01
import Derived.Test.YtdndmhlmbpgdeaaGreatDoorPb09
namespace Go.Proofs.YtdndmhlmbpgdeaaGreatDoor
section RecM
open Go.RowKit Fx Rec

/-- A field that a valid table may have. -/
structure FOk (L : List Fm) (N : Nat) (f : Fld) : Prop where
  lo : 1 ≤ f.kind
  hi : f.kind ≤ 6
  k1 : f.kind = 1 → f.text.size ≤ 16
  k2 : f.kind = 2 ∨ f.kind = 6 → 1 ≤ f.n ∧ f.n ≤ 3
  k3 : f.kind = 3 → (f.frm = -1 ∧ 0 ≤ f.n ∧ f.n ≤ 4096) ∨ ∃ q : Nat, f.frm = q ∧ q < 16
  k4 : f.kind = 4 ∨ f.kind = 5 → (∃ q : Nat, f.frm = q ∧ q < 16) ∧ ∃ i, At L f.n i ∧ i < N
theorem enters_67 : Enters 67 := fun args w => by simp [callFunc, Tryz.func67, Tryz.f67]
theorem enters_68 : Enters 68 := fun args w => by simp [callFunc, Tryz.func68, Tryz.f68]
theorem enters_69 : Enters 69 := fun args w => by simp [callFunc, Tryz.func69, Tryz.f69]
theorem enters_70 : Enters 70 := fun args w => by simp [callFunc, Tryz.func70, Tryz.f70]
theorem enters_71 : Enters 71 := fun args w => by simp [callFunc, Tryz.func71, Tryz.f71]
theorem enters_72 : Enters 72 := fun args w => by simp [callFunc, Tryz.func72, Tryz.f72]
theorem kind_any {o : Ro} {rb vb : Nat} {L : List Fm} {s : ByteArray} {v : Vl} {f : Fld} {a l st k N : Nat} (ok : VOk v) (hN : VNat v a l st k) (hl : l ≤ s.size) (hf : FOk L N f) (hC : ValC o rb L s N) (hdp : v.depth + 1 + N ≤ 100) :
    ∃ fn, lkV (kindsR rb) f.kind = some (.func (.func fn) #[ptr rb] #[]) ∧ Enters fn ∧ ∀ (W : World) (P : Nat → Prop) (ps : List Pt), Rd W P o rb L s ps → VAt W vb v → P vb →
      Calls Tryz.prog fn #[ptr rb, ptr vb, fldV f] W fun e w' => KPost W P o rb L s ps (kind s (val L s N) v.format v.depth st l k f v.nums a ps.length) e w' := by
  have h1 := hf.lo
  have h2 := hf.hi
  obtain h | h | h | h | h | h : f.kind = 1 ∨ f.kind = 2 ∨ f.kind = 3 ∨ f.kind = 4 ∨ f.kind = 5 ∨ f.kind = 6 := by omega
  · refine ⟨_, by rw [h]; rfl, enters_67, fun W P ps hr hv pv => ?_⟩
    have := rd_literal (f := f) hr hv ok hN hl (hf.k1 h)
    unfold kind; rw [if_pos h]; exact this
  · refine ⟨_, by rw [h]; rfl, enters_68, fun W P ps hr hv pv => ?_⟩
    have := rd_number (f := f) hr hv ok hN hl (hf.k2 (.inl h)).1 (hf.k2 (.inl h)).2
    unfold kind; rw [if_neg (by omega), if_pos h]; exact this
  · refine ⟨_, by rw [h]; rfl, enters_69, fun W P ps hr hv pv => ?_⟩
    unfold kind; rw [if_neg (by omega), if_neg (by omega), if_pos h]
    rcases hf.k3 h with ⟨e, e1, e2⟩ | ⟨q, e, hq⟩
    · rw [if_pos e]; exact rd_bytes_n (f := f) hr hv ok hN e e1 e2
    · rw [if_neg (by omega)]; exact rd_bytes_from (f := f) hr hv ok hN q e hq
  · refine ⟨_, by rw [h]; rfl, enters_70, fun W P ps hr hv pv => ?_⟩
    obtain ⟨⟨q, e, hq⟩, i, hi, hiN⟩ := hf.k4 (.inl h)
    unfold kind; rw [if_neg (by omega), if_neg (by omega), if_neg (by omega), if_pos h]
    exact rd_list (f := f) hr hv pv ok hN hl q e hq N hC i hi hiN hdp
  · refine ⟨_, by rw [h]; rfl, enters_71, fun W P ps hr hv pv => ?_⟩
    obtain ⟨⟨q, e, hq⟩, i, hi, hiN⟩ := hf.k4 (.inr h)
    unfold kind; rw [if_neg (by omega), if_neg (by omega), if_neg (by omega), if_neg (by omega), if_pos h]
    exact rd_inside (f := f) hr hv pv ok hN hl q e hq N hC i hi hiN hdp
  · refine ⟨_, by rw [h]; rfl, enters_72, fun W P ps hr hv pv => ?_⟩
    unfold kind; rw [if_neg (by omega), if_neg (by omega), if_neg (by omega), if_neg (by omega), if_neg (by omega)]
    exact rd_check (f := f) hr hv pv ok hN hl (hf.k2 (.inr h)).1 (hf.k2 (.inr h)).2
end RecM
section RecN
open Go.RowKit Fx Rec

theorem VAt.put {w : World} {vb : Nat} {v : Vl} (h : VAt w vb v) {k : Nat} (_hk : k < 16) (E n : Int) : VAt ((w.setCell ⟨vb, 4, none⟩ (.int .i64 E)).setCell ⟨vb, 6 + k, none⟩ (.int .i64 n)) vb { v with at_ := E, nums := v.nums.set k n } := by
  refine ⟨?_, by rw [List.length_set]; exact h.len⟩
  have h1 := (h.blk.set_ 4 (.int .i64 E)).set_ (6 + k) (.int .i64 n)
  have e : ((vlC v).toArray.setIfInBounds 4 (.int .i64 E)).setIfInBounds (6 + k) (.int .i64 n) = (vlC { v with at_ := E, nums := v.nums.set k n }).toArray := by
    apply Array.ext'
    rw [Array.toList_setIfInBounds, Array.toList_setIfInBounds]
    show ((vlC v).set 4 (.int .i64 E)).set (6 + k) (.int .i64 n) = vlC { v with at_ := E, nums := v.nums.set k n }
    unfold vlC
    rw [List.set_append_left _ _ (by simp), List.set_append_right _ _ (by simp)]
    simp [List.map_set]
  rw [e] at h1
  exact h1
/-- What comes of the next field. -/
def NxPost (w : World) (P : Nat → Prop) (o : Ro) (rb : Nat) (L : List Fm) (s : ByteArray) (ps : List Pt) (vb : Nat) (v : Vl) (k a : Nat) (r : Except Rf (Nat × Int × List Pt)) (e : Ending) (w' : World) : Prop :=
  Kept P w w' ∧ match r with
  | .ok x => e = .returned (.tuple #[]) ∧ Rd w' P o rb L s (ps ++ (⟨v.depth, v.format, k, a, x.1, x.2.1⟩ : Pt) :: x.2.2) ∧ VAt w' vb { v with at_ := x.1, nums := v.nums.set k x.2.1 }
  | .error f => e = Stops f ∧ ∃ ps', Rd w' P o rb L s ps'
theorem NxPost.no_ {w w' : World} {P : Nat → Prop} {o : Ro} {rb : Nat} {L : List Fm} {s : ByteArray} {ps ps' : List Pt} {vb : Nat} {v : Vl} {k a : Nat} {f : Rf} {r : Except Rf (Nat × Int × List Pt)} (hr : r = .error f) (hk : Kept P w w') (h : Rd w' P o rb L s ps') : NxPost w P o rb L s ps vb v k a r (Stops f) w' := by
  subst hr
  exact ⟨hk, rfl, ps', h⟩
theorem Rd.kinds_ {w : World} {P : Nat → Prop} {o : Ro} {rb : Nat} {L : List Fm} {s : ByteArray} {ps : List Pt} (h : Rd w P o rb L s ps) : w.cell? ⟨rb, 1, none⟩ = some (.map (some o.kb)) := by
  obtain ⟨_, vp, k, vs, hm⟩ := h
  rw [hm.blk.cell]; rfl
section
variable {w : World} {P : Nat → Prop} {o : Ro} {rb vb : Nat} {L : List Fm} {s : ByteArray} {ps : List Pt} {v : Vl} {f : Fld} {a l st k : Nat}
set_option maxRecDepth 20000 in
set_option maxHeartbeats 4000000 in
theorem rd_next (h : Rd w P o rb L s ps) (hv : VAt w vb v) (pv : ¬ P vb) (ok : VOk v) (hN : VNat v a l st k) (hk16 : k < 16) (hl : l ≤ s.size) (N : Nat) (hf : FOk L N f) (hC : ValC o rb L s N) (hdp : v.depth + 1 + N ≤ 100) :
    Calls Tryz.prog 97 #[ptr rb, ptr vb, fldV f] w fun e w' =>
      NxPost w P o rb L s ps vb v k a (next s (val L s N) v.format v.depth st l k f v.nums a ps.length) e w' := by
  have na := hN.a
  have nl := hN.l
  have nk := hN.k
  have b0 := ok.at0
  have b1 := ok.lim
  have b2 := ok.max
  obtain ⟨RR, hRR⟩ : ∃ RR, RR = next s (val L s N) v.format v.depth st l k f v.nums a ps.length := ⟨_, rfl⟩
  rw [← hRR]
  have hB0 := bx (w := w) (.cells #[.int .i64 f.kind, .int .i64 f.n, .int .i64 f.frm, .string f.text] 56)
  have hbk := Blk.new w 56 #[.int .i64 f.kind, .int .i64 f.n, .int .i64 f.frm, .string f.text]
  have hv0 := hv.keep (hB0.block vb hv.blk.lt)
  have hrw := h.below hB0
  have hr0 := (hrw.add_ hv0.blk (by decide) (by decide) (by decide) (by decide)).add_ hbk (by decide) (by decide) (by decide) (by decide)
  obtain ⟨vp, hp⟩ := hr0.parts
  obtain ⟨pa, pc, rfl, p1, p2, p3⟩ := hp.shape
  have c4 := hp.cell
  obtain ⟨m, hm⟩ : ∃ m, m = ps.length := ⟨_, rfl⟩
  rw [← hm] at c4 p1 p3
  have HH := Lib.hid (And.intro h (And.intro hv (And.intro ok (And.intro hN pv))))
  have HB0 := Lib.hid (And.intro hB0 (And.intro hbk (And.intro hr0 (And.intro hv0 hp))))
  have HM := Lib.hid hm
  have HRR := Lib.hid hRR
  have HF := Lib.hid (And.intro hl (And.intro hf hdp))
  clear h hv ok hN pv hB0 hbk hv0 hrw hr0 hp hm hRR hl hf hdp
  go_enter Tryz.func97, Tryz.ntmps97
  go_wp2_with fail
  by_cases hm5 : m < 5000
  · have hd : decide ((m : Int) < 5000) = true := by rw [decide_eq_true_eq]; omega
    rw [hd]
    refine (vrequire_yes _ _ _).mono ?_
    rintro e w5 ⟨rfl, rfl⟩
    generalize hW : w.alloc (.cells #[.int .i64 f.kind, .int .i64 f.n, .int .i64 f.frm, .string f.text] 56) = W at *
    obtain ⟨d0, d1, d2, -, d4, -⟩ := HB0.out.2.2.2.1.cells
    rw [na] at d4
    rw [nk] at d2
    have HM' := HM.out
    have hr0 := HB0.out.2.2.1
    have lrb := World.block_lt_of_cell? (h := c4)
    have lvb := HB0.out.2.2.2.1.blk.lt
    have HR3 : Hid (∀ W', Below W.heap.size W W' → W'.cell? ⟨rb, 4, none⟩ = some (.slice pa m pc) ∧ W'.cell? ⟨vb, 0, none⟩ = some (.int .i64 v.depth) ∧ W'.cell? ⟨vb, 1, none⟩ = some (.int .i64 v.format) ∧ W'.cell? ⟨vb, 2, none⟩ = some (.int .i64 (k : Int)) ∧ W'.cell? ⟨vb, 4, none⟩ = some (.int .i64 (a : Int))) := Lib.hid fun W' hb =>
      ⟨(hb.cell (p := ⟨rb, 4, none⟩) lrb).trans c4, (hb.cell (p := ⟨vb, 0, none⟩) lvb).trans d0, (hb.cell (p := ⟨vb, 1, none⟩) lvb).trans d1, (hb.cell (p := ⟨vb, 2, none⟩) lvb).trans d2, (hb.cell (p := ⟨vb, 4, none⟩) lvb).trans d4⟩
    have HG : Hid (∀ (W' : World) (v1 : Value) (w1 : World), Below W.heap.size W W' → Grew W' w1 0 26 6 (.slice pa m pc) v1 (m + 1) (flatP ps ++ ptC ⟨v.depth, v.format, k, a, 0, 0⟩) →
        (w1.cell? ⟨rb, 4, none⟩ = some (.slice pa m pc) ∧ w1.frozen? ⟨rb, 4, none⟩ = false) ∧ Kept (fun j => (P j ∨ j = vb) ∨ j = w.heap.size) W (w1.setCell ⟨rb, 4, none⟩ v1) ∧ Rd (w1.setCell ⟨rb, 4, none⟩ v1) (fun j => (P j ∨ j = vb) ∨ j = w.heap.size) o rb L s (ps ++ [⟨v.depth, v.format, k, a, 0, 0⟩]) ∧ ∃ g c, v1 = .slice (some ⟨g, 0, none⟩) (m + 1) c) := Lib.hid fun W' v1 w1 hb hG => by
      have hp := HB0.out.2.2.2.2
      rw [HM.out] at hG ⊢
      exact hr0.grow (by omega) hp _ hb hG
    have HROW : Hid (∀ W', Below W.heap.size W W' → W'.ownsRow 0 26 6 (.slice pa m pc) m (flatP ps)) := Lib.hid fun W' hb => by
      have h := HB0.out.2.2.2.2.row
      rw [← HM.out] at h
      exact ownsRow_below h hb
    clear HM' hr0 d0 d1 d2 d4 c4
    go_wp2_with fail
    refine wp_region_T 23 (fun w' : World => Below W.heap.size W w') (by kernel_rfl) (Below.refl _ _).drew (fun hHeld => ?_)
    refine anyT 0 (h := ?_)
    (try simp only [pA, pB, pC, pD])
    refine anyT 1 (h := ?_)
    (try simp only [pA, pB, pC, pD])
    refine anyT 2 (h := ?_)
    (try simp only [pA, pB, pC, pD])
    refine anyT 3 (h := ?_)
    (try simp only [pA, pB, pC, pD])
    refine takeT 4 (y := by intro wS hSw; obtain ⟨s0, s1, s2, s3, s4⟩ := HR3.out _ hSw; go_simp; (try with_reducible rfl)) (h := ?_)
    (try simp only [pA, pB, pC, pD])
    refine anyT 5 (h := ?_)
    (try simp only [pA, pB, pC, pD])
    refine anyT 6 (h := ?_)
    (try simp only [pA, pB, pC, pD])
    refine anyT 7 (h := ?_)
    (try simp only [pA, pB, pC, pD])
    refine takeT 8 (y := by intro wS hSw; obtain ⟨s0, s1, s2, s3, s4⟩ := HR3.out _ hSw; go_simp; (try with_reducible rfl)) (h := ?_)
    (try simp only [pA, pB, pC, pD])
    refine anyT 9 (h := ?_)
    (try simp only [pA, pB, pC, pD])
    refine anyT 10 (h := ?_)
    (try simp only [pA, pB, pC, pD])
    refine anyT 11 (h := ?_)
    (try simp only [pA, pB, pC, pD])
    refine takeT 12 (y := by intro wS hSw; obtain ⟨s0, s1, s2, s3, s4⟩ := HR3.out _ hSw; go_simp; (try with_reducible rfl)) (h := ?_)
    (try simp only [pA, pB, pC, pD])
    refine anyT 13 (h := ?_)
    (try simp only [pA, pB, pC, pD])
    refine anyT 14 (h := ?_)
    (try simp only [pA, pB, pC, pD])
    refine anyT 15 (h := ?_)
    (try simp only [pA, pB, pC, pD])
    refine takeT 16 (y := by intro wS hSw; obtain ⟨s0, s1, s2, s3, s4⟩ := HR3.out _ hSw; go_simp; (try with_reducible rfl)) (h := ?_)
    (try simp only [pA, pB, pC, pD])
    refine anyT 17 (h := ?_)
    (try simp only [pA, pB, pC, pD])
    refine anyT 18 (h := ?_)
    (try simp only [pA, pB, pC, pD])
    refine anyT 19 (h := ?_)
    (try simp only [pA, pB, pC, pD])
    refine takeT 20 (y := by intro wS hSw; obtain ⟨s0, s1, s2, s3, s4⟩ := HR3.out _ hSw; go_simp; (try with_reducible rfl)) (h := ?_)
    (try simp only [pA, pB, pC, pD])
    refine anyT 21 (h := ?_)
    (try simp only [pA, pB, pC, pD])
    refine wpAnyT_ready (rs := [22]) (by kernel_rfl) (by simp) ?_
    refine AllReadyT.cons (o := ?oB40) ?hB40 ?kB40 AllReadyT.nil
    case hB40 => (simp only [List.getElem?_toArray, List.getElem?_cons_zero, List.getElem?_cons_succ]; rfl)
    case kB40 =>
      intro K hK
      go_simp
      refine hK.out _ _ (fun _ => ((Below.refl _ _).alloc (Nat.le_refl _) _).drew) ?_
      clear hK K
      (try simp only [pA, pB, pC, pD])
      have hb1 : (W.alloc (.cells #[.int .i64 v.depth, .int .i64 v.format, .int .i64 (k : Int), .int .i64 (a : Int), .int .i64 0, .int .i64 0] 26)).drew.heap[W.heap.size]? = some (.cells (ptC ⟨v.depth, v.format, k, a, 0, 0⟩).toArray 26 (0, 0)) := heap_alloc_new W _
      have HB1 : Hid (Below W.heap.size W (W.alloc (.cells #[.int .i64 v.depth, .int .i64 v.format, .int .i64 (k : Int), .int .i64 (a : Int), .int .i64 0, .int .i64 0] 26)).drew) := Lib.hid ((Below.refl _ _).alloc (Nat.le_refl _) _).drew
      generalize hW1 : (W.alloc (.cells #[.int .i64 v.depth, .int .i64 v.format, .int .i64 (k : Int), .int .i64 (a : Int), .int .i64 0, .int .i64 0] 26)).drew = W1 at *
      refine wpAnyT_ready (rs := [23]) (by kernel_rfl) (by simp) ?_
      refine AllReadyT.cons (o := ?oB41) ?hB41 ?kB41 AllReadyT.nil
      case hB41 => (simp only [List.getElem?_toArray, List.getElem?_cons_zero, List.getElem?_cons_succ]; rfl)
      case kB41 =>
        intro K hK
        refine step_append_part rfl (.tmp 22) (.tmp 40) rfl _ m _ rfl (HROW.out _ HB1.out) (by omega) W.heap.size ⟨v.depth, v.format, k, a, 0, 0⟩ rfl hb1 (fun v1 w1 hG => ?_)
        refine hK.out _ _ (no_more (by kernel_rfl)) ?_
        clear hK K
        (try simp only [pA, pB, pC, pD])
        have HN := Lib.hid (HG.out W1 v1 w1 HB1.out hG)
        obtain ⟨g1, cp1, rfl⟩ := HN.out.2.2.2
        have e0 := HN.out.1.1
        have y0 := HN.out.1.2
        clear hG hb1 hW1 hHeld
        refine anyT 24 (S := by exact no_more (by kernel_rfl)) (h := ?_)
        (try simp only [pA, pB, pC, pD])
        refine anyT 25 (S := by exact no_more (by kernel_rfl)) (h := ?_)
        (try simp only [pA, pB, pC, pD])
        refine wpAnyT_ready (rs := [26]) (by kernel_rfl) (by simp) ?_
        refine AllReadyT.cons (o := ?oB44) ?hB44 ?kB44 AllReadyT.nil
        case hB44 => (simp only [List.getElem?_toArray, List.getElem?_cons_zero, List.getElem?_cons_succ]; rfl)
        case kB44 =>
          intro K hK
          go_simp
          refine hK.out _ _ (no_more (by kernel_rfl)) ?_
          clear hK K
          (try simp only [pA, pB, pC, pD])
          refine wpAnyT_done (by kernel_rfl) ?_ _
          go_wp2_with fail
          have HW3 : Hid (Kept (fun j => (P j ∨ j = vb) ∨ j = w.heap.size) W (w1.setCell ⟨rb, 4, none⟩ (.slice (some ⟨g1, 0, none⟩) (m + 1) cp1)) ∧ Rd (w1.setCell ⟨rb, 4, none⟩ (.slice (some ⟨g1, 0, none⟩) (m + 1) cp1)) (fun j => (P j ∨ j = vb) ∨ j = w.heap.size) o rb L s (ps ++ [⟨v.depth, v.format, k, a, 0, 0⟩])) := Lib.hid ⟨HN.out.2.1, HN.out.2.2.1⟩
          clear HN e0 y0 HG HROW HB1
          generalize w1.setCell ⟨rb, 4, none⟩ (.slice (some ⟨g1, 0, none⟩) (m + 1) cp1) = w3 at *
          have hv3 : VAt w3 vb v := HB0.out.2.2.2.1.keep (HW3.out.1.block vb (.inl (.inr rfl)))
          have hb3 : Blk w3 w.heap.size 56 #[.int .i64 f.kind, .int .i64 f.n, .int .i64 f.frm, .string f.text] := (HW3.out.1.block _ (.inr rfl)).trans HB0.out.2.1
          obtain ⟨fn, hlk, hen, hcon⟩ := kind_any HH.out.2.2.1 HH.out.2.2.2.1 HF.out.1 HF.out.2.1 hC HF.out.2.2
          have HCON : Hid (Calls Tryz.prog fn #[ptr rb, ptr vb, fldV f] w3.drew fun e w' => KPost w3.drew (fun j => (P j ∨ j = vb) ∨ j = w.heap.size) o rb L s (ps ++ [⟨v.depth, v.format, k, a, 0, 0⟩]) (kind s (val L s N) v.format v.depth st l k f v.nums a (m + 1)) e w') := Lib.hid (by
            have := hcon w3.drew (fun j => (P j ∨ j = vb) ∨ j = w.heap.size) _ (HW3.out.2.keptN 1) hv3.drew (.inl (.inr rfl))
            rwa [List.length_append, ← HM.out] at this)
          have hlook : ∀ n, (Instr.lookup 110 (.map (some o.kb)) (.int .i64 f.kind) false).run Tryz.prog (w3.drewN n) = .ok (.func (.func fn) #[ptr rb] #[]) (w3.drewN n) := fun n =>
            ((HW3.out.2.keptN n).1.kinds).look_ Tryz.underlying110 Tryz.underlying3 hlk false
          unfold Enters at hen
          have d0 := hb3.cell 0
          have d1 := hb3.cell 1
          have d2 := hb3.cell 2
          have d3 := hb3.cell 3
          simp only [List.getElem?_toArray, List.getElem?_cons_zero, List.getElem?_cons_succ] at d0 d1 d2 d3
          have ck := HW3.out.2.kinds_
          have HR4 : Hid (RR = kind s (val L s N) v.format v.depth st l k f v.nums a (m + 1)) := Lib.hid (by rw [HRR.out]; unfold next; rw [if_neg (by have := HM.out; omega), HM.out])
          clear hv3 hb3 hlk hcon HR3
          cases hkd : kind s (val L s N) v.format v.depth st l k f v.nums a (m + 1) with
          | error rf =>
            have HV : Hid (Calls Tryz.prog fn #[ptr rb, ptr vb, fldV f] w3.drew fun e w' => Kept (fun j => (P j ∨ j = vb) ∨ j = w.heap.size) w3.drew w' ∧ e = Stops rf ∧ ∃ ps', Rd w' (fun j => (P j ∨ j = vb) ∨ j = w.heap.size) o rb L s ps') := Lib.hid (by have := HCON.out; rw [hkd] at this; exact this)
            have HNO : Hid (∀ w', Kept (fun j => (P j ∨ j = vb) ∨ j = w.heap.size) w3.drew w' → (∃ ps', Rd w' (fun j => (P j ∨ j = vb) ∨ j = w.heap.size) o rb L s ps') → NxPost w P o rb L s ps vb v k a RR (Stops rf) w') := Lib.hid fun w' hk hr => by
              obtain ⟨ps', hr⟩ := hr
              have hk2 : Kept P w w' := (Kept.of_below HB0.out.1 HH.out.1.1.pin).trans ((HW3.out.1.drew.trans hk).mono fun j hj => .inl (.inl hj))
              exact NxPost.no_ (by rw [HR4.out, hkd]) hk2 (HH.out.1.weak hr hk2.size fun j hj => .inl (.inl hj))
            clear hkd HCON
            refine wp_region_T 9 (fun w' : World => ∃ n : Nat, w' = w3.drewN n) (by kernel_rfl) ⟨1, rfl⟩ (fun hHeld => ?_)
            refine anyT 0 (h := ?_)
            (try simp only [pA, pB, pC, pD])
            refine anyT 1 (h := ?_)
            (try simp only [pA, pB, pC, pD])
            refine anyT 2 (h := ?_)
            (try simp only [pA, pB, pC, pD])
            refine takeTn 3 (h := ?_)
            (try simp only [pA, pB, pC, pD])
            refine anyT 4 (h := ?_)
            (try simp only [pA, pB, pC, pD])
            refine takeTn 5 (h := ?_)
            (try simp only [pA, pB, pC, pD])
            refine takeTn 6 (h := ?_)
            (try simp only [pA, pB, pC, pD])
            refine anyT 7 (h := ?_)
            (try simp only [pA, pB, pC, pD])
            refine takeTn 8 (h := ?_)
            (try simp only [pA, pB, pC, pD])
            refine wpAnyT_ready (rs := [9]) (by kernel_rfl) (by simp) ?_
            refine AllReadyT.cons (o := ?oB59) ?hB59 ?kB59 AllReadyT.nil
            case hB59 => (simp only [List.getElem?_toArray, List.getElem?_cons_zero, List.getElem?_cons_succ]; rfl)
            case kB59 =>
              intro K hK
              go_simp
              refine HV.out.mono ?_
              rintro e w4 ⟨hk4, rfl, hr4⟩
              exact ⟨rfl, HNO.out _ hk4 hr4⟩
          | ok x =>
            obtain ⟨E, n, qs⟩ := x
            have HV : Hid (Calls Tryz.prog fn #[ptr rb, ptr vb, fldV f] w3.drew fun e w' => Kept (fun j => (P j ∨ j = vb) ∨ j = w.heap.size) w3.drew w' ∧ e = .returned (.tuple #[.int .i64 (E : Nat), .int .i64 n]) ∧ Rd w' (fun j => (P j ∨ j = vb) ∨ j = w.heap.size) o rb L s ((ps ++ [⟨v.depth, v.format, k, a, 0, 0⟩]) ++ qs)) := Lib.hid (by have := HCON.out; rw [hkd] at this; exact this)
            have HR5 : Hid (RR = .ok (E, n, qs)) := Lib.hid (by rw [HR4.out, hkd])
            obtain ⟨EI, hEI⟩ : ∃ EI : Int, (E : Int) = EI := ⟨_, rfl⟩
            rw [hEI] at HV
            have HEI := Lib.hid hEI
            clear hkd HCON hEI
            refine wp_region_T 9 (fun w' : World => ∃ n : Nat, w' = w3.drewN n) (by kernel_rfl) ⟨1, rfl⟩ (fun hHeld => ?_)
            refine anyT 0 (h := ?_)
            (try simp only [pA, pB, pC, pD])
            refine anyT 1 (h := ?_)
            (try simp only [pA, pB, pC, pD])
            refine anyT 2 (h := ?_)
            (try simp only [pA, pB, pC, pD])
            refine takeTn 3 (h := ?_)
            (try simp only [pA, pB, pC, pD])
            refine anyT 4 (h := ?_)
            (try simp only [pA, pB, pC, pD])
            refine takeTn 5 (h := ?_)
            (try simp only [pA, pB, pC, pD])
            refine takeTn 6 (h := ?_)
            (try simp only [pA, pB, pC, pD])
            refine anyT 7 (h := ?_)
            (try simp only [pA, pB, pC, pD])
            refine takeTn 8 (h := ?_)
            (try simp only [pA, pB, pC, pD])
            refine wpAnyT_ready (rs := [9]) (by kernel_rfl) (by simp) ?_
            refine AllReadyT.cons (o := ?oB74) ?hB74 ?kB74 AllReadyT.nil
            case hB74 => (simp only [List.getElem?_toArray, List.getElem?_cons_zero, List.getElem?_cons_succ]; rfl)
            case kB74 =>
              intro K hK
              go_simp
              refine HV.out.mono ?_
              rintro e w4 ⟨hk4, rfl, hr4⟩
              refine hK.out _ _ (no_more (by kernel_rfl)) ?_
              clear hK K
              (try simp only [pA, pB, pC, pD])
              refine anyT 10 (S := by exact no_more (by kernel_rfl)) (h := ?_)
              (try simp only [pA, pB, pC, pD])
              refine anyT 11 (S := by exact no_more (by kernel_rfl)) (h := ?_)
              (try simp only [pA, pB, pC, pD])
              refine anyT 12 (S := by exact no_more (by kernel_rfl)) (h := ?_)
              (try simp only [pA, pB, pC, pD])
              refine anyT 13 (S := by exact no_more (by kernel_rfl)) (h := ?_)
              (try simp only [pA, pB, pC, pD])
              refine anyT 14 (S := by exact no_more (by kernel_rfl)) (h := ?_)
              (try simp only [pA, pB, pC, pD])
              refine wpAnyT_done (by kernel_rfl) ?_ _
              have hk4' : Kept (fun j => (P j ∨ j = vb) ∨ j = w.heap.size) W w4 := HW3.out.1.drew.trans hk4
              rw [List.append_assoc, List.singleton_append] at hr4
              obtain ⟨vp4, hp4⟩ := hr4.parts
              have e4 := hp4.cell
              obtain ⟨g4, c4', rfl, hl4⟩ : ∃ g c, vp4 = .slice (some ⟨g, 0, none⟩) (ps ++ (⟨v.depth, v.format, k, a, 0, 0⟩ : Pt) :: qs).length c ∧ m < (ps ++ (⟨v.depth, v.format, k, a, 0, 0⟩ : Pt) :: qs).length := by
                have hlen : m < (ps ++ (⟨v.depth, v.format, k, a, 0, 0⟩ : Pt) :: qs).length := by rw [HM.out]; simp
                rcases hp4.row.2 with ⟨_, h0⟩ | ⟨g, cap, cur, rfl, _⟩
                · rw [h0] at hlen; omega
                · exact ⟨g, cap, rfl, hlen⟩
              obtain ⟨q4, hq4⟩ : ∃ q, q = (ps ++ (⟨v.depth, v.format, k, a, 0, 0⟩ : Pt) :: qs).length := ⟨_, rfl⟩
              rw [← hq4] at e4 hl4
              obtain ⟨⟨y1, y2, y3, y4⟩, hk5, hr5⟩ := hr4.put hp4 (g := g4) rfl EI n
              rw [← HM.out] at y1 y2 y3 y4 hk5 hr5
              have hi4 : (0 : Int) ≤ (m : Int) ∧ (m : Int) < (q4 : Int) := by omega
              have HK5 := Lib.hid (And.intro (hk4'.trans hk5) hr5)
              clear hk4 hk4' hr4 hp4 hq4 hk5 hr5 d0 d1 d2 d3 ck hlook hen
              go_wp2_with fail
              have hst5 : (w4.setCell ⟨g4, m * 6 + 4, none⟩ (.int .i64 EI)).drew.frozen? ⟨g4, m * 6 + 5, none⟩ = false ∧ ((w4.setCell ⟨g4, m * 6 + 4, none⟩ (.int .i64 EI)).drew.cell? ⟨g4, m * 6 + 5, none⟩).isSome = true := by
                refine ⟨(World.frozen?_setCell _ _ _ _).trans y2, ?_⟩
                rw [show (w4.setCell ⟨g4, m * 6 + 4, none⟩ (.int .i64 EI)).drew.cell? ⟨g4, m * 6 + 5, none⟩ = (w4.setCell ⟨g4, m * 6 + 4, none⟩ (.int .i64 EI)).cell? ⟨g4, m * 6 + 5, none⟩ from rfl, World.cell?_setCell_other _ _ _ _ (by simp)]
                exact y4
              obtain ⟨z2, z4⟩ := hst5
              obtain ⟨u4, hu4⟩ := Option.isSome_iff_exists.1 y3
              obtain ⟨u5, hu5⟩ := Option.isSome_iff_exists.1 z4
              have HZ := Lib.hid (And.intro z2 hu5)
              clear y2 y3 y4 z2 z4 hu5
              refine wp_region_T 14 (fun w' : World => w'.cell? ⟨rb, 4, none⟩ = some (.slice (some ⟨g4, 0, none⟩) q4 c4')) (by kernel_rfl) (show w4.drew.cell? ⟨rb, 4, none⟩ = _ from e4) (fun hHeld => ?_)
              refine anyT 0 (h := ?_)
              (try simp only [pA, pB, pC, pD])
              refine anyT 1 (h := ?_)
              (try simp only [pA, pB, pC, pD])
              refine anyT 2 (h := ?_)
              (try simp only [pA, pB, pC, pD])
              refine takeT 3 (y := by intro wS hSw; skip; go_simp; (try with_reducible rfl)) (h := ?_)
              (try simp only [pA, pB, pC, pD])
              refine anyT 4 (h := ?_)
              (try simp only [pA, pB, pC, pD])
              refine anyT 5 (h := ?_)
              (try simp only [pA, pB, pC, pD])
              refine anyT 6 (h := ?_)
              (try simp only [pA, pB, pC, pD])
              refine anyT 7 (h := ?_)
              (try simp only [pA, pB, pC, pD])
              refine takeT 8 (y := by intro wS hSw; skip; go_simp; (try with_reducible rfl)) (h := ?_)
              (try simp only [pA, pB, pC, pD])
              refine anyT 9 (h := ?_)
              (try simp only [pA, pB, pC, pD])
              refine anyT 10 (h := ?_)
              (try simp only [pA, pB, pC, pD])
              refine anyT 11 (h := ?_)
              (try simp only [pA, pB, pC, pD])
              refine takeT 12 (y := by intro wS hSw; skip; go_simp; (try with_reducible rfl)) (h := ?_)
              (try simp only [pA, pB, pC, pD])
              refine anyT 13 (h := ?_)
              (try simp only [pA, pB, pC, pD])
              refine wpAnyT_ready (rs := [14]) (by kernel_rfl) (by simp) ?_
              refine AllReadyT.cons (o := ?oB105) ?hB105 ?kB105 AllReadyT.nil
              case hB105 => (simp only [List.getElem?_toArray, List.getElem?_cons_zero, List.getElem?_cons_succ]; rfl)
              case kB105 =>
                intro K hK
                go_simp
                refine hK.out _ _ (no_more (by kernel_rfl)) ?_
                clear hK K
                (try simp only [pA, pB, pC, pD])
                obtain ⟨z2, hu5⟩ := HZ.out
                refine anyT 15 (S := by exact no_more (by kernel_rfl)) (h := ?_)
                (try simp only [pA, pB, pC, pD])
                refine anyT 16 (S := by exact no_more (by kernel_rfl)) (h := ?_)
                (try simp only [pA, pB, pC, pD])
                refine wpAnyT_ready (rs := [17]) (by kernel_rfl) (by simp) ?_
                refine AllReadyT.cons (o := ?oB108) ?hB108 ?kB108 AllReadyT.nil
                case hB108 => (simp only [List.getElem?_toArray, List.getElem?_cons_zero, List.getElem?_cons_succ]; rfl)
                case kB108 =>
                  intro K hK
                  go_simp
                  refine hK.out _ _ (no_more (by kernel_rfl)) ?_
                  clear hK K
                  (try simp only [pA, pB, pC, pD])
                  refine wpAnyT_done (by kernel_rfl) ?_ _
                  have HK6 : Hid (Kept (fun j => (P j ∨ j = vb) ∨ j = w.heap.size) W ((w4.setCell ⟨g4, m * 6 + 4, none⟩ (.int .i64 EI)).setCell ⟨g4, m * 6 + 5, none⟩ (.int .i64 n)).drew ∧ Rd ((w4.setCell ⟨g4, m * 6 + 4, none⟩ (.int .i64 EI)).setCell ⟨g4, m * 6 + 5, none⟩ (.int .i64 n)).drew (fun j => (P j ∨ j = vb) ∨ j = w.heap.size) o rb L s (ps ++ { (⟨v.depth, v.format, k, a, 0, 0⟩ : Pt) with stop := EI, number := n } :: qs)) := Lib.hid ⟨HK5.out.1.drew, HK5.out.2.keptN 1⟩
                  clear HK5 HZ z2 hu5 hu4 e4 y1
                  go_wp2_with fail
                  generalize ((w4.setCell ⟨g4, m * 6 + 4, none⟩ (.int .i64 EI)).setCell ⟨g4, m * 6 + 5, none⟩ (.int .i64 n)).drew = w6 at *
                  have hv6 : VAt w6 vb v := HB0.out.2.2.2.1.keep (HK6.out.1.block vb (.inl (.inr rfl)))
                  have c2 := hv6.cells.2.2.1
                  rw [nk] at c2
                  have c4 := hv6.cells.2.2.2.2.1
                  have cq := hv6.num hk16
                  have y4 := hv6.blk.frozen 4
                  have yq := hv6.blk.frozen (6 + k)
                  have hik : (0 : Int) ≤ (k : Int) ∧ (k : Int) < 16 := by omega
                  have hst6 : (w6.setCell ⟨vb, 4, none⟩ (.int .i64 EI)).drew.frozen? ⟨vb, 6 + k, none⟩ = false ∧ (w6.setCell ⟨vb, 4, none⟩ (.int .i64 EI)).drew.cell? ⟨vb, 6 + k, none⟩ = some (.int .i64 (v.nums.getD k 0)) := by
                    refine ⟨(World.frozen?_setCell _ _ _ _).trans yq, ?_⟩
                    rw [show (w6.setCell ⟨vb, 4, none⟩ (.int .i64 EI)).drew.cell? ⟨vb, 6 + k, none⟩ = (w6.setCell ⟨vb, 4, none⟩ (.int .i64 EI)).cell? ⟨vb, 6 + k, none⟩ from rfl, World.cell?_setCell_other _ _ _ _ (by simp)]
                    exact cq
                  have HZ := Lib.hid hst6
                  have HEND : Hid (∀ W', W' = ((w6.setCell ⟨vb, 4, none⟩ (.int .i64 EI)).setCell ⟨vb, 6 + k, none⟩ (.int .i64 n)).drew → NxPost w P o rb L s ps vb v k a RR (.returned (.tuple #[])) W') := Lib.hid fun W' hW' => by
                    have hk6 : Kept P w w6 := (Kept.of_below HB0.out.1 HH.out.1.1.pin).trans (HK6.out.1.mono fun j hj => .inl (.inl hj))
                    have pv := HH.out.2.2.2.2
                    have hke : Kept (fun j => j ≠ vb) w6 W' := by rw [hW']; exact (((Kept.refl _ _).setCell (by simp) _).setCell (by simp) _).drew
                    have hr6 : Rd w6 P o rb L s _ := HH.out.1.weak HK6.out.2 hk6.size fun j hj => .inl (.inl hj)
                    refine ⟨hk6.trans (hke.mono fun j hj e => pv (e ▸ hj)), ?_⟩
                    rw [HR5.out]
                    refine ⟨rfl, ?_, ?_⟩
                    · have := hr6.write hv6.blk pv (by decide) (by decide) (by decide) (by decide) hke
                      rw [← HEI.out] at this
                      exact this
                    · rw [hW', ← HEI.out]; exact (hv6.put hk16 _ _).drew
                  clear hst6 cq yq hv6
                  refine wp_region_T 10 (fun w' : World => w'.cell? ⟨vb, 2, none⟩ = some (.int .i64 (k : Int))) (by kernel_rfl) (show w6.drew.cell? ⟨vb, 2, none⟩ = _ from c2) (fun hHeld => ?_)
                  refine anyT 0 (h := ?_)
                  (try simp only [pA, pB, pC, pD])
                  refine anyT 1 (h := ?_)
                  (try simp only [pA, pB, pC, pD])
                  refine anyT 2 (h := ?_)
                  (try simp only [pA, pB, pC, pD])
                  refine anyT 3 (h := ?_)
                  (try simp only [pA, pB, pC, pD])
                  refine anyT 4 (h := ?_)
                  (try simp only [pA, pB, pC, pD])
                  refine takeT 5 (y := by intro wS hSw; skip; go_simp; (try with_reducible rfl)) (h := ?_)
                  (try simp only [pA, pB, pC, pD])
                  refine anyT 6 (h := ?_)
                  (try simp only [pA, pB, pC, pD])
                  refine anyT 7 (h := ?_)
                  (try simp only [pA, pB, pC, pD])
                  refine anyT 8 (h := ?_)
                  (try simp only [pA, pB, pC, pD])
                  refine anyT 9 (h := ?_)
                  (try simp only [pA, pB, pC, pD])
                  refine anyT 11 (h := ?_)
                  (try simp only [pA, pB, pC, pD])
                  refine anyT 12 (h := ?_)
                  (try simp only [pA, pB, pC, pD])
                  refine wpAnyT_ready (rs := [10]) (by kernel_rfl) (by simp) ?_
                  refine AllReadyT.cons (o := ?oB130) ?hB130 ?kB130 AllReadyT.nil
                  case hB130 => (simp only [List.getElem?_toArray, List.getElem?_cons_zero, List.getElem?_cons_succ]; rfl)
                  case kB130 =>
                    intro K hK
                    go_simp
                    refine hK.out _ _ (no_more (by kernel_rfl)) ?_
                    clear hK K
                    (try simp only [pA, pB, pC, pD])
                    obtain ⟨z1, z2⟩ := HZ.out
                    refine anyT 13 (S := by exact no_more (by kernel_rfl)) (h := ?_)
                    (try simp only [pA, pB, pC, pD])
                    refine wpAnyT_ready (rs := [14]) (by kernel_rfl) (by simp) ?_
                    refine AllReadyT.cons (o := ?oB132) ?hB132 ?kB132 AllReadyT.nil
                    case hB132 => (simp only [List.getElem?_toArray, List.getElem?_cons_zero, List.getElem?_cons_succ]; rfl)
                    case kB132 =>
                      intro K hK
                      go_simp
                      refine hK.out _ _ (no_more (by kernel_rfl)) ?_
                      clear hK K
                      (try simp only [pA, pB, pC, pD])
                      refine wpAnyT_done (by kernel_rfl) ?_ _
                      go_wp2
                      first | go_end0 | skip
                      exact HEND.out _ rfl
  · have hd : decide ((m : Int) < 5000) = false := by rw [decide_eq_false_iff_not]; omega
    rw [hd]
    refine (vrequire_no vb v 5 _ HB0.out.2.2.2.1).mono ?_
    rintro e w5 ⟨rfl, n5, rfl⟩
    refine ⟨rfl, ?_⟩
    rw [HH.out.2.2.2.1.a, HH.out.2.2.2.1.k]
    have hb : Below w.heap.size w ((w.alloc (.cells #[.int .i64 f.kind, .int .i64 f.n, .int .i64 f.frm, .string f.text] 56)).drewN n5) := HB0.out.1.trans ((drewN_below _ n5).mono HB0.out.1.size)
    exact NxPost.no_ (by rw [HRR.out]; unfold next; rw [if_pos (by have := HM.out; omega)]) (Kept.of_below hb HH.out.1.1.pin) (HH.out.1.below hb)
end
end RecN
section RecO
open Go.RowKit Fx Rec

theorem knows_at {d : List Fm} {id : Int} (h : knows (lm d) id = true) : ∃ j, At d id j := by
  obtain ⟨r, rfl⟩ : ∃ r : List Fm, d = r.reverse := ⟨d.reverse, by simp⟩
  induction r with
  | nil => unfold knows at h; simp [lm, lk_nil] at h
  | cons f t ih =>
    rw [List.reverse_cons] at h ⊢
    rw [lm_snoc] at h
    unfold knows at h
    rw [lk_cons] at h
    split at h
    · rename_i he
      refine ⟨t.reverse.length, by simp, ?_⟩
      rw [List.getD_eq_getElem?_getD, List.getElem?_append_right (Nat.le_refl _)]
      simpa using he
    · obtain ⟨j, hj, e⟩ := ih h
      refine ⟨j, by simp at hj ⊢; omega, ?_⟩
      rw [List.getD_eq_getElem?_getD, List.getElem?_append_left hj, ← List.getD_eq_getElem?_getD]
      exact e
theorem at_take {L : List Fm} {i j : Nat} {id : Int} (h : At (L.take i) id j) : At L id j ∧ j < i := by
  obtain ⟨hj, e⟩ := h
  rw [List.length_take] at hj
  refine ⟨⟨by omega, ?_⟩, by omega⟩
  rw [List.getD_eq_getElem?_getD, List.getElem?_take, if_pos (by omega), ← List.getD_eq_getElem?_getD] at e
  exact e
theorem fok_of {L : List Fm} (h : Ok L) {i n k : Nat} (hi : i < L.length) (hin : i ≤ n) (hk : k < (L.getD i zm).fs.length) : FOk L n ((L.getD i zm).fs.getD k zf) := by
  have hfm := h.each i hi
  have hr := hfm.each k hk
  have hk16 := hfm.few
  obtain ⟨f, hf⟩ : ∃ f, f = (L.getD i zm).fs.getD k zf := ⟨_, rfl⟩
  rw [← hf] at hr ⊢
  have hkd := right_kind hr
  have cnt : counts ((L.getD i zm).fs.take k) f.frm = true → ∃ q : Nat, f.frm = q ∧ q < 16 := fun hc => by
    obtain ⟨c1, c2, _⟩ := counts_of hc
    rw [List.length_take] at c2
    exact ⟨f.frm.toNat, by omega, by omega⟩
  have nst : nests (lm (L.take i)) ((L.getD i zm).fs.take k) f = true → (∃ q : Nat, f.frm = q ∧ q < 16) ∧ ∃ j, At L f.n j ∧ j < n := fun hn => by
    obtain ⟨_, n2, n3⟩ := nests_of hn
    obtain ⟨j, hj⟩ := knows_at n2
    obtain ⟨h1, h2⟩ := at_take hj
    exact ⟨cnt n3, j, h1, by omega⟩
  unfold right at hr
  refine ⟨hkd.1, hkd.2, fun h1 => ?_, fun h1 => ?_, fun h1 => ?_, fun h1 => ?_⟩
  · rw [if_pos h1] at hr
    exact (literal_of hr).2.2.2
  · rcases h1 with h1 | h1
    · rw [if_neg (by omega), if_pos h1] at hr
      have := sized_of hr
      omega
    · rw [if_neg (by omega), if_neg (by omega), if_neg (by omega), if_neg (by omega), if_neg (by omega), if_pos h1] at hr
      have := sized_of hr
      omega
  · rw [if_neg (by omega), if_neg (by omega), if_pos h1, Bool.or_eq_true] at hr
    rcases hr with hr | hr
    · have := sized_of hr
      exact .inl (by omega)
    · exact .inr (cnt (counted_of hr).2.2)
  · rcases h1 with h1 | h1
    · rw [if_neg (by omega), if_neg (by omega), if_neg (by omega), if_pos h1] at hr
      exact nst hr
    · rw [if_neg (by omega), if_neg (by omega), if_neg (by omega), if_neg (by omega), if_pos h1, Bool.and_eq_true] at hr
      exact nst hr.1
/-- Small numbers. -/
def Small (nums : List Int) : Prop := ∀ i, 0 ≤ nums.getD i 0 ∧ nums.getD i 0 ≤ 16777215
theorem small_nil : Small [] := fun i => by simp
theorem Small.snoc {nums : List Int} (h : Small nums) {n : Int} (h0 : 0 ≤ n) (h1 : n ≤ 16777215) : Small (nums ++ [n]) := fun i => by
  rw [List.getD_eq_getElem?_getD]
  by_cases hi : i < nums.length
  · rw [List.getElem?_append_left hi, ← List.getD_eq_getElem?_getD]; exact h i
  · rw [List.getElem?_append_right (by omega)]
    by_cases e : i - nums.length = 0
    · rw [e]; exact ⟨h0, h1⟩
    · rw [List.getElem?_eq_none (by simp; omega)]; simp
theorem Small.pad {nums : List Int} (h : Small nums) (m : Nat) : Small (nums ++ List.replicate m 0) := fun i => by
  rw [List.getD_eq_getElem?_getD]
  by_cases hi : i < nums.length
  · rw [List.getElem?_append_left hi, ← List.getD_eq_getElem?_getD]; exact h i
  · rw [List.getElem?_append_right (by omega), List.getElem?_replicate]
    split <;> simp
theorem ext_small (s : ByteArray) {a n : Nat} (h : n ≤ 3) : 0 ≤ num (s.extract a (a + n)) ∧ num (s.extract a (a + n)) ≤ 16777215 := num_bound (by rw [ByteArray.size_extract]; omega)
theorem kind_num {s : ByteArray} {sub : Sub} {id depth : Int} {start limit k at_ cnt : Nat} {L : List Fm} {N : Nat} {f : Fld} (hf : FOk L N f) {nums : List Int} (hn : Small nums) {y : Nat × Int × List Pt} (h : kind s sub id depth start limit k f nums at_ cnt = .ok y) : 0 ≤ y.2.1 ∧ y.2.1 ≤ 16777215 := by
  have ht : ((told f nums : Nat) : Int) ≤ 16777215 := by
    have := hn f.frm.toNat
    unfold told
    omega
  unfold kind at h
  split at h
  · obtain ⟨h1, h2⟩ := short_ok h
    obtain ⟨_, h3⟩ := unless_ok h2
    cases h3
    exact ⟨by simp, by simp⟩
  · split at h
    · rename_i h2
      obtain ⟨_, h3⟩ := short_ok h
      cases h3
      exact ext_small s (by have := hf.k2 (.inl h2); omega)
    · split at h
      · split at h
        · obtain ⟨_, h3⟩ := short_ok h
          cases h3
          exact ⟨by simp, by simp⟩
        · obtain ⟨_, h3⟩ := short_ok h
          cases h3
          exact ⟨by simp, by simp⟩
      · split at h
        · rw [(listed_ok h).2]; omega
        · split at h
          · obtain ⟨_, h2⟩ := short_ok h
            rw [(boxed_ok h2).2.1]; omega
          · rename_i h1 h2 h3 h4 h5
            obtain ⟨_, h6⟩ := short_ok h
            obtain ⟨_, h7⟩ := unless_ok h6
            cases h7
            exact ext_small s (by have := hf.k2 (.inr (by have := hf.lo; have := hf.hi; omega)); omega)
theorem next_num {s : ByteArray} {sub : Sub} {id depth : Int} {start limit k at_ cnt : Nat} {L : List Fm} {N : Nat} {f : Fld} (hf : FOk L N f) {nums : List Int} (hn : Small nums) {y : Nat × Int × List Pt} (h : next s sub id depth start limit k f nums at_ cnt = .ok y) : 0 ≤ y.2.1 ∧ y.2.1 ≤ 16777215 := by
  unfold next at h
  split at h
  · cases h
  · exact kind_num hf hn h
theorem next_pad (s : ByteArray) (sub : Sub) (id depth : Int) (start limit k : Nat) (f : Fld) (nums : List Int) (at_ cnt m : Nat) : next s sub id depth start limit k f (nums ++ List.replicate m 0) at_ cnt = next s sub id depth start limit k f nums at_ cnt := by
  unfold next
  rw [kind_pad]
theorem pad_set {nums : List Int} {k : Nat} (hk : nums.length = k) (h16 : k < 16) (n : Int) : (nums ++ List.replicate (16 - k) 0).set k n = (nums ++ [n]) ++ List.replicate (16 - (k + 1)) 0 := by
  rw [List.set_append_right _ _ (by omega), show k - nums.length = 0 by omega, show 16 - k = (16 - (k + 1)) + 1 by omega, List.replicate_succ, List.append_assoc]
  rfl
theorem fieldsE_at {L : List Fm} (h : Ok L) {us : List Value} (hu : us.length = L.length) {id : Int} {i : Nat} (ha : At L id i) : lkV (fieldsE L us) id = some (us.getD i undef) := by
  obtain ⟨hi, e⟩ := ha
  have hfind : ((fieldsE L us).find? fun p => decide (p.1 = id)) = some (id, us.getD i undef) := by
    rw [List.find?_eq_some_iff_getElem]
    have hi2 : i < (fieldsE L us).length := by unfold fieldsE; simp [hu]; omega
    have hg : ∀ j (hj : j < (fieldsE L us).length), (fieldsE L us)[j] = ((L.getD j zm).id, us.getD j undef) := fun j hj => by
      have hj2 : j < L.length := by unfold fieldsE at hj; simp [hu] at hj; omega
      have hj3 : j < us.length := by omega
      have e1 : L.getD j zm = L[j] := by simp [List.getD, hj2]
      have e2 : us.getD j undef = us[j] := by simp [List.getD, hj3]
      rw [e1, e2]
      simp only [fieldsE, List.getElem_map, List.getElem_zip]
    refine ⟨by simp, i, hi2, by rw [hg, e], fun j hj => ?_⟩
    rw [hg]
    have := asc_lt h.asc hj hi
    simp only [Bool.not_eq_true', decide_eq_false_iff_not]
    omega
  unfold lkV
  rw [hfind]
  rfl
end RecO
section WrP
open Go.RowKit Fx Rec

/-- A field that is right for a writer. -/
structure FOkW (L : List Fm) (N : Nat) (fs : List Fld) (k : Nat) (f : Fld) : Prop where
  ok : FOk L N f
  k3 : f.kind = 3 → f.frm = -1 ∨ ∃ q : Nat, f.frm = q ∧ q < k ∧ q < 16 ∧ waits fs q = true ∧ (fs.getD q zf).kind = 2
  k5 : f.kind = 5 → ∃ q : Nat, f.frm = q ∧ q < k ∧ q < 16 ∧ waits fs q = true ∧ (fs.getD q zf).kind = 2
theorem waits_at {fs : List Fld} {k q : Nat} (hk : k < fs.length) (hq : (fs.getD k zf).frm = (q : Int)) (h4 : (fs.getD k zf).kind ≠ 4) : waits fs q = true := by
  unfold waits
  rw [List.any_eq_true]
  refine ⟨fs.getD k zf, by rw [List.getD_eq_getElem?_getD, List.getElem?_eq_getElem hk]; exact List.getElem_mem hk, ?_⟩
  rw [hq, decide_eq_true rfl, decide_eq_false h4]
  rfl
theorem fokw_of {L : List Fm} (h : Ok L) {i n k : Nat} (hi : i < L.length) (hin : i ≤ n) (hk : k < (L.getD i zm).fs.length) : FOkW L n (L.getD i zm).fs k ((L.getD i zm).fs.getD k zf) := by
  have hr := (h.each i hi).each k hk
  have hk16 := (h.each i hi).few
  obtain ⟨fs, hfs⟩ : ∃ fs, fs = (L.getD i zm).fs := ⟨_, rfl⟩
  have hok := fok_of h hi hin hk
  rw [← hfs] at hr hk16 hk hok ⊢
  obtain ⟨f, hf⟩ : ∃ f, f = fs.getD k zf := ⟨_, rfl⟩
  have cnt : counts (fs.take k) f.frm = true → f.kind ≠ 4 → ∃ q : Nat, f.frm = q ∧ q < k ∧ q < 16 ∧ waits fs q = true ∧ (fs.getD q zf).kind = 2 := fun hc h4 => by
    obtain ⟨c1, c2, c3, _⟩ := counts_of hc
    rw [List.length_take] at c2
    have hq : f.frm = ((f.frm.toNat : Nat) : Int) := by omega
    refine ⟨f.frm.toNat, hq, by omega, by omega, waits_at hk (by rw [← hf]; exact hq) (by rw [← hf]; exact h4), ?_⟩
    rw [List.getD_eq_getElem?_getD, List.getElem?_take, if_pos (by omega), ← List.getD_eq_getElem?_getD] at c3
    exact c3
  rw [← hf] at hr hok ⊢
  unfold right at hr
  refine ⟨hok, fun h1 => ?_, fun h1 => ?_⟩
  · rw [if_neg (by omega), if_neg (by omega), if_pos h1, Bool.or_eq_true] at hr
    rcases hr with hr | hr
    · have := sized_of hr
      exact .inl (by omega)
    · exact .inr (cnt (counted_of hr).2.2 (by omega))
  · rw [if_neg (by omega), if_neg (by omega), if_neg (by omega), if_neg (by omega), if_pos h1, Bool.and_eq_true] at hr
    exact cnt (nests_of hr.1).2.2 (by omega)
theorem Short.tail {x : ByteArray} {l : List ByteArray} (h : Short (x :: l)) : Short l := fun y hy => h y (List.mem_cons_of_mem _ hy)
theorem Tame.of {σ σ' : Ws} (h : Tame σ) (hv : Short σ'.vals) (hc : σ'.checks = σ.checks) (hp : σ'.parts = σ.parts) (hl : σ.st.length ≤ σ'.st.length) : Tame σ' :=
  ⟨hv, by rw [hc, hp]; exact h.cnt, fun c hm => by rw [hc] at hm; have := h.each c hm; omega, by rw [hc]; exact h.ord⟩
theorem fill_st {σ σ1 : Ws} {h : Nat × Nat} {n : Int} (e : fill σ h n = some σ1) (hl : h.1 + h.2 ≤ σ.st.length) : σ1.st.length = σ.st.length ∧ σ1.vals = σ.vals ∧ σ1.parts = σ.parts ∧ σ1.checks = σ.checks := by
  unfold fill at e
  split at e
  · cases e
    exact ⟨patch_len _ _ _ (by rw [nbytes_len]; exact hl), rfl, rfl, rfl⟩
  · cases e
abbrev Grows (sub : WSub) (id : Int) : Prop := ∀ σ σ', sub id σ = some σ' → Tame σ → σ.st.length ≤ σ'.st.length ∧ Tame σ'
theorem wreps_grows {sub : WSub} {id : Int} (h : Grows sub id) : ∀ n σ σ', wreps sub id n σ = some σ' → Tame σ → σ.st.length ≤ σ'.st.length ∧ Tame σ'
  | 0, σ, σ', e, ht => by
    rw [wreps] at e
    cases e
    exact ⟨Nat.le_refl _, ht⟩
  | n + 1, σ, σ', e, ht => by
    rw [wreps, Option.bind_eq_some_iff] at e
    obtain ⟨σ1, e1, e2⟩ := e
    have h1 := h _ _ e1 ht
    have h2 := wreps_grows h n σ1 σ' e2 h1.2
    exact ⟨by omega, h2.2⟩
/-- What holds before a field. -/
structure WIn (fs : List Fld) (start : Nat) (d : Dr) (σ : Ws) : Prop where
  small : Small d.counts
  room : Room fs d σ.st.length
  tame : Tame σ
  st : start ≤ σ.st.length
/-- What a field leaves. -/
structure KOut (fs : List Fld) (k : Nat) (f : Fld) (σ : Ws) (p : Rec.Left) : Prop where
  num : 0 ≤ p.1 ∧ p.1 ≤ 16777215
  room : f.kind = 2 → waits fs k = true → 1 ≤ p.2.1.2 ∧ p.2.1.2 ≤ 3 ∧ p.2.1.1 + p.2.1.2 ≤ p.2.2.st.length
  len : σ.st.length ≤ p.2.2.st.length
  tame : Tame p.2.2
theorem KOut.plain {fs : List Fld} {k : Nat} {f : Fld} {σ σ1 : Ws} (hk : f.kind ≠ 2) (hl : σ.st.length ≤ σ1.st.length) (ht : Tame σ1) : KOut fs k f σ (left0 σ1) :=
  ⟨⟨Int.le_refl 0, show (0 : Int) ≤ 16777215 by decide⟩, fun h => absurd h hk, hl, ht⟩
theorem wkind_out {L : List Fm} {N : Nat} {sub : WSub} {fs : List Fld} {start k : Nat} {f : Fld} {d : Dr} {σ : Ws} {p : Rec.Left} (hf : FOkW L N fs k f) (hl : d.lens.length = k) (hsub : f.kind = 4 ∨ f.kind = 5 → Grows sub f.n)
    (h : WIn fs start d σ) (hc : σ.checks.length < σ.parts) (e : wkind sub fs start k f d σ = some p) : KOut fs k f σ p := by
  unfold wkind at e
  split at e
  · rename_i h1
    rw [wtext, Option.map_eq_some_iff] at e
    obtain ⟨σ1, e1, rfl⟩ := e
    obtain ⟨e2, e3⟩ := addW_st e1
    subst e2
    have hle : σ.st.length ≤ (σ.st ++ f.text.data.toList).length := by simp
    exact KOut.plain (by omega) hle (h.tame.of h.tame.short rfl rfl hle)
  · rename_i h1
    split at e
    · rename_i h2
      have hn := hf.ok.k2 (.inl h2)
      split at e
      · rename_i hw
        rw [wwait, Option.map_eq_some_iff] at e
        obtain ⟨σ1, e1, rfl⟩ := e
        obtain ⟨e2, e3⟩ := addW_st e1
        subst e2
        have hle : σ.st.length ≤ (σ.st ++ List.replicate f.n.toNat 0).length := by simp
        refine ⟨⟨Int.le_refl 0, show (0 : Int) ≤ 16777215 by decide⟩, fun _ _ => ?_, hle, h.tame.of h.tame.short rfl rfl hle⟩
        show 1 ≤ f.n.toNat ∧ f.n.toNat ≤ 3 ∧ σ.st.length + f.n.toNat ≤ (σ.st ++ List.replicate f.n.toNat 0).length
        rw [List.length_append, List.length_replicate]
        omega
      · rename_i hw
        rw [wgiven, Option.bind_eq_some_iff] at e
        obtain ⟨⟨x, σ0⟩, e0, e⟩ := e
        simp only at e
        split at e
        · rename_i hx
          rw [Option.map_eq_some_iff] at e
          obtain ⟨σ1, e1, rfl⟩ := e
          obtain ⟨e2, e3⟩ := addW_st e1
          obtain ⟨n1, n2⟩ := nextW_st e0
          have hle : σ.st.length ≤ σ1.st.length := by rw [e2, ← n2]; simp
          have hcp : σ0.checks = σ.checks ∧ σ0.parts = σ.parts := by
            unfold nextW at e0
            split at e0
            · cases e0
            · cases e0; exact ⟨rfl, rfl⟩
          refine ⟨num_bound (by omega), fun _ h => absurd h hw, hle, h.tame.of ?_ (by rw [e2]; exact hcp.1) (by rw [e2]; exact hcp.2) hle⟩
          have hs := h.tame.short
          rw [n1] at hs
          rw [e2]; exact hs.tail
        · cases e
    · split at e
      · rename_i h2 h3
        rw [wbytes, Option.bind_eq_some_iff] at e
        obtain ⟨⟨x, σ0⟩, e0, e⟩ := e
        rw [Option.bind_eq_some_iff] at e
        obtain ⟨σ1, e1, e⟩ := e
        obtain ⟨e2, e3⟩ := addW_st e1
        obtain ⟨n1, n2⟩ := nextW_st e0
        have hle : σ.st.length ≤ σ1.st.length := by rw [e2, ← n2]; simp
        have hcp : σ0.checks = σ.checks ∧ σ0.parts = σ.parts := by
          unfold nextW at e0
          split at e0
          · cases e0
          · cases e0; exact ⟨rfl, rfl⟩
        have ht : Tame σ1 := h.tame.of (by have hs := h.tame.short; rw [n1] at hs; rw [e2]; exact hs.tail) (by rw [e2]; exact hcp.1) (by rw [e2]; exact hcp.2) hle
        split at e
        · split at e
          · cases e
            exact KOut.plain (by omega) hle ht
          · cases e
        · rename_i hfm
          obtain ⟨q, hq, hqk, -, hw, hk2⟩ := (hf.k3 h3).resolve_left hfm
          rw [Option.map_eq_some_iff] at e
          obtain ⟨σ2, e4, rfl⟩ := e
          have hR := h.room q (by omega) hw hk2
          rw [hq, Int.toNat_natCast] at e4
          obtain ⟨g1, g2, g3, g4⟩ := fill_st e4 (by omega)
          exact KOut.plain (by omega) (by omega) (ht.of (by rw [g2]; exact ht.short) g4 g3 (by omega))
      · split at e
        · rename_i h2 h3 h4
          rw [wlist, Option.map_eq_some_iff] at e
          obtain ⟨σ1, e1, rfl⟩ := e
          obtain ⟨g1, g2⟩ := wreps_grows (hsub (.inl h4)) _ _ _ e1 h.tame
          exact KOut.plain (by omega) g1 g2
        · split at e
          · rename_i h2 h3 h4 h5
            rw [winside, Option.bind_eq_some_iff] at e
            obtain ⟨σ1, e1, e⟩ := e
            rw [Option.map_eq_some_iff] at e
            obtain ⟨σ2, e4, rfl⟩ := e
            obtain ⟨g1, g2⟩ := hsub (.inr h5) _ _ e1 h.tame
            obtain ⟨q, hq, hqk, -, hw, hk2⟩ := hf.k5 h5
            have hR := h.room q (by omega) hw hk2
            rw [hq, Int.toNat_natCast] at e4
            obtain ⟨k1, k2, k3, k4⟩ := fill_st e4 (by omega)
            exact KOut.plain (by omega) (by omega) (g2.of (by rw [k2]; exact g2.short) k4 k3 (by omega))
          · rename_i h2 h3 h4 h5
            have h6 : f.kind = 6 := by have := hf.ok.lo; have := hf.ok.hi; omega
            have hn := hf.ok.k2 (.inr h6)
            rw [wcheck, Option.map_eq_some_iff] at e
            obtain ⟨σ1, e1, rfl⟩ := e
            obtain ⟨e2, e3⟩ := addW_st e1
            subst e2
            have hlen : (σ.st ++ List.replicate f.n.toNat (0 : UInt8)).length = σ.st.length + f.n.toNat := by simp
            refine KOut.plain (by omega) (by show σ.st.length ≤ (σ.st ++ List.replicate f.n.toNat 0).length; omega) ⟨h.tame.short, ?_, ?_, ?_⟩
            · show (σ.checks ++ [_]).length ≤ σ.parts
              rw [List.length_append, List.length_singleton]; omega
            · intro c hm
              have hm' : c ∈ σ.checks ++ [(start, σ.st.length, f.n.toNat)] := hm
              show c.1 ≤ c.2.1 ∧ 1 ≤ c.2.2 ∧ c.2.2 ≤ 3 ∧ c.2.1 + c.2.2 ≤ (σ.st ++ List.replicate f.n.toNat 0).length
              rw [hlen]
              rw [List.mem_append, List.mem_singleton] at hm'
              rcases hm' with hm' | rfl
              · have := h.tame.each c hm'; omega
              · have := h.st
                refine ⟨this, ?_, ?_, Nat.le_refl _⟩ <;> simp only <;> omega
            · show (σ.checks ++ [(start, σ.st.length, f.n.toNat)]).Pairwise _
              rw [List.pairwise_append]
              refine ⟨h.tame.ord, List.pairwise_singleton _ _, fun a ha b hb => ?_⟩
              rw [List.mem_singleton] at hb
              subst hb
              have := h.tame.each a ha
              show a.2.1 ≤ σ.st.length
              omega
theorem WIn.next {fs : List Fld} {start k : Nat} {d : Dr} {σ : Ws} {p : Rec.Left} (h : WIn fs start d σ) (hl : d.lens.length = k) (ho : KOut fs k (fs.getD k zf) σ p) : WIn fs start ⟨d.counts ++ [p.1], d.lens ++ [p.2.1]⟩ p.2.2 := by
  refine ⟨h.small.snoc ho.num.1 ho.num.2, fun i hi hw h2 => ?_, ho.tame, Nat.le_trans h.st ho.len⟩
  have hi' : i < (d.lens ++ [p.2.1]).length := hi
  rw [List.length_append, List.length_singleton] at hi'
  show 1 ≤ ((d.lens ++ [p.2.1]).getD i (0, 0)).2 ∧ _
  by_cases e : i = k
  · subst e
    have e1 : (d.lens ++ [p.2.1]).getD i (0, 0) = p.2.1 := by rw [List.getD_eq_getElem?_getD, ← hl, List.getElem?_concat_length]; rfl
    rw [e1]
    exact ho.room h2 hw
  · have e1 : (d.lens ++ [p.2.1]).getD i (0, 0) = d.lens.getD i (0, 0) := by rw [List.getD_eq_getElem?_getD, List.getElem?_append_left (by omega), ← List.getD_eq_getElem?_getD]
    rw [e1]
    have := h.room i (by omega) hw h2
    have := ho.len
    omega
theorem wnext_out {L : List Fm} {N : Nat} {sub : WSub} {fs : List Fld} {start k : Nat} {d : Dr} {σ : Ws} {p : Rec.Left} (hf : FOkW L N fs k (fs.getD k zf)) (hl : d.lens.length = k) (hsub : (fs.getD k zf).kind = 4 ∨ (fs.getD k zf).kind = 5 → Grows sub (fs.getD k zf).n)
    (h : WIn fs start d σ) (e : wnext sub fs start k (fs.getD k zf) d σ = some p) : WIn fs start ⟨d.counts ++ [p.1], d.lens ++ [p.2.1]⟩ p.2.2 ∧ σ.st.length ≤ p.2.2.st.length := by
  unfold wnext at e
  split at e
  · have h1 : WIn fs start d { σ with parts := σ.parts + 1 } := ⟨h.small, h.room, ⟨h.tame.short, Nat.le_trans h.tame.cnt (Nat.le_succ _), h.tame.each, h.tame.ord⟩, h.st⟩
    have ho := wkind_out hf hl hsub h1 (Nat.lt_succ_of_le h.tame.cnt) e
    exact ⟨h1.next hl ho, ho.len⟩
  · cases e
theorem wflds_out {L : List Fm} {N : Nat} {sub : WSub} {fs : List Fld} {start : Nat} (hf : ∀ k, k < fs.length → FOkW L N fs k (fs.getD k zf)) (hsub : ∀ k, k < fs.length → (fs.getD k zf).kind = 4 ∨ (fs.getD k zf).kind = 5 → Grows sub (fs.getD k zf).n) :
    ∀ (l : List Fld) (k : Nat) (d : Dr) (σ σ' : Ws), l = fs.drop k → d.lens.length = k → WIn fs start d σ → wflds sub fs start l k d σ = some σ' → σ.st.length ≤ σ'.st.length ∧ Tame σ'
  | [], k, d, σ, σ', _, _, h, e => by
    rw [wflds] at e
    cases e
    exact ⟨Nat.le_refl _, h.tame⟩
  | f :: t, k, d, σ, σ', hd, hl, h, e => by
    have hk : k < fs.length := by
      apply Classical.byContradiction
      intro hn
      rw [List.drop_eq_nil_of_le (by omega)] at hd
      cases hd
    rw [List.drop_eq_getElem_cons hk] at hd
    have hfe : f = fs.getD k zf := by
      rw [List.getD_eq_getElem?_getD, List.getElem?_eq_getElem hk]
      injection hd
    injection hd with _ ht
    rw [wflds, Option.bind_eq_some_iff] at e
    obtain ⟨p, e1, e2⟩ := e
    subst hfe
    obtain ⟨g1, g2⟩ := wnext_out (hf k hk) hl (hsub k hk) h e1
    obtain ⟨r1, r2⟩ := wflds_out hf hsub t (k + 1) _ _ σ' ht (by simp [hl]) g1 e2
    exact ⟨by omega, r2⟩
theorem room_nil (fs : List Fld) (n : Nat) : Room fs ⟨[], []⟩ n := fun _ hi => absurd hi (Nat.not_lt_zero _)
theorem WIn.first {fs : List Fld} {σ : Ws} (h : Tame σ) : WIn fs σ.st.length ⟨[], []⟩ σ := ⟨small_nil, room_nil fs _, h, Nat.le_refl _⟩
/-- Values of formats grow. -/
theorem wval_grows {L : List Fm} (h : Ok L) : ∀ (n : Nat) (id : Int) (i : Nat), At L id i → i < n → Grows (wval L n) id
  | 0, _, _, _, hi => absurd hi (Nat.not_lt_zero _)
  | n + 1, id, i, hat, hi => fun σ σ' e ht => by
    have e : wflds (wval L n) (fieldsOf L id) σ.st.length (fieldsOf L id) 0 ⟨[], []⟩ σ = some σ' := e
    have hfo := fieldsOf_at h hat
    rw [hfo] at e
    refine wflds_out (L := L) (N := n) (fun k hk => fokw_of h hat.1 (by omega) hk) (fun k hk hkd => ?_) _ 0 ⟨[], []⟩ σ σ' rfl rfl (WIn.first ht) e
    obtain ⟨-, j, hj, hjn⟩ := (fokw_of h hat.1 (show i ≤ n by omega) hk).ok.k4 hkd
    exact wval_grows h n _ j hj hjn
end WrP
end Go.Proofs.YtdndmhlmbpgdeaaGreatDoor
