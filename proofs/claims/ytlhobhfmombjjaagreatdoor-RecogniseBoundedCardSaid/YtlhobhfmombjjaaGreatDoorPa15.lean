/- The next field of a value. Conditions: the reader and the value lie in memory, the value's numbers are small, the field is a right one; values of the formats before are recognised. -/
import Derived.Test.YtlhobhfmombjjaaGreatDoorPa14
namespace Go.Proofs.YtlhobhfmombjjaaGreatDoor
open Go.RowKit Fx Rec

theorem VAt.put {w : World} {vb : Nat} {v : Vl} (h : VAt w vb v) {k : Nat} (_hk : k < 16) (E n : Int) : VAt ((w.setCell ⟨vb, 4, none⟩ (.int .i64 E)).setCell ⟨vb, 6 + k, none⟩ (.int .i64 n)) vb { v with at_ := E, nums := v.nums.set k n } := by
  refine ⟨?_, by rw [List.length_set]; exact h.len⟩
  have h1 := (h.blk.set_ 4 (.int .i64 E)).set_ (6 + k) (.int .i64 n)
  have e : ((vlC v).toArray.setIfInBounds 4 (.int .i64 E)).setIfInBounds (6 + k) (.int .i64 n) = (vlC { v with at_ := E, nums := v.nums.set k n }).toArray := by
    apply Array.ext'
    rw [Array.toList_setIfInBounds, Array.toList_setIfInBounds]
    show ((vlC v).set 4 (.int .i64 E)).set (6 + k) (.int .i64 n) = vlC { v with at_ := E, nums := v.nums.set k n }
    unfold vlC
    rw [List.set_append_left _ _ (by simp), List.set_append_right _ _ (by simp)]
    simp [List.map_set]
  rw [e] at h1
  exact h1
/-- What comes of the next field. -/
def NxPost (w : World) (P : Nat → Prop) (o : Ro) (rb : Nat) (L : List Fm) (s : ByteArray) (ps : List Pt) (vb : Nat) (v : Vl) (k a : Nat) (r : Except Rf (Nat × Int × List Pt)) (e : Ending) (w' : World) : Prop :=
  Kept P w w' ∧ match r with
  | .ok x => e = .returned (.tuple #[]) ∧ Rd w' P o rb L s (ps ++ (⟨v.depth, v.format, k, a, x.1, x.2.1⟩ : Pt) :: x.2.2) ∧ VAt w' vb { v with at_ := x.1, nums := v.nums.set k x.2.1 }
  | .error f => e = Stops f ∧ ∃ ps', Rd w' P o rb L s ps'
theorem NxPost.no_ {w w' : World} {P : Nat → Prop} {o : Ro} {rb : Nat} {L : List Fm} {s : ByteArray} {ps ps' : List Pt} {vb : Nat} {v : Vl} {k a : Nat} {f : Rf} {r : Except Rf (Nat × Int × List Pt)} (hr : r = .error f) (hk : Kept P w w') (h : Rd w' P o rb L s ps') : NxPost w P o rb L s ps vb v k a r (Stops f) w' := by
  subst hr
  exact ⟨hk, rfl, ps', h⟩
theorem Rd.kinds_ {w : World} {P : Nat → Prop} {o : Ro} {rb : Nat} {L : List Fm} {s : ByteArray} {ps : List Pt} (h : Rd w P o rb L s ps) : w.cell? ⟨rb, 1, none⟩ = some (.map (some o.kb)) := by
  obtain ⟨_, vp, k, vs, hm⟩ := h
  rw [hm.blk.cell]; rfl
section
variable {w : World} {P : Nat → Prop} {o : Ro} {rb vb : Nat} {L : List Fm} {s : ByteArray} {ps : List Pt} {v : Vl} {f : Fld} {a l st k : Nat}
set_option maxRecDepth 20000 in
set_option maxHeartbeats 4000000 in
theorem rd_next (h : Rd w P o rb L s ps) (hv : VAt w vb v) (pv : ¬ P vb) (ok : VOk v) (hN : VNat v a l st k) (hk16 : k < 16) (hl : l ≤ s.size) (N : Nat) (hf : FOk L N f) (hC : ValC o rb L s N) (hdp : v.depth + 1 + N ≤ 100) :
    Calls Tryz.prog 97 #[ptr rb, ptr vb, fldV f] w fun e w' =>
      NxPost w P o rb L s ps vb v k a (next s (val L s N) v.format v.depth st l k f v.nums a ps.length) e w' := by
  have na := hN.a
  have nl := hN.l
  have nk := hN.k
  have b0 := ok.at0
  have b1 := ok.lim
  have b2 := ok.max
  obtain ⟨RR, hRR⟩ : ∃ RR, RR = next s (val L s N) v.format v.depth st l k f v.nums a ps.length := ⟨_, rfl⟩
  rw [← hRR]
  have hB0 := bx (w := w) (.cells #[.int .i64 f.kind, .int .i64 f.n, .int .i64 f.frm, .string f.text] 56)
  have hbk := Blk.new w 56 #[.int .i64 f.kind, .int .i64 f.n, .int .i64 f.frm, .string f.text]
  have hv0 := hv.keep (hB0.block vb hv.blk.lt)
  have hrw := h.below hB0
  have hr0 := (hrw.add_ hv0.blk (by decide) (by decide) (by decide) (by decide)).add_ hbk (by decide) (by decide) (by decide) (by decide)
  obtain ⟨vp, hp⟩ := hr0.parts
  obtain ⟨pa, pc, rfl, p1, p2, p3⟩ := hp.shape
  have c4 := hp.cell
  obtain ⟨m, hm⟩ : ∃ m, m = ps.length := ⟨_, rfl⟩
  rw [← hm] at c4 p1 p3
  have HH := Lib.hid (And.intro h (And.intro hv (And.intro ok (And.intro hN pv))))
  have HB0 := Lib.hid (And.intro hB0 (And.intro hbk (And.intro hr0 (And.intro hv0 hp))))
  have HM := Lib.hid hm
  have HRR := Lib.hid hRR
  have HF := Lib.hid (And.intro hl (And.intro hf hdp))
  clear h hv ok hN pv hB0 hbk hv0 hrw hr0 hp hm hRR hl hf hdp
  go_enter Tryz.func97, Tryz.ntmps97
  go_wp2_with fail
  by_cases hm5 : m < 5000
  · have hd : decide ((m : Int) < 5000) = true := by rw [decide_eq_true_eq]; omega
    rw [hd]
    refine (vrequire_yes _ _ _).mono ?_
    rintro e w5 ⟨rfl, rfl⟩
    generalize hW : w.alloc (.cells #[.int .i64 f.kind, .int .i64 f.n, .int .i64 f.frm, .string f.text] 56) = W at *
    obtain ⟨d0, d1, d2, -, d4, -⟩ := HB0.out.2.2.2.1.cells
    rw [na] at d4
    rw [nk] at d2
    have HM' := HM.out
    have hr0 := HB0.out.2.2.1
    have lrb := World.block_lt_of_cell? (h := c4)
    have lvb := HB0.out.2.2.2.1.blk.lt
    have HR3 : Hid (∀ W', Below W.heap.size W W' → W'.cell? ⟨rb, 4, none⟩ = some (.slice pa m pc) ∧ W'.cell? ⟨vb, 0, none⟩ = some (.int .i64 v.depth) ∧ W'.cell? ⟨vb, 1, none⟩ = some (.int .i64 v.format) ∧ W'.cell? ⟨vb, 2, none⟩ = some (.int .i64 (k : Int)) ∧ W'.cell? ⟨vb, 4, none⟩ = some (.int .i64 (a : Int))) := Lib.hid fun W' hb =>
      ⟨(hb.cell (p := ⟨rb, 4, none⟩) lrb).trans c4, (hb.cell (p := ⟨vb, 0, none⟩) lvb).trans d0, (hb.cell (p := ⟨vb, 1, none⟩) lvb).trans d1, (hb.cell (p := ⟨vb, 2, none⟩) lvb).trans d2, (hb.cell (p := ⟨vb, 4, none⟩) lvb).trans d4⟩
    have HG : Hid (∀ (W' : World) (v1 : Value) (w1 : World), Below W.heap.size W W' → Grew W' w1 0 26 6 (.slice pa m pc) v1 (m + 1) (flatP ps ++ ptC ⟨v.depth, v.format, k, a, 0, 0⟩) →
        (w1.cell? ⟨rb, 4, none⟩ = some (.slice pa m pc) ∧ w1.frozen? ⟨rb, 4, none⟩ = false) ∧ Kept (fun j => (P j ∨ j = vb) ∨ j = w.heap.size) W (w1.setCell ⟨rb, 4, none⟩ v1) ∧ Rd (w1.setCell ⟨rb, 4, none⟩ v1) (fun j => (P j ∨ j = vb) ∨ j = w.heap.size) o rb L s (ps ++ [⟨v.depth, v.format, k, a, 0, 0⟩]) ∧ ∃ g c, v1 = .slice (some ⟨g, 0, none⟩) (m + 1) c) := Lib.hid fun W' v1 w1 hb hG => by
      have hp := HB0.out.2.2.2.2
      rw [HM.out] at hG ⊢
      exact hr0.grow (by omega) hp _ hb hG
    have HROW : Hid (∀ W', Below W.heap.size W W' → W'.ownsRow 0 26 6 (.slice pa m pc) m (flatP ps)) := Lib.hid fun W' hb => by
      have h := HB0.out.2.2.2.2.row
      rw [← HM.out] at h
      exact ownsRow_below h hb
    clear HM' hr0 d0 d1 d2 d4 c4
    go_wp2_with fail
    refine wp_region_T 23 (fun w' : World => Below W.heap.size W w') (by kernel_rfl) (Below.refl _ _).drew (fun hHeld => ?_)
    refine wpAnyT_any (i := 0) (oi := ?o2) (v := ?v2) ?h2 ?a2 ?b2 ?c2 ?d2 ?e2 ?j2 ?q2 (Or.inl ⟨?g2, ?y2⟩) ?s2 ?r2
    case h2 => (simp only [List.getElem?_toArray, List.getElem?_cons_zero]; rfl)
    case a2 => kernel_rfl
    case b2 => kernel_rfl
    case c2 => kernel_rfl
    case d2 => kernel_rfl
    case e2 => kernel_rfl
    case j2 => kernel_rfl
    case q2 => exact fun _ _ _ h => h
    case g2 => rfl
    case y2 => (intro wS _; go_simp; (try with_reducible rfl))
    case s2 => exact fun _ => by assumption
    (try simp only [Act.put, List.setIfInBounds_toArray, List.set_cons_zero, List.set_cons_succ])
    refine wpAnyT_any (i := 1) (oi := ?o4) (v := ?v4) ?h4 ?a4 ?b4 ?c4 ?d4 ?e4 ?j4 ?q4 (Or.inl ⟨?g4, ?y4⟩) ?s4 ?r4
    case h4 => (simp only [List.getElem?_toArray, List.getElem?_cons_zero, List.getElem?_cons_succ]; rfl)
    case a4 => kernel_rfl
    case b4 => kernel_rfl
    case c4 => kernel_rfl
    case d4 => kernel_rfl
    case e4 => kernel_rfl
    case j4 => kernel_rfl
    case q4 => exact fun _ _ _ h => h
    case g4 => rfl
    case y4 => (intro wS _; go_simp; (try with_reducible rfl))
    case s4 => exact fun _ => by assumption
    (try simp only [Act.put, List.setIfInBounds_toArray, List.set_cons_zero, List.set_cons_succ])
    refine wpAnyT_any (i := 2) (oi := ?o6) (v := ?v6) ?h6 ?a6 ?b6 ?c6 ?d6 ?e6 ?j6 ?q6 (Or.inl ⟨?g6, ?y6⟩) ?s6 ?r6
    case h6 => (simp only [List.getElem?_toArray, List.getElem?_cons_zero, List.getElem?_cons_succ]; rfl)
    case a6 => kernel_rfl
    case b6 => kernel_rfl
    case c6 => kernel_rfl
    case d6 => kernel_rfl
    case e6 => kernel_rfl
    case j6 => kernel_rfl
    case q6 => exact fun _ _ _ h => h
    case g6 => rfl
    case y6 => (intro wS _; go_simp; (try with_reducible rfl))
    case s6 => exact fun _ => by assumption
    (try simp only [Act.put, List.setIfInBounds_toArray, List.set_cons_zero, List.set_cons_succ])
    refine wpAnyT_any (i := 3) (oi := ?o8) (v := ?v8) ?h8 ?a8 ?b8 ?c8 ?d8 ?e8 ?j8 ?q8 (Or.inl ⟨?g8, ?y8⟩) ?s8 ?r8
    case h8 => (simp only [List.getElem?_toArray, List.getElem?_cons_zero, List.getElem?_cons_succ]; rfl)
    case a8 => kernel_rfl
    case b8 => kernel_rfl
    case c8 => kernel_rfl
    case d8 => kernel_rfl
    case e8 => kernel_rfl
    case j8 => kernel_rfl
    case q8 => exact fun _ _ _ h => h
    case g8 => rfl
    case y8 => (intro wS _; go_simp; (try with_reducible rfl))
    case s8 => exact fun _ => by assumption
    (try simp only [Act.put, List.setIfInBounds_toArray, List.set_cons_zero, List.set_cons_succ])
    refine wpAnyT_take (i := 4) (oi := ?o9) (v := ?v9) ?h9 ?a9 ?b9 ?c9 ?d9 ?e9 ?f9 ?j9 ?q9 (Or.inl ⟨?g9, ?y9⟩) ?s9 ?r9
    case h9 => (simp only [List.getElem?_toArray, List.getElem?_cons_zero, List.getElem?_cons_succ]; rfl)
    case a9 => kernel_rfl
    case b9 => kernel_rfl
    case c9 => kernel_rfl
    case d9 => kernel_rfl
    case e9 => kernel_rfl
    case f9 => kernel_rfl
    case j9 => kernel_rfl
    case q9 => exact fun _ _ _ h => h
    case g9 => rfl
    case y9 => (intro wS hSw; obtain ⟨s0, s1, s2, s3, s4⟩ := HR3.out _ hSw; go_simp; (try with_reducible rfl))
    case s9 => assumption
    (try simp only [Act.put, List.setIfInBounds_toArray, List.set_cons_zero, List.set_cons_succ])
    refine wpAnyT_any (i := 5) (oi := ?o11) (v := ?v11) ?h11 ?a11 ?b11 ?c11 ?d11 ?e11 ?j11 ?q11 (Or.inl ⟨?g11, ?y11⟩) ?s11 ?r11
    case h11 => (simp only [List.getElem?_toArray, List.getElem?_cons_zero, List.getElem?_cons_succ]; rfl)
    case a11 => kernel_rfl
    case b11 => kernel_rfl
    case c11 => kernel_rfl
    case d11 => kernel_rfl
    case e11 => kernel_rfl
    case j11 => kernel_rfl
    case q11 => exact fun _ _ _ h => h
    case g11 => rfl
    case y11 => (intro wS _; go_simp; (try with_reducible rfl))
    case s11 => exact fun _ => by assumption
    (try simp only [Act.put, List.setIfInBounds_toArray, List.set_cons_zero, List.set_cons_succ])
    refine wpAnyT_any (i := 6) (oi := ?o13) (v := ?v13) ?h13 ?a13 ?b13 ?c13 ?d13 ?e13 ?j13 ?q13 (Or.inl ⟨?g13, ?y13⟩) ?s13 ?r13
    case h13 => (simp only [List.getElem?_toArray, List.getElem?_cons_zero, List.getElem?_cons_succ]; rfl)
    case a13 => kernel_rfl
    case b13 => kernel_rfl
    case c13 => kernel_rfl
    case d13 => kernel_rfl
    case e13 => kernel_rfl
    case j13 => kernel_rfl
    case q13 => exact fun _ _ _ h => h
    case g13 => rfl
    case y13 => (intro wS _; go_simp; (try with_reducible rfl))
    case s13 => exact fun _ => by assumption
    (try simp only [Act.put, List.setIfInBounds_toArray, List.set_cons_zero, List.set_cons_succ])
    refine wpAnyT_any (i := 7) (oi := ?o15) (v := ?v15) ?h15 ?a15 ?b15 ?c15 ?d15 ?e15 ?j15 ?q15 (Or.inl ⟨?g15, ?y15⟩) ?s15 ?r15
    case h15 => (simp only [List.getElem?_toArray, List.getElem?_cons_zero, List.getElem?_cons_succ]; rfl)
    case a15 => kernel_rfl
    case b15 => kernel_rfl
    case c15 => kernel_rfl
    case d15 => kernel_rfl
    case e15 => kernel_rfl
    case j15 => kernel_rfl
    case q15 => exact fun _ _ _ h => h
    case g15 => rfl
    case y15 => (intro wS _; go_simp; (try with_reducible rfl))
    case s15 => exact fun _ => by assumption
    (try simp only [Act.put, List.setIfInBounds_toArray, List.set_cons_zero, List.set_cons_succ])
    refine wpAnyT_take (i := 8) (oi := ?o16) (v := ?v16) ?h16 ?a16 ?b16 ?c16 ?d16 ?e16 ?f16 ?j16 ?q16 (Or.inl ⟨?g16, ?y16⟩) ?s16 ?r16
    case h16 => (simp only [List.getElem?_toArray, List.getElem?_cons_zero, List.getElem?_cons_succ]; rfl)
    case a16 => kernel_rfl
    case b16 => kernel_rfl
    case c16 => kernel_rfl
    case d16 => kernel_rfl
    case e16 => kernel_rfl
    case f16 => kernel_rfl
    case j16 => kernel_rfl
    case q16 => exact fun _ _ _ h => h
    case g16 => rfl
    case y16 => (intro wS hSw; obtain ⟨s0, s1, s2, s3, s4⟩ := HR3.out _ hSw; go_simp; (try with_reducible rfl))
    case s16 => assumption
    (try simp only [Act.put, List.setIfInBounds_toArray, List.set_cons_zero, List.set_cons_succ])
    refine wpAnyT_any (i := 9) (oi := ?o18) (v := ?v18) ?h18 ?a18 ?b18 ?c18 ?d18 ?e18 ?j18 ?q18 (Or.inl ⟨?g18, ?y18⟩) ?s18 ?r18
    case h18 => (simp only [List.getElem?_toArray, List.getElem?_cons_zero, List.getElem?_cons_succ]; rfl)
    case a18 => kernel_rfl
    case b18 => kernel_rfl
    case c18 => kernel_rfl
    case d18 => kernel_rfl
    case e18 => kernel_rfl
    case j18 => kernel_rfl
    case q18 => exact fun _ _ _ h => h
    case g18 => rfl
    case y18 => (intro wS _; go_simp; (try with_reducible rfl))
    case s18 => exact fun _ => by assumption
    (try simp only [Act.put, List.setIfInBounds_toArray, List.set_cons_zero, List.set_cons_succ])
    refine wpAnyT_any (i := 10) (oi := ?o20) (v := ?v20) ?h20 ?a20 ?b20 ?c20 ?d20 ?e20 ?j20 ?q20 (Or.inl ⟨?g20, ?y20⟩) ?s20 ?r20
    case h20 => (simp only [List.getElem?_toArray, List.getElem?_cons_zero, List.getElem?_cons_succ]; rfl)
    case a20 => kernel_rfl
    case b20 => kernel_rfl
    case c20 => kernel_rfl
    case d20 => kernel_rfl
    case e20 => kernel_rfl
    case j20 => kernel_rfl
    case q20 => exact fun _ _ _ h => h
    case g20 => rfl
    case y20 => (intro wS _; go_simp; (try with_reducible rfl))
    case s20 => exact fun _ => by assumption
    (try simp only [Act.put, List.setIfInBounds_toArray, List.set_cons_zero, List.set_cons_succ])
    refine wpAnyT_any (i := 11) (oi := ?o22) (v := ?v22) ?h22 ?a22 ?b22 ?c22 ?d22 ?e22 ?j22 ?q22 (Or.inl ⟨?g22, ?y22⟩) ?s22 ?r22
    case h22 => (simp only [List.getElem?_toArray, List.getElem?_cons_zero, List.getElem?_cons_succ]; rfl)
    case a22 => kernel_rfl
    case b22 => kernel_rfl
    case c22 => kernel_rfl
    case d22 => kernel_rfl
    case e22 => kernel_rfl
    case j22 => kernel_rfl
    case q22 => exact fun _ _ _ h => h
    case g22 => rfl
    case y22 => (intro wS _; go_simp; (try with_reducible rfl))
    case s22 => exact fun _ => by assumption
    (try simp only [Act.put, List.setIfInBounds_toArray, List.set_cons_zero, List.set_cons_succ])
    refine wpAnyT_take (i := 12) (oi := ?o23) (v := ?v23) ?h23 ?a23 ?b23 ?c23 ?d23 ?e23 ?f23 ?j23 ?q23 (Or.inl ⟨?g23, ?y23⟩) ?s23 ?r23
    case h23 => (simp only [List.getElem?_toArray, List.getElem?_cons_zero, List.getElem?_cons_succ]; rfl)
    case a23 => kernel_rfl
    case b23 => kernel_rfl
    case c23 => kernel_rfl
    case d23 => kernel_rfl
    case e23 => kernel_rfl
    case f23 => kernel_rfl
    case j23 => kernel_rfl
    case q23 => exact fun _ _ _ h => h
    case g23 => rfl
    case y23 => (intro wS hSw; obtain ⟨s0, s1, s2, s3, s4⟩ := HR3.out _ hSw; go_simp; (try with_reducible rfl))
    case s23 => assumption
    (try simp only [Act.put, List.setIfInBounds_toArray, List.set_cons_zero, List.set_cons_succ])
    refine wpAnyT_any (i := 13) (oi := ?o25) (v := ?v25) ?h25 ?a25 ?b25 ?c25 ?d25 ?e25 ?j25 ?q25 (Or.inl ⟨?g25, ?y25⟩) ?s25 ?r25
    case h25 => (simp only [List.getElem?_toArray, List.getElem?_cons_zero, List.getElem?_cons_succ]; rfl)
    case a25 => kernel_rfl
    case b25 => kernel_rfl
    case c25 => kernel_rfl
    case d25 => kernel_rfl
    case e25 => kernel_rfl
    case j25 => kernel_rfl
    case q25 => exact fun _ _ _ h => h
    case g25 => rfl
    case y25 => (intro wS _; go_simp; (try with_reducible rfl))
    case s25 => exact fun _ => by assumption
    (try simp only [Act.put, List.setIfInBounds_toArray, List.set_cons_zero, List.set_cons_succ])
    refine wpAnyT_any (i := 14) (oi := ?o27) (v := ?v27) ?h27 ?a27 ?b27 ?c27 ?d27 ?e27 ?j27 ?q27 (Or.inl ⟨?g27, ?y27⟩) ?s27 ?r27
    case h27 => (simp only [List.getElem?_toArray, List.getElem?_cons_zero, List.getElem?_cons_succ]; rfl)
    case a27 => kernel_rfl
    case b27 => kernel_rfl
    case c27 => kernel_rfl
    case d27 => kernel_rfl
    case e27 => kernel_rfl
    case j27 => kernel_rfl
    case q27 => exact fun _ _ _ h => h
    case g27 => rfl
    case y27 => (intro wS _; go_simp; (try with_reducible rfl))
    case s27 => exact fun _ => by assumption
    (try simp only [Act.put, List.setIfInBounds_toArray, List.set_cons_zero, List.set_cons_succ])
    refine wpAnyT_any (i := 15) (oi := ?o29) (v := ?v29) ?h29 ?a29 ?b29 ?c29 ?d29 ?e29 ?j29 ?q29 (Or.inl ⟨?g29, ?y29⟩) ?s29 ?r29
    case h29 => (simp only [List.getElem?_toArray, List.getElem?_cons_zero, List.getElem?_cons_succ]; rfl)
    case a29 => kernel_rfl
    case b29 => kernel_rfl
    case c29 => kernel_rfl
    case d29 => kernel_rfl
    case e29 => kernel_rfl
    case j29 => kernel_rfl
    case q29 => exact fun _ _ _ h => h
    case g29 => rfl
    case y29 => (intro wS _; go_simp; (try with_reducible rfl))
    case s29 => exact fun _ => by assumption
    (try simp only [Act.put, List.setIfInBounds_toArray, List.set_cons_zero, List.set_cons_succ])
    refine wpAnyT_take (i := 16) (oi := ?o30) (v := ?v30) ?h30 ?a30 ?b30 ?c30 ?d30 ?e30 ?f30 ?j30 ?q30 (Or.inl ⟨?g30, ?y30⟩) ?s30 ?r30
    case h30 => (simp only [List.getElem?_toArray, List.getElem?_cons_zero, List.getElem?_cons_succ]; rfl)
    case a30 => kernel_rfl
    case b30 => kernel_rfl
    case c30 => kernel_rfl
    case d30 => kernel_rfl
    case e30 => kernel_rfl
    case f30 => kernel_rfl
    case j30 => kernel_rfl
    case q30 => exact fun _ _ _ h => h
    case g30 => rfl
    case y30 => (intro wS hSw; obtain ⟨s0, s1, s2, s3, s4⟩ := HR3.out _ hSw; go_simp; (try with_reducible rfl))
    case s30 => assumption
    (try simp only [Act.put, List.setIfInBounds_toArray, List.set_cons_zero, List.set_cons_succ])
    refine wpAnyT_any (i := 17) (oi := ?o32) (v := ?v32) ?h32 ?a32 ?b32 ?c32 ?d32 ?e32 ?j32 ?q32 (Or.inl ⟨?g32, ?y32⟩) ?s32 ?r32
    case h32 => (simp only [List.getElem?_toArray, List.getElem?_cons_zero, List.getElem?_cons_succ]; rfl)
    case a32 => kernel_rfl
    case b32 => kernel_rfl
    case c32 => kernel_rfl
    case d32 => kernel_rfl
    case e32 => kernel_rfl
    case j32 => kernel_rfl
    case q32 => exact fun _ _ _ h => h
    case g32 => rfl
    case y32 => (intro wS _; go_simp; (try with_reducible rfl))
    case s32 => exact fun _ => by assumption
    (try simp only [Act.put, List.setIfInBounds_toArray, List.set_cons_zero, List.set_cons_succ])
    refine wpAnyT_any (i := 18) (oi := ?o34) (v := ?v34) ?h34 ?a34 ?b34 ?c34 ?d34 ?e34 ?j34 ?q34 (Or.inl ⟨?g34, ?y34⟩) ?s34 ?r34
    case h34 => (simp only [List.getElem?_toArray, List.getElem?_cons_zero, List.getElem?_cons_succ]; rfl)
    case a34 => kernel_rfl
    case b34 => kernel_rfl
    case c34 => kernel_rfl
    case d34 => kernel_rfl
    case e34 => kernel_rfl
    case j34 => kernel_rfl
    case q34 => exact fun _ _ _ h => h
    case g34 => rfl
    case y34 => (intro wS _; go_simp; (try with_reducible rfl))
    case s34 => exact fun _ => by assumption
    (try simp only [Act.put, List.setIfInBounds_toArray, List.set_cons_zero, List.set_cons_succ])
    refine wpAnyT_any (i := 19) (oi := ?o36) (v := ?v36) ?h36 ?a36 ?b36 ?c36 ?d36 ?e36 ?j36 ?q36 (Or.inl ⟨?g36, ?y36⟩) ?s36 ?r36
    case h36 => (simp only [List.getElem?_toArray, List.getElem?_cons_zero, List.getElem?_cons_succ]; rfl)
    case a36 => kernel_rfl
    case b36 => kernel_rfl
    case c36 => kernel_rfl
    case d36 => kernel_rfl
    case e36 => kernel_rfl
    case j36 => kernel_rfl
    case q36 => exact fun _ _ _ h => h
    case g36 => rfl
    case y36 => (intro wS _; go_simp; (try with_reducible rfl))
    case s36 => exact fun _ => by assumption
    (try simp only [Act.put, List.setIfInBounds_toArray, List.set_cons_zero, List.set_cons_succ])
    refine wpAnyT_take (i := 20) (oi := ?o37) (v := ?v37) ?h37 ?a37 ?b37 ?c37 ?d37 ?e37 ?f37 ?j37 ?q37 (Or.inl ⟨?g37, ?y37⟩) ?s37 ?r37
    case h37 => (simp only [List.getElem?_toArray, List.getElem?_cons_zero, List.getElem?_cons_succ]; rfl)
    case a37 => kernel_rfl
    case b37 => kernel_rfl
    case c37 => kernel_rfl
    case d37 => kernel_rfl
    case e37 => kernel_rfl
    case f37 => kernel_rfl
    case j37 => kernel_rfl
    case q37 => exact fun _ _ _ h => h
    case g37 => rfl
    case y37 => (intro wS hSw; obtain ⟨s0, s1, s2, s3, s4⟩ := HR3.out _ hSw; go_simp; (try with_reducible rfl))
    case s37 => assumption
    (try simp only [Act.put, List.setIfInBounds_toArray, List.set_cons_zero, List.set_cons_succ])
    refine wpAnyT_any (i := 21) (oi := ?o39) (v := ?v39) ?h39 ?a39 ?b39 ?c39 ?d39 ?e39 ?j39 ?q39 (Or.inl ⟨?g39, ?y39⟩) ?s39 ?r39
    case h39 => (simp only [List.getElem?_toArray, List.getElem?_cons_zero, List.getElem?_cons_succ]; rfl)
    case a39 => kernel_rfl
    case b39 => kernel_rfl
    case c39 => kernel_rfl
    case d39 => kernel_rfl
    case e39 => kernel_rfl
    case j39 => kernel_rfl
    case q39 => exact fun _ _ _ h => h
    case g39 => rfl
    case y39 => (intro wS _; go_simp; (try with_reducible rfl))
    case s39 => exact fun _ => by assumption
    (try simp only [Act.put, List.setIfInBounds_toArray, List.set_cons_zero, List.set_cons_succ])
    refine wpAnyT_ready (rs := [22]) (by kernel_rfl) (by simp) ?_
    refine AllReadyT.cons (o := ?oB40) ?hB40 ?kB40 AllReadyT.nil
    case hB40 => (simp only [List.getElem?_toArray, List.getElem?_cons_zero, List.getElem?_cons_succ]; rfl)
    case kB40 =>
      intro K hK
      go_simp
      refine hK.out _ _ (fun _ => ((Below.refl _ _).alloc (Nat.le_refl _) _).drew) ?_
      clear hK K
      (try simp only [Act.put, List.setIfInBounds_toArray, List.set_cons_zero, List.set_cons_succ])
      have hb1 : (W.alloc (.cells #[.int .i64 v.depth, .int .i64 v.format, .int .i64 (k : Int), .int .i64 (a : Int), .int .i64 0, .int .i64 0] 26)).drew.heap[W.heap.size]? = some (.cells (ptC ⟨v.depth, v.format, k, a, 0, 0⟩).toArray 26 (0, 0)) := heap_alloc_new W _
      have HB1 : Hid (Below W.heap.size W (W.alloc (.cells #[.int .i64 v.depth, .int .i64 v.format, .int .i64 (k : Int), .int .i64 (a : Int), .int .i64 0, .int .i64 0] 26)).drew) := Lib.hid ((Below.refl _ _).alloc (Nat.le_refl _) _).drew
      generalize hW1 : (W.alloc (.cells #[.int .i64 v.depth, .int .i64 v.format, .int .i64 (k : Int), .int .i64 (a : Int), .int .i64 0, .int .i64 0] 26)).drew = W1 at *
      refine wpAnyT_ready (rs := [23]) (by kernel_rfl) (by simp) ?_
      refine AllReadyT.cons (o := ?oB41) ?hB41 ?kB41 AllReadyT.nil
      case hB41 => (simp only [List.getElem?_toArray, List.getElem?_cons_zero, List.getElem?_cons_succ]; rfl)
      case kB41 =>
        intro K hK
        refine step_append_part rfl (.tmp 22) (.tmp 40) rfl _ m _ rfl (HROW.out _ HB1.out) (by omega) W.heap.size ⟨v.depth, v.format, k, a, 0, 0⟩ rfl hb1 (fun v1 w1 hG => ?_)
        refine hK.out _ _ (no_more (by kernel_rfl)) ?_
        clear hK K
        (try simp only [Act.put, List.setIfInBounds_toArray, List.set_cons_zero, List.set_cons_succ])
        have HN := Lib.hid (HG.out W1 v1 w1 HB1.out hG)
        obtain ⟨g1, cp1, rfl⟩ := HN.out.2.2.2
        have e0 := HN.out.1.1
        have y0 := HN.out.1.2
        clear hG hb1 hW1 hHeld
        refine wpAnyT_any (i := 24) (oi := ?o42) (v := ?v42) ?h42 ?a42 ?b42 ?c42 ?d42 ?e42 ?j42 ?q42 (Or.inl ⟨?g42, ?y42⟩) ?s42 ?r42
        case h42 => (simp only [List.getElem?_toArray, List.getElem?_cons_zero, List.getElem?_cons_succ]; rfl)
        case a42 => kernel_rfl
        case b42 => kernel_rfl
        case c42 => kernel_rfl
        case d42 => kernel_rfl
        case e42 => kernel_rfl
        case j42 => kernel_rfl
        case q42 => exact fun _ _ _ h => h
        case g42 => rfl
        case y42 => (intro wS _; go_simp; (try with_reducible rfl))
        case s42 => exact no_more (by kernel_rfl)
        (try simp only [Act.put, List.setIfInBounds_toArray, List.set_cons_zero, List.set_cons_succ])
        refine wpAnyT_any (i := 25) (oi := ?o43) (v := ?v43) ?h43 ?a43 ?b43 ?c43 ?d43 ?e43 ?j43 ?q43 (Or.inl ⟨?g43, ?y43⟩) ?s43 ?r43
        case h43 => (simp only [List.getElem?_toArray, List.getElem?_cons_zero, List.getElem?_cons_succ]; rfl)
        case a43 => kernel_rfl
        case b43 => kernel_rfl
        case c43 => kernel_rfl
        case d43 => kernel_rfl
        case e43 => kernel_rfl
        case j43 => kernel_rfl
        case q43 => exact fun _ _ _ h => h
        case g43 => rfl
        case y43 => (intro wS _; go_simp; (try with_reducible rfl))
        case s43 => exact no_more (by kernel_rfl)
        (try simp only [Act.put, List.setIfInBounds_toArray, List.set_cons_zero, List.set_cons_succ])
        refine wpAnyT_ready (rs := [26]) (by kernel_rfl) (by simp) ?_
        refine AllReadyT.cons (o := ?oB44) ?hB44 ?kB44 AllReadyT.nil
        case hB44 => (simp only [List.getElem?_toArray, List.getElem?_cons_zero, List.getElem?_cons_succ]; rfl)
        case kB44 =>
          intro K hK
          go_simp
          refine hK.out _ _ (no_more (by kernel_rfl)) ?_
          clear hK K
          (try simp only [Act.put, List.setIfInBounds_toArray, List.set_cons_zero, List.set_cons_succ])
          refine wpAnyT_done (by kernel_rfl) ?_ _
          go_wp2_with fail
          have HW3 : Hid (Kept (fun j => (P j ∨ j = vb) ∨ j = w.heap.size) W (w1.setCell ⟨rb, 4, none⟩ (.slice (some ⟨g1, 0, none⟩) (m + 1) cp1)) ∧ Rd (w1.setCell ⟨rb, 4, none⟩ (.slice (some ⟨g1, 0, none⟩) (m + 1) cp1)) (fun j => (P j ∨ j = vb) ∨ j = w.heap.size) o rb L s (ps ++ [⟨v.depth, v.format, k, a, 0, 0⟩])) := Lib.hid ⟨HN.out.2.1, HN.out.2.2.1⟩
          clear HN e0 y0 HG HROW HB1
          generalize w1.setCell ⟨rb, 4, none⟩ (.slice (some ⟨g1, 0, none⟩) (m + 1) cp1) = w3 at *
          have hv3 : VAt w3 vb v := HB0.out.2.2.2.1.keep (HW3.out.1.block vb (.inl (.inr rfl)))
          have hb3 : Blk w3 w.heap.size 56 #[.int .i64 f.kind, .int .i64 f.n, .int .i64 f.frm, .string f.text] := (HW3.out.1.block _ (.inr rfl)).trans HB0.out.2.1
          obtain ⟨fn, hlk, hen, hcon⟩ := kind_any HH.out.2.2.1 HH.out.2.2.2.1 HF.out.1 HF.out.2.1 hC HF.out.2.2
          have HCON : Hid (Calls Tryz.prog fn #[ptr rb, ptr vb, fldV f] w3.drew fun e w' => KPost w3.drew (fun j => (P j ∨ j = vb) ∨ j = w.heap.size) o rb L s (ps ++ [⟨v.depth, v.format, k, a, 0, 0⟩]) (kind s (val L s N) v.format v.depth st l k f v.nums a (m + 1)) e w') := Lib.hid (by
            have := hcon w3.drew (fun j => (P j ∨ j = vb) ∨ j = w.heap.size) _ (HW3.out.2.keptN 1) hv3.drew (.inl (.inr rfl))
            rwa [List.length_append, ← HM.out] at this)
          have hlook : ∀ n, (Instr.lookup 110 (.map (some o.kb)) (.int .i64 f.kind) false).run Tryz.prog (w3.drewN n) = .ok (.func (.func fn) #[ptr rb] #[]) (w3.drewN n) := fun n =>
            ((HW3.out.2.keptN n).1.kinds).look_ Tryz.underlying110 Tryz.underlying3 hlk false
          unfold Enters at hen
          have d0 := hb3.cell 0
          have d1 := hb3.cell 1
          have d2 := hb3.cell 2
          have d3 := hb3.cell 3
          simp only [List.getElem?_toArray, List.getElem?_cons_zero, List.getElem?_cons_succ] at d0 d1 d2 d3
          have ck := HW3.out.2.kinds_
          have HR4 : Hid (RR = kind s (val L s N) v.format v.depth st l k f v.nums a (m + 1)) := Lib.hid (by rw [HRR.out]; unfold next; rw [if_neg (by have := HM.out; omega), HM.out])
          clear hv3 hb3 hlk hcon HR3
          cases hkd : kind s (val L s N) v.format v.depth st l k f v.nums a (m + 1) with
          | error rf =>
            have HV : Hid (Calls Tryz.prog fn #[ptr rb, ptr vb, fldV f] w3.drew fun e w' => Kept (fun j => (P j ∨ j = vb) ∨ j = w.heap.size) w3.drew w' ∧ e = Stops rf ∧ ∃ ps', Rd w' (fun j => (P j ∨ j = vb) ∨ j = w.heap.size) o rb L s ps') := Lib.hid (by have := HCON.out; rw [hkd] at this; exact this)
            have HNO : Hid (∀ w', Kept (fun j => (P j ∨ j = vb) ∨ j = w.heap.size) w3.drew w' → (∃ ps', Rd w' (fun j => (P j ∨ j = vb) ∨ j = w.heap.size) o rb L s ps') → NxPost w P o rb L s ps vb v k a RR (Stops rf) w') := Lib.hid fun w' hk hr => by
              obtain ⟨ps', hr⟩ := hr
              have hk2 : Kept P w w' := (Kept.of_below HB0.out.1 HH.out.1.1.pin).trans ((HW3.out.1.drew.trans hk).mono fun j hj => .inl (.inl hj))
              exact NxPost.no_ (by rw [HR4.out, hkd]) hk2 (HH.out.1.weak hr hk2.size fun j hj => .inl (.inl hj))
            clear hkd HCON
            refine wp_region_T 9 (fun w' : World => ∃ n : Nat, w' = w3.drewN n) (by kernel_rfl) ⟨1, rfl⟩ (fun hHeld => ?_)
            refine wpAnyT_any (i := 0) (oi := ?o46) (v := ?v46) ?h46 ?a46 ?b46 ?c46 ?d46 ?e46 ?j46 ?q46 (Or.inl ⟨?g46, ?y46⟩) ?s46 ?r46
            case h46 => (simp only [List.getElem?_toArray, List.getElem?_cons_zero]; rfl)
            case a46 => kernel_rfl
            case b46 => kernel_rfl
            case c46 => kernel_rfl
            case d46 => kernel_rfl
            case e46 => kernel_rfl
            case j46 => kernel_rfl
            case q46 => exact fun _ _ _ h => h
            case g46 => rfl
            case y46 => (intro wS _; go_simp; (try with_reducible rfl))
            case s46 => exact fun _ => by assumption
            (try simp only [Act.put, List.setIfInBounds_toArray, List.set_cons_zero, List.set_cons_succ])
            refine wpAnyT_any (i := 1) (oi := ?o48) (v := ?v48) ?h48 ?a48 ?b48 ?c48 ?d48 ?e48 ?j48 ?q48 (Or.inl ⟨?g48, ?y48⟩) ?s48 ?r48
            case h48 => (simp only [List.getElem?_toArray, List.getElem?_cons_zero, List.getElem?_cons_succ]; rfl)
            case a48 => kernel_rfl
            case b48 => kernel_rfl
            case c48 => kernel_rfl
            case d48 => kernel_rfl
            case e48 => kernel_rfl
            case j48 => kernel_rfl
            case q48 => exact fun _ _ _ h => h
            case g48 => rfl
            case y48 => (intro wS _; go_simp; (try with_reducible rfl))
            case s48 => exact fun _ => by assumption
            (try simp only [Act.put, List.setIfInBounds_toArray, List.set_cons_zero, List.set_cons_succ])
            refine wpAnyT_any (i := 2) (oi := ?o50) (v := ?v50) ?h50 ?a50 ?b50 ?c50 ?d50 ?e50 ?j50 ?q50 (Or.inl ⟨?g50, ?y50⟩) ?s50 ?r50
            case h50 => (simp only [List.getElem?_toArray, List.getElem?_cons_zero, List.getElem?_cons_succ]; rfl)
            case a50 => kernel_rfl
            case b50 => kernel_rfl
            case c50 => kernel_rfl
            case d50 => kernel_rfl
            case e50 => kernel_rfl
            case j50 => kernel_rfl
            case q50 => exact fun _ _ _ h => h
            case g50 => rfl
            case y50 => (intro wS _; go_simp; (try with_reducible rfl))
            case s50 => exact fun _ => by assumption
            (try simp only [Act.put, List.setIfInBounds_toArray, List.set_cons_zero, List.set_cons_succ])
            refine wpAnyT_take (i := 3) (oi := ?o51) (v := ?v51) ?h51 ?a51 ?b51 ?c51 ?d51 ?e51 ?f51 ?j51 ?q51 (Or.inl ⟨?g51, ?y51⟩) ?s51 ?r51
            case h51 => (simp only [List.getElem?_toArray, List.getElem?_cons_zero, List.getElem?_cons_succ]; rfl)
            case a51 => kernel_rfl
            case b51 => kernel_rfl
            case c51 => kernel_rfl
            case d51 => kernel_rfl
            case e51 => kernel_rfl
            case f51 => kernel_rfl
            case j51 => kernel_rfl
            case q51 => exact fun _ _ _ h => h
            case g51 => rfl
            case y51 => (intro wS hSw; obtain ⟨nS, rfl⟩ := hSw; go_simp; (try with_reducible rfl))
            case s51 => assumption
            (try simp only [Act.put, List.setIfInBounds_toArray, List.set_cons_zero, List.set_cons_succ])
            refine wpAnyT_any (i := 4) (oi := ?o53) (v := ?v53) ?h53 ?a53 ?b53 ?c53 ?d53 ?e53 ?j53 ?q53 (Or.inl ⟨?g53, ?y53⟩) ?s53 ?r53
            case h53 => (simp only [List.getElem?_toArray, List.getElem?_cons_zero, List.getElem?_cons_succ]; rfl)
            case a53 => kernel_rfl
            case b53 => kernel_rfl
            case c53 => kernel_rfl
            case d53 => kernel_rfl
            case e53 => kernel_rfl
            case j53 => kernel_rfl
            case q53 => exact fun _ _ _ h => h
            case g53 => rfl
            case y53 => (intro wS _; go_simp; (try with_reducible rfl))
            case s53 => exact fun _ => by assumption
            (try simp only [Act.put, List.setIfInBounds_toArray, List.set_cons_zero, List.set_cons_succ])
            refine wpAnyT_take (i := 5) (oi := ?o54) (v := ?v54) ?h54 ?a54 ?b54 ?c54 ?d54 ?e54 ?f54 ?j54 ?q54 (Or.inl ⟨?g54, ?y54⟩) ?s54 ?r54
            case h54 => (simp only [List.getElem?_toArray, List.getElem?_cons_zero, List.getElem?_cons_succ]; rfl)
            case a54 => kernel_rfl
            case b54 => kernel_rfl
            case c54 => kernel_rfl
            case d54 => kernel_rfl
            case e54 => kernel_rfl
            case f54 => kernel_rfl
            case j54 => kernel_rfl
            case q54 => exact fun _ _ _ h => h
            case g54 => rfl
            case y54 => (intro wS hSw; obtain ⟨nS, rfl⟩ := hSw; go_simp; (try with_reducible rfl))
            case s54 => assumption
            (try simp only [Act.put, List.setIfInBounds_toArray, List.set_cons_zero, List.set_cons_succ])
            refine wpAnyT_take (i := 6) (oi := ?o55) (v := ?v55) ?h55 ?a55 ?b55 ?c55 ?d55 ?e55 ?f55 ?j55 ?q55 (Or.inl ⟨?g55, ?y55⟩) ?s55 ?r55
            case h55 => (simp only [List.getElem?_toArray, List.getElem?_cons_zero, List.getElem?_cons_succ]; rfl)
            case a55 => kernel_rfl
            case b55 => kernel_rfl
            case c55 => kernel_rfl
            case d55 => kernel_rfl
            case e55 => kernel_rfl
            case f55 => kernel_rfl
            case j55 => kernel_rfl
            case q55 => exact fun _ _ _ h => h
            case g55 => rfl
            case y55 => (intro wS hSw; obtain ⟨nS, rfl⟩ := hSw; go_simp; (try with_reducible rfl))
            case s55 => assumption
            (try simp only [Act.put, List.setIfInBounds_toArray, List.set_cons_zero, List.set_cons_succ])
            refine wpAnyT_any (i := 7) (oi := ?o57) (v := ?v57) ?h57 ?a57 ?b57 ?c57 ?d57 ?e57 ?j57 ?q57 (Or.inl ⟨?g57, ?y57⟩) ?s57 ?r57
            case h57 => (simp only [List.getElem?_toArray, List.getElem?_cons_zero, List.getElem?_cons_succ]; rfl)
            case a57 => kernel_rfl
            case b57 => kernel_rfl
            case c57 => kernel_rfl
            case d57 => kernel_rfl
            case e57 => kernel_rfl
            case j57 => kernel_rfl
            case q57 => exact fun _ _ _ h => h
            case g57 => rfl
            case y57 => (intro wS _; go_simp; (try with_reducible rfl))
            case s57 => exact fun _ => by assumption
            (try simp only [Act.put, List.setIfInBounds_toArray, List.set_cons_zero, List.set_cons_succ])
            refine wpAnyT_take (i := 8) (oi := ?o58) (v := ?v58) ?h58 ?a58 ?b58 ?c58 ?d58 ?e58 ?f58 ?j58 ?q58 (Or.inl ⟨?g58, ?y58⟩) ?s58 ?r58
            case h58 => (simp only [List.getElem?_toArray, List.getElem?_cons_zero, List.getElem?_cons_succ]; rfl)
            case a58 => kernel_rfl
            case b58 => kernel_rfl
            case c58 => kernel_rfl
            case d58 => kernel_rfl
            case e58 => kernel_rfl
            case f58 => kernel_rfl
            case j58 => kernel_rfl
            case q58 => exact fun _ _ _ h => h
            case g58 => rfl
            case y58 => (intro wS hSw; obtain ⟨nS, rfl⟩ := hSw; go_simp; (try with_reducible rfl))
            case s58 => assumption
            (try simp only [Act.put, List.setIfInBounds_toArray, List.set_cons_zero, List.set_cons_succ])
            refine wpAnyT_ready (rs := [9]) (by kernel_rfl) (by simp) ?_
            refine AllReadyT.cons (o := ?oB59) ?hB59 ?kB59 AllReadyT.nil
            case hB59 => (simp only [List.getElem?_toArray, List.getElem?_cons_zero, List.getElem?_cons_succ]; rfl)
            case kB59 =>
              intro K hK
              go_simp
              refine HV.out.mono ?_
              rintro e w4 ⟨hk4, rfl, hr4⟩
              exact ⟨rfl, HNO.out _ hk4 hr4⟩
          | ok x =>
            obtain ⟨E, n, qs⟩ := x
            have HV : Hid (Calls Tryz.prog fn #[ptr rb, ptr vb, fldV f] w3.drew fun e w' => Kept (fun j => (P j ∨ j = vb) ∨ j = w.heap.size) w3.drew w' ∧ e = .returned (.tuple #[.int .i64 (E : Nat), .int .i64 n]) ∧ Rd w' (fun j => (P j ∨ j = vb) ∨ j = w.heap.size) o rb L s ((ps ++ [⟨v.depth, v.format, k, a, 0, 0⟩]) ++ qs)) := Lib.hid (by have := HCON.out; rw [hkd] at this; exact this)
            have HR5 : Hid (RR = .ok (E, n, qs)) := Lib.hid (by rw [HR4.out, hkd])
            obtain ⟨EI, hEI⟩ : ∃ EI : Int, (E : Int) = EI := ⟨_, rfl⟩
            rw [hEI] at HV
            have HEI := Lib.hid hEI
            clear hkd HCON hEI
            refine wp_region_T 9 (fun w' : World => ∃ n : Nat, w' = w3.drewN n) (by kernel_rfl) ⟨1, rfl⟩ (fun hHeld => ?_)
            refine wpAnyT_any (i := 0) (oi := ?o61) (v := ?v61) ?h61 ?a61 ?b61 ?c61 ?d61 ?e61 ?j61 ?q61 (Or.inl ⟨?g61, ?y61⟩) ?s61 ?r61
            case h61 => (simp only [List.getElem?_toArray, List.getElem?_cons_zero]; rfl)
            case a61 => kernel_rfl
            case b61 => kernel_rfl
            case c61 => kernel_rfl
            case d61 => kernel_rfl
            case e61 => kernel_rfl
            case j61 => kernel_rfl
            case q61 => exact fun _ _ _ h => h
            case g61 => rfl
            case y61 => (intro wS _; go_simp; (try with_reducible rfl))
            case s61 => exact fun _ => by assumption
            (try simp only [Act.put, List.setIfInBounds_toArray, List.set_cons_zero, List.set_cons_succ])
            refine wpAnyT_any (i := 1) (oi := ?o63) (v := ?v63) ?h63 ?a63 ?b63 ?c63 ?d63 ?e63 ?j63 ?q63 (Or.inl ⟨?g63, ?y63⟩) ?s63 ?r63
            case h63 => (simp only [List.getElem?_toArray, List.getElem?_cons_zero, List.getElem?_cons_succ]; rfl)
            case a63 => kernel_rfl
            case b63 => kernel_rfl
            case c63 => kernel_rfl
            case d63 => kernel_rfl
            case e63 => kernel_rfl
            case j63 => kernel_rfl
            case q63 => exact fun _ _ _ h => h
            case g63 => rfl
            case y63 => (intro wS _; go_simp; (try with_reducible rfl))
            case s63 => exact fun _ => by assumption
            (try simp only [Act.put, List.setIfInBounds_toArray, List.set_cons_zero, List.set_cons_succ])
            refine wpAnyT_any (i := 2) (oi := ?o65) (v := ?v65) ?h65 ?a65 ?b65 ?c65 ?d65 ?e65 ?j65 ?q65 (Or.inl ⟨?g65, ?y65⟩) ?s65 ?r65
            case h65 => (simp only [List.getElem?_toArray, List.getElem?_cons_zero, List.getElem?_cons_succ]; rfl)
            case a65 => kernel_rfl
            case b65 => kernel_rfl
            case c65 => kernel_rfl
            case d65 => kernel_rfl
            case e65 => kernel_rfl
            case j65 => kernel_rfl
            case q65 => exact fun _ _ _ h => h
            case g65 => rfl
            case y65 => (intro wS _; go_simp; (try with_reducible rfl))
            case s65 => exact fun _ => by assumption
            (try simp only [Act.put, List.setIfInBounds_toArray, List.set_cons_zero, List.set_cons_succ])
            refine wpAnyT_take (i := 3) (oi := ?o66) (v := ?v66) ?h66 ?a66 ?b66 ?c66 ?d66 ?e66 ?f66 ?j66 ?q66 (Or.inl ⟨?g66, ?y66⟩) ?s66 ?r66
            case h66 => (simp only [List.getElem?_toArray, List.getElem?_cons_zero, List.getElem?_cons_succ]; rfl)
            case a66 => kernel_rfl
            case b66 => kernel_rfl
            case c66 => kernel_rfl
            case d66 => kernel_rfl
            case e66 => kernel_rfl
            case f66 => kernel_rfl
            case j66 => kernel_rfl
            case q66 => exact fun _ _ _ h => h
            case g66 => rfl
            case y66 => (intro wS hSw; obtain ⟨nS, rfl⟩ := hSw; go_simp; (try with_reducible rfl))
            case s66 => assumption
            (try simp only [Act.put, List.setIfInBounds_toArray, List.set_cons_zero, List.set_cons_succ])
            refine wpAnyT_any (i := 4) (oi := ?o68) (v := ?v68) ?h68 ?a68 ?b68 ?c68 ?d68 ?e68 ?j68 ?q68 (Or.inl ⟨?g68, ?y68⟩) ?s68 ?r68
            case h68 => (simp only [List.getElem?_toArray, List.getElem?_cons_zero, List.getElem?_cons_succ]; rfl)
            case a68 => kernel_rfl
            case b68 => kernel_rfl
            case c68 => kernel_rfl
            case d68 => kernel_rfl
            case e68 => kernel_rfl
            case j68 => kernel_rfl
            case q68 => exact fun _ _ _ h => h
            case g68 => rfl
            case y68 => (intro wS _; go_simp; (try with_reducible rfl))
            case s68 => exact fun _ => by assumption
            (try simp only [Act.put, List.setIfInBounds_toArray, List.set_cons_zero, List.set_cons_succ])
            refine wpAnyT_take (i := 5) (oi := ?o69) (v := ?v69) ?h69 ?a69 ?b69 ?c69 ?d69 ?e69 ?f69 ?j69 ?q69 (Or.inl ⟨?g69, ?y69⟩) ?s69 ?r69
            case h69 => (simp only [List.getElem?_toArray, List.getElem?_cons_zero, List.getElem?_cons_succ]; rfl)
            case a69 => kernel_rfl
            case b69 => kernel_rfl
            case c69 => kernel_rfl
            case d69 => kernel_rfl
            case e69 => kernel_rfl
            case f69 => kernel_rfl
            case j69 => kernel_rfl
            case q69 => exact fun _ _ _ h => h
            case g69 => rfl
            case y69 => (intro wS hSw; obtain ⟨nS, rfl⟩ := hSw; go_simp; (try with_reducible rfl))
            case s69 => assumption
            (try simp only [Act.put, List.setIfInBounds_toArray, List.set_cons_zero, List.set_cons_succ])
            refine wpAnyT_take (i := 6) (oi := ?o70) (v := ?v70) ?h70 ?a70 ?b70 ?c70 ?d70 ?e70 ?f70 ?j70 ?q70 (Or.inl ⟨?g70, ?y70⟩) ?s70 ?r70
            case h70 => (simp only [List.getElem?_toArray, List.getElem?_cons_zero, List.getElem?_cons_succ]; rfl)
            case a70 => kernel_rfl
            case b70 => kernel_rfl
            case c70 => kernel_rfl
            case d70 => kernel_rfl
            case e70 => kernel_rfl
            case f70 => kernel_rfl
            case j70 => kernel_rfl
            case q70 => exact fun _ _ _ h => h
            case g70 => rfl
            case y70 => (intro wS hSw; obtain ⟨nS, rfl⟩ := hSw; go_simp; (try with_reducible rfl))
            case s70 => assumption
            (try simp only [Act.put, List.setIfInBounds_toArray, List.set_cons_zero, List.set_cons_succ])
            refine wpAnyT_any (i := 7) (oi := ?o72) (v := ?v72) ?h72 ?a72 ?b72 ?c72 ?d72 ?e72 ?j72 ?q72 (Or.inl ⟨?g72, ?y72⟩) ?s72 ?r72
            case h72 => (simp only [List.getElem?_toArray, List.getElem?_cons_zero, List.getElem?_cons_succ]; rfl)
            case a72 => kernel_rfl
            case b72 => kernel_rfl
            case c72 => kernel_rfl
            case d72 => kernel_rfl
            case e72 => kernel_rfl
            case j72 => kernel_rfl
            case q72 => exact fun _ _ _ h => h
            case g72 => rfl
            case y72 => (intro wS _; go_simp; (try with_reducible rfl))
            case s72 => exact fun _ => by assumption
            (try simp only [Act.put, List.setIfInBounds_toArray, List.set_cons_zero, List.set_cons_succ])
            refine wpAnyT_take (i := 8) (oi := ?o73) (v := ?v73) ?h73 ?a73 ?b73 ?c73 ?d73 ?e73 ?f73 ?j73 ?q73 (Or.inl ⟨?g73, ?y73⟩) ?s73 ?r73
            case h73 => (simp only [List.getElem?_toArray, List.getElem?_cons_zero, List.getElem?_cons_succ]; rfl)
            case a73 => kernel_rfl
            case b73 => kernel_rfl
            case c73 => kernel_rfl
            case d73 => kernel_rfl
            case e73 => kernel_rfl
            case f73 => kernel_rfl
            case j73 => kernel_rfl
            case q73 => exact fun _ _ _ h => h
            case g73 => rfl
            case y73 => (intro wS hSw; obtain ⟨nS, rfl⟩ := hSw; go_simp; (try with_reducible rfl))
            case s73 => assumption
            (try simp only [Act.put, List.setIfInBounds_toArray, List.set_cons_zero, List.set_cons_succ])
            refine wpAnyT_ready (rs := [9]) (by kernel_rfl) (by simp) ?_
            refine AllReadyT.cons (o := ?oB74) ?hB74 ?kB74 AllReadyT.nil
            case hB74 => (simp only [List.getElem?_toArray, List.getElem?_cons_zero, List.getElem?_cons_succ]; rfl)
            case kB74 =>
              intro K hK
              go_simp
              refine HV.out.mono ?_
              rintro e w4 ⟨hk4, rfl, hr4⟩
              refine hK.out _ _ (no_more (by kernel_rfl)) ?_
              clear hK K
              (try simp only [Act.put, List.setIfInBounds_toArray, List.set_cons_zero, List.set_cons_succ])
              refine wpAnyT_any (i := 10) (oi := ?o75) (v := ?v75) ?h75 ?a75 ?b75 ?c75 ?d75 ?e75 ?j75 ?q75 (Or.inl ⟨?g75, ?y75⟩) ?s75 ?r75
              case h75 => (simp only [List.getElem?_toArray, List.getElem?_cons_zero, List.getElem?_cons_succ]; rfl)
              case a75 => kernel_rfl
              case b75 => kernel_rfl
              case c75 => kernel_rfl
              case d75 => kernel_rfl
              case e75 => kernel_rfl
              case j75 => kernel_rfl
              case q75 => exact fun _ _ _ h => h
              case g75 => rfl
              case y75 => (intro wS _; go_simp; (try with_reducible rfl))
              case s75 => exact no_more (by kernel_rfl)
              (try simp only [Act.put, List.setIfInBounds_toArray, List.set_cons_zero, List.set_cons_succ])
              refine wpAnyT_any (i := 11) (oi := ?o76) (v := ?v76) ?h76 ?a76 ?b76 ?c76 ?d76 ?e76 ?j76 ?q76 (Or.inl ⟨?g76, ?y76⟩) ?s76 ?r76
              case h76 => (simp only [List.getElem?_toArray, List.getElem?_cons_zero, List.getElem?_cons_succ]; rfl)
              case a76 => kernel_rfl
              case b76 => kernel_rfl
              case c76 => kernel_rfl
              case d76 => kernel_rfl
              case e76 => kernel_rfl
              case j76 => kernel_rfl
              case q76 => exact fun _ _ _ h => h
              case g76 => rfl
              case y76 => (intro wS _; go_simp; (try with_reducible rfl))
              case s76 => exact no_more (by kernel_rfl)
              (try simp only [Act.put, List.setIfInBounds_toArray, List.set_cons_zero, List.set_cons_succ])
              refine wpAnyT_any (i := 12) (oi := ?o77) (v := ?v77) ?h77 ?a77 ?b77 ?c77 ?d77 ?e77 ?j77 ?q77 (Or.inl ⟨?g77, ?y77⟩) ?s77 ?r77
              case h77 => (simp only [List.getElem?_toArray, List.getElem?_cons_zero, List.getElem?_cons_succ]; rfl)
              case a77 => kernel_rfl
              case b77 => kernel_rfl
              case c77 => kernel_rfl
              case d77 => kernel_rfl
              case e77 => kernel_rfl
              case j77 => kernel_rfl
              case q77 => exact fun _ _ _ h => h
              case g77 => rfl
              case y77 => (intro wS _; go_simp; (try with_reducible rfl))
              case s77 => exact no_more (by kernel_rfl)
              (try simp only [Act.put, List.setIfInBounds_toArray, List.set_cons_zero, List.set_cons_succ])
              refine wpAnyT_any (i := 13) (oi := ?o78) (v := ?v78) ?h78 ?a78 ?b78 ?c78 ?d78 ?e78 ?j78 ?q78 (Or.inl ⟨?g78, ?y78⟩) ?s78 ?r78
              case h78 => (simp only [List.getElem?_toArray, List.getElem?_cons_zero, List.getElem?_cons_succ]; rfl)
              case a78 => kernel_rfl
              case b78 => kernel_rfl
              case c78 => kernel_rfl
              case d78 => kernel_rfl
              case e78 => kernel_rfl
              case j78 => kernel_rfl
              case q78 => exact fun _ _ _ h => h
              case g78 => rfl
              case y78 => (intro wS _; go_simp; (try with_reducible rfl))
              case s78 => exact no_more (by kernel_rfl)
              (try simp only [Act.put, List.setIfInBounds_toArray, List.set_cons_zero, List.set_cons_succ])
              refine wpAnyT_any (i := 14) (oi := ?o79) (v := ?v79) ?h79 ?a79 ?b79 ?c79 ?d79 ?e79 ?j79 ?q79 (Or.inl ⟨?g79, ?y79⟩) ?s79 ?r79
              case h79 => (simp only [List.getElem?_toArray, List.getElem?_cons_zero, List.getElem?_cons_succ]; rfl)
              case a79 => kernel_rfl
              case b79 => kernel_rfl
              case c79 => kernel_rfl
              case d79 => kernel_rfl
              case e79 => kernel_rfl
              case j79 => kernel_rfl
              case q79 => exact fun _ _ _ h => h
              case g79 => rfl
              case y79 => (intro wS _; go_simp; (try with_reducible rfl))
              case s79 => exact no_more (by kernel_rfl)
              (try simp only [Act.put, List.setIfInBounds_toArray, List.set_cons_zero, List.set_cons_succ])
              refine wpAnyT_done (by kernel_rfl) ?_ _
              have hk4' : Kept (fun j => (P j ∨ j = vb) ∨ j = w.heap.size) W w4 := HW3.out.1.drew.trans hk4
              rw [List.append_assoc, List.singleton_append] at hr4
              obtain ⟨vp4, hp4⟩ := hr4.parts
              have e4 := hp4.cell
              obtain ⟨g4, c4', rfl, hl4⟩ : ∃ g c, vp4 = .slice (some ⟨g, 0, none⟩) (ps ++ (⟨v.depth, v.format, k, a, 0, 0⟩ : Pt) :: qs).length c ∧ m < (ps ++ (⟨v.depth, v.format, k, a, 0, 0⟩ : Pt) :: qs).length := by
                have hlen : m < (ps ++ (⟨v.depth, v.format, k, a, 0, 0⟩ : Pt) :: qs).length := by rw [HM.out]; simp
                rcases hp4.row.2 with ⟨_, h0⟩ | ⟨g, cap, cur, rfl, _⟩
                · rw [h0] at hlen; omega
                · exact ⟨g, cap, rfl, hlen⟩
              obtain ⟨q4, hq4⟩ : ∃ q, q = (ps ++ (⟨v.depth, v.format, k, a, 0, 0⟩ : Pt) :: qs).length := ⟨_, rfl⟩
              rw [← hq4] at e4 hl4
              obtain ⟨⟨y1, y2, y3, y4⟩, hk5, hr5⟩ := hr4.put hp4 (g := g4) rfl EI n
              rw [← HM.out] at y1 y2 y3 y4 hk5 hr5
              have hi4 : (0 : Int) ≤ (m : Int) ∧ (m : Int) < (q4 : Int) := by omega
              have HK5 := Lib.hid (And.intro (hk4'.trans hk5) hr5)
              clear hk4 hk4' hr4 hp4 hq4 hk5 hr5 d0 d1 d2 d3 ck hlook hen
              go_wp2_with fail
              have hst5 : (w4.setCell ⟨g4, m * 6 + 4, none⟩ (.int .i64 EI)).drew.frozen? ⟨g4, m * 6 + 5, none⟩ = false ∧ ((w4.setCell ⟨g4, m * 6 + 4, none⟩ (.int .i64 EI)).drew.cell? ⟨g4, m * 6 + 5, none⟩).isSome = true := by
                refine ⟨(World.frozen?_setCell _ _ _ _).trans y2, ?_⟩
                rw [show (w4.setCell ⟨g4, m * 6 + 4, none⟩ (.int .i64 EI)).drew.cell? ⟨g4, m * 6 + 5, none⟩ = (w4.setCell ⟨g4, m * 6 + 4, none⟩ (.int .i64 EI)).cell? ⟨g4, m * 6 + 5, none⟩ from rfl, World.cell?_setCell_other _ _ _ _ (by simp)]
                exact y4
              obtain ⟨z2, z4⟩ := hst5
              obtain ⟨u4, hu4⟩ := Option.isSome_iff_exists.1 y3
              obtain ⟨u5, hu5⟩ := Option.isSome_iff_exists.1 z4
              have HZ := Lib.hid (And.intro z2 hu5)
              clear y2 y3 y4 z2 z4 hu5
              refine wp_region_T 14 (fun w' : World => w'.cell? ⟨rb, 4, none⟩ = some (.slice (some ⟨g4, 0, none⟩) q4 c4')) (by kernel_rfl) (show w4.drew.cell? ⟨rb, 4, none⟩ = _ from e4) (fun hHeld => ?_)
              refine wpAnyT_any (i := 0) (oi := ?o81) (v := ?v81) ?h81 ?a81 ?b81 ?c81 ?d81 ?e81 ?j81 ?q81 (Or.inl ⟨?g81, ?y81⟩) ?s81 ?r81
              case h81 => (simp only [List.getElem?_toArray, List.getElem?_cons_zero]; rfl)
              case a81 => kernel_rfl
              case b81 => kernel_rfl
              case c81 => kernel_rfl
              case d81 => kernel_rfl
              case e81 => kernel_rfl
              case j81 => kernel_rfl
              case q81 => exact fun _ _ _ h => h
              case g81 => rfl
              case y81 => (intro wS _; go_simp; (try with_reducible rfl))
              case s81 => exact fun _ => by assumption
              (try simp only [Act.put, List.setIfInBounds_toArray, List.set_cons_zero, List.set_cons_succ])
              refine wpAnyT_any (i := 1) (oi := ?o83) (v := ?v83) ?h83 ?a83 ?b83 ?c83 ?d83 ?e83 ?j83 ?q83 (Or.inl ⟨?g83, ?y83⟩) ?s83 ?r83
              case h83 => (simp only [List.getElem?_toArray, List.getElem?_cons_zero, List.getElem?_cons_succ]; rfl)
              case a83 => kernel_rfl
              case b83 => kernel_rfl
              case c83 => kernel_rfl
              case d83 => kernel_rfl
              case e83 => kernel_rfl
              case j83 => kernel_rfl
              case q83 => exact fun _ _ _ h => h
              case g83 => rfl
              case y83 => (intro wS _; go_simp; (try with_reducible rfl))
              case s83 => exact fun _ => by assumption
              (try simp only [Act.put, List.setIfInBounds_toArray, List.set_cons_zero, List.set_cons_succ])
              refine wpAnyT_any (i := 2) (oi := ?o85) (v := ?v85) ?h85 ?a85 ?b85 ?c85 ?d85 ?e85 ?j85 ?q85 (Or.inl ⟨?g85, ?y85⟩) ?s85 ?r85
              case h85 => (simp only [List.getElem?_toArray, List.getElem?_cons_zero, List.getElem?_cons_succ]; rfl)
              case a85 => kernel_rfl
              case b85 => kernel_rfl
              case c85 => kernel_rfl
              case d85 => kernel_rfl
              case e85 => kernel_rfl
              case j85 => kernel_rfl
              case q85 => exact fun _ _ _ h => h
              case g85 => rfl
              case y85 => (intro wS _; go_simp; (try with_reducible rfl))
              case s85 => exact fun _ => by assumption
              (try simp only [Act.put, List.setIfInBounds_toArray, List.set_cons_zero, List.set_cons_succ])
              refine wpAnyT_take (i := 3) (oi := ?o86) (v := ?v86) ?h86 ?a86 ?b86 ?c86 ?d86 ?e86 ?f86 ?j86 ?q86 (Or.inl ⟨?g86, ?y86⟩) ?s86 ?r86
              case h86 => (simp only [List.getElem?_toArray, List.getElem?_cons_zero, List.getElem?_cons_succ]; rfl)
              case a86 => kernel_rfl
              case b86 => kernel_rfl
              case c86 => kernel_rfl
              case d86 => kernel_rfl
              case e86 => kernel_rfl
              case f86 => kernel_rfl
              case j86 => kernel_rfl
              case q86 => exact fun _ _ _ h => h
              case g86 => rfl
              case y86 => (intro wS hSw; skip; go_simp; (try with_reducible rfl))
              case s86 => assumption
              (try simp only [Act.put, List.setIfInBounds_toArray, List.set_cons_zero, List.set_cons_succ])
              refine wpAnyT_any (i := 4) (oi := ?o88) (v := ?v88) ?h88 ?a88 ?b88 ?c88 ?d88 ?e88 ?j88 ?q88 (Or.inl ⟨?g88, ?y88⟩) ?s88 ?r88
              case h88 => (simp only [List.getElem?_toArray, List.getElem?_cons_zero, List.getElem?_cons_succ]; rfl)
              case a88 => kernel_rfl
              case b88 => kernel_rfl
              case c88 => kernel_rfl
              case d88 => kernel_rfl
              case e88 => kernel_rfl
              case j88 => kernel_rfl
              case q88 => exact fun _ _ _ h => h
              case g88 => rfl
              case y88 => (intro wS _; go_simp; (try with_reducible rfl))
              case s88 => exact fun _ => by assumption
              (try simp only [Act.put, List.setIfInBounds_toArray, List.set_cons_zero, List.set_cons_succ])
              refine wpAnyT_any (i := 5) (oi := ?o90) (v := ?v90) ?h90 ?a90 ?b90 ?c90 ?d90 ?e90 ?j90 ?q90 (Or.inl ⟨?g90, ?y90⟩) ?s90 ?r90
              case h90 => (simp only [List.getElem?_toArray, List.getElem?_cons_zero, List.getElem?_cons_succ]; rfl)
              case a90 => kernel_rfl
              case b90 => kernel_rfl
              case c90 => kernel_rfl
              case d90 => kernel_rfl
              case e90 => kernel_rfl
              case j90 => kernel_rfl
              case q90 => exact fun _ _ _ h => h
              case g90 => rfl
              case y90 => (intro wS _; go_simp; (try with_reducible rfl))
              case s90 => exact fun _ => by assumption
              (try simp only [Act.put, List.setIfInBounds_toArray, List.set_cons_zero, List.set_cons_succ])
              refine wpAnyT_any (i := 6) (oi := ?o92) (v := ?v92) ?h92 ?a92 ?b92 ?c92 ?d92 ?e92 ?j92 ?q92 (Or.inl ⟨?g92, ?y92⟩) ?s92 ?r92
              case h92 => (simp only [List.getElem?_toArray, List.getElem?_cons_zero, List.getElem?_cons_succ]; rfl)
              case a92 => kernel_rfl
              case b92 => kernel_rfl
              case c92 => kernel_rfl
              case d92 => kernel_rfl
              case e92 => kernel_rfl
              case j92 => kernel_rfl
              case q92 => exact fun _ _ _ h => h
              case g92 => rfl
              case y92 => (intro wS _; go_simp; (try with_reducible rfl))
              case s92 => exact fun _ => by assumption
              (try simp only [Act.put, List.setIfInBounds_toArray, List.set_cons_zero, List.set_cons_succ])
              refine wpAnyT_any (i := 7) (oi := ?o94) (v := ?v94) ?h94 ?a94 ?b94 ?c94 ?d94 ?e94 ?j94 ?q94 (Or.inl ⟨?g94, ?y94⟩) ?s94 ?r94
              case h94 => (simp only [List.getElem?_toArray, List.getElem?_cons_zero, List.getElem?_cons_succ]; rfl)
              case a94 => kernel_rfl
              case b94 => kernel_rfl
              case c94 => kernel_rfl
              case d94 => kernel_rfl
              case e94 => kernel_rfl
              case j94 => kernel_rfl
              case q94 => exact fun _ _ _ h => h
              case g94 => rfl
              case y94 => (intro wS _; go_simp; (try with_reducible rfl))
              case s94 => exact fun _ => by assumption
              (try simp only [Act.put, List.setIfInBounds_toArray, List.set_cons_zero, List.set_cons_succ])
              refine wpAnyT_take (i := 8) (oi := ?o95) (v := ?v95) ?h95 ?a95 ?b95 ?c95 ?d95 ?e95 ?f95 ?j95 ?q95 (Or.inl ⟨?g95, ?y95⟩) ?s95 ?r95
              case h95 => (simp only [List.getElem?_toArray, List.getElem?_cons_zero, List.getElem?_cons_succ]; rfl)
              case a95 => kernel_rfl
              case b95 => kernel_rfl
              case c95 => kernel_rfl
              case d95 => kernel_rfl
              case e95 => kernel_rfl
              case f95 => kernel_rfl
              case j95 => kernel_rfl
              case q95 => exact fun _ _ _ h => h
              case g95 => rfl
              case y95 => (intro wS hSw; skip; go_simp; (try with_reducible rfl))
              case s95 => assumption
              (try simp only [Act.put, List.setIfInBounds_toArray, List.set_cons_zero, List.set_cons_succ])
              refine wpAnyT_any (i := 9) (oi := ?o97) (v := ?v97) ?h97 ?a97 ?b97 ?c97 ?d97 ?e97 ?j97 ?q97 (Or.inl ⟨?g97, ?y97⟩) ?s97 ?r97
              case h97 => (simp only [List.getElem?_toArray, List.getElem?_cons_zero, List.getElem?_cons_succ]; rfl)
              case a97 => kernel_rfl
              case b97 => kernel_rfl
              case c97 => kernel_rfl
              case d97 => kernel_rfl
              case e97 => kernel_rfl
              case j97 => kernel_rfl
              case q97 => exact fun _ _ _ h => h
              case g97 => rfl
              case y97 => (intro wS _; go_simp; (try with_reducible rfl))
              case s97 => exact fun _ => by assumption
              (try simp only [Act.put, List.setIfInBounds_toArray, List.set_cons_zero, List.set_cons_succ])
              refine wpAnyT_any (i := 10) (oi := ?o99) (v := ?v99) ?h99 ?a99 ?b99 ?c99 ?d99 ?e99 ?j99 ?q99 (Or.inl ⟨?g99, ?y99⟩) ?s99 ?r99
              case h99 => (simp only [List.getElem?_toArray, List.getElem?_cons_zero, List.getElem?_cons_succ]; rfl)
              case a99 => kernel_rfl
              case b99 => kernel_rfl
              case c99 => kernel_rfl
              case d99 => kernel_rfl
              case e99 => kernel_rfl
              case j99 => kernel_rfl
              case q99 => exact fun _ _ _ h => h
              case g99 => rfl
              case y99 => (intro wS _; go_simp; (try with_reducible rfl))
              case s99 => exact fun _ => by assumption
              (try simp only [Act.put, List.setIfInBounds_toArray, List.set_cons_zero, List.set_cons_succ])
              refine wpAnyT_any (i := 11) (oi := ?o101) (v := ?v101) ?h101 ?a101 ?b101 ?c101 ?d101 ?e101 ?j101 ?q101 (Or.inl ⟨?g101, ?y101⟩) ?s101 ?r101
              case h101 => (simp only [List.getElem?_toArray, List.getElem?_cons_zero, List.getElem?_cons_succ]; rfl)
              case a101 => kernel_rfl
              case b101 => kernel_rfl
              case c101 => kernel_rfl
              case d101 => kernel_rfl
              case e101 => kernel_rfl
              case j101 => kernel_rfl
              case q101 => exact fun _ _ _ h => h
              case g101 => rfl
              case y101 => (intro wS _; go_simp; (try with_reducible rfl))
              case s101 => exact fun _ => by assumption
              (try simp only [Act.put, List.setIfInBounds_toArray, List.set_cons_zero, List.set_cons_succ])
              refine wpAnyT_take (i := 12) (oi := ?o102) (v := ?v102) ?h102 ?a102 ?b102 ?c102 ?d102 ?e102 ?f102 ?j102 ?q102 (Or.inl ⟨?g102, ?y102⟩) ?s102 ?r102
              case h102 => (simp only [List.getElem?_toArray, List.getElem?_cons_zero, List.getElem?_cons_succ]; rfl)
              case a102 => kernel_rfl
              case b102 => kernel_rfl
              case c102 => kernel_rfl
              case d102 => kernel_rfl
              case e102 => kernel_rfl
              case f102 => kernel_rfl
              case j102 => kernel_rfl
              case q102 => exact fun _ _ _ h => h
              case g102 => rfl
              case y102 => (intro wS hSw; skip; go_simp; (try with_reducible rfl))
              case s102 => assumption
              (try simp only [Act.put, List.setIfInBounds_toArray, List.set_cons_zero, List.set_cons_succ])
              refine wpAnyT_any (i := 13) (oi := ?o104) (v := ?v104) ?h104 ?a104 ?b104 ?c104 ?d104 ?e104 ?j104 ?q104 (Or.inl ⟨?g104, ?y104⟩) ?s104 ?r104
              case h104 => (simp only [List.getElem?_toArray, List.getElem?_cons_zero, List.getElem?_cons_succ]; rfl)
              case a104 => kernel_rfl
              case b104 => kernel_rfl
              case c104 => kernel_rfl
              case d104 => kernel_rfl
              case e104 => kernel_rfl
              case j104 => kernel_rfl
              case q104 => exact fun _ _ _ h => h
              case g104 => rfl
              case y104 => (intro wS _; go_simp; (try with_reducible rfl))
              case s104 => exact fun _ => by assumption
              (try simp only [Act.put, List.setIfInBounds_toArray, List.set_cons_zero, List.set_cons_succ])
              refine wpAnyT_ready (rs := [14]) (by kernel_rfl) (by simp) ?_
              refine AllReadyT.cons (o := ?oB105) ?hB105 ?kB105 AllReadyT.nil
              case hB105 => (simp only [List.getElem?_toArray, List.getElem?_cons_zero, List.getElem?_cons_succ]; rfl)
              case kB105 =>
                intro K hK
                go_simp
                refine hK.out _ _ (no_more (by kernel_rfl)) ?_
                clear hK K
                (try simp only [Act.put, List.setIfInBounds_toArray, List.set_cons_zero, List.set_cons_succ])
                obtain ⟨z2, hu5⟩ := HZ.out
                refine wpAnyT_any (i := 15) (oi := ?o106) (v := ?v106) ?h106 ?a106 ?b106 ?c106 ?d106 ?e106 ?j106 ?q106 (Or.inl ⟨?g106, ?y106⟩) ?s106 ?r106
                case h106 => (simp only [List.getElem?_toArray, List.getElem?_cons_zero, List.getElem?_cons_succ]; rfl)
                case a106 => kernel_rfl
                case b106 => kernel_rfl
                case c106 => kernel_rfl
                case d106 => kernel_rfl
                case e106 => kernel_rfl
                case j106 => kernel_rfl
                case q106 => exact fun _ _ _ h => h
                case g106 => rfl
                case y106 => (intro wS _; go_simp; (try with_reducible rfl))
                case s106 => exact no_more (by kernel_rfl)
                (try simp only [Act.put, List.setIfInBounds_toArray, List.set_cons_zero, List.set_cons_succ])
                refine wpAnyT_any (i := 16) (oi := ?o107) (v := ?v107) ?h107 ?a107 ?b107 ?c107 ?d107 ?e107 ?j107 ?q107 (Or.inl ⟨?g107, ?y107⟩) ?s107 ?r107
                case h107 => (simp only [List.getElem?_toArray, List.getElem?_cons_zero, List.getElem?_cons_succ]; rfl)
                case a107 => kernel_rfl
                case b107 => kernel_rfl
                case c107 => kernel_rfl
                case d107 => kernel_rfl
                case e107 => kernel_rfl
                case j107 => kernel_rfl
                case q107 => exact fun _ _ _ h => h
                case g107 => rfl
                case y107 => (intro wS _; go_simp; (try with_reducible rfl))
                case s107 => exact no_more (by kernel_rfl)
                (try simp only [Act.put, List.setIfInBounds_toArray, List.set_cons_zero, List.set_cons_succ])
                refine wpAnyT_ready (rs := [17]) (by kernel_rfl) (by simp) ?_
                refine AllReadyT.cons (o := ?oB108) ?hB108 ?kB108 AllReadyT.nil
                case hB108 => (simp only [List.getElem?_toArray, List.getElem?_cons_zero, List.getElem?_cons_succ]; rfl)
                case kB108 =>
                  intro K hK
                  go_simp
                  refine hK.out _ _ (no_more (by kernel_rfl)) ?_
                  clear hK K
                  (try simp only [Act.put, List.setIfInBounds_toArray, List.set_cons_zero, List.set_cons_succ])
                  refine wpAnyT_done (by kernel_rfl) ?_ _
                  have HK6 : Hid (Kept (fun j => (P j ∨ j = vb) ∨ j = w.heap.size) W ((w4.setCell ⟨g4, m * 6 + 4, none⟩ (.int .i64 EI)).setCell ⟨g4, m * 6 + 5, none⟩ (.int .i64 n)).drew ∧ Rd ((w4.setCell ⟨g4, m * 6 + 4, none⟩ (.int .i64 EI)).setCell ⟨g4, m * 6 + 5, none⟩ (.int .i64 n)).drew (fun j => (P j ∨ j = vb) ∨ j = w.heap.size) o rb L s (ps ++ { (⟨v.depth, v.format, k, a, 0, 0⟩ : Pt) with stop := EI, number := n } :: qs)) := Lib.hid ⟨HK5.out.1.drew, HK5.out.2.keptN 1⟩
                  clear HK5 HZ z2 hu5 hu4 e4 y1
                  go_wp2_with fail
                  generalize ((w4.setCell ⟨g4, m * 6 + 4, none⟩ (.int .i64 EI)).setCell ⟨g4, m * 6 + 5, none⟩ (.int .i64 n)).drew = w6 at *
                  have hv6 : VAt w6 vb v := HB0.out.2.2.2.1.keep (HK6.out.1.block vb (.inl (.inr rfl)))
                  have c2 := hv6.cells.2.2.1
                  rw [nk] at c2
                  have c4 := hv6.cells.2.2.2.2.1
                  have cq := hv6.num hk16
                  have y4 := hv6.blk.frozen 4
                  have yq := hv6.blk.frozen (6 + k)
                  have hik : (0 : Int) ≤ (k : Int) ∧ (k : Int) < 16 := by omega
                  have hst6 : (w6.setCell ⟨vb, 4, none⟩ (.int .i64 EI)).drew.frozen? ⟨vb, 6 + k, none⟩ = false ∧ (w6.setCell ⟨vb, 4, none⟩ (.int .i64 EI)).drew.cell? ⟨vb, 6 + k, none⟩ = some (.int .i64 (v.nums.getD k 0)) := by
                    refine ⟨(World.frozen?_setCell _ _ _ _).trans yq, ?_⟩
                    rw [show (w6.setCell ⟨vb, 4, none⟩ (.int .i64 EI)).drew.cell? ⟨vb, 6 + k, none⟩ = (w6.setCell ⟨vb, 4, none⟩ (.int .i64 EI)).cell? ⟨vb, 6 + k, none⟩ from rfl, World.cell?_setCell_other _ _ _ _ (by simp)]
                    exact cq
                  have HZ := Lib.hid hst6
                  have HEND : Hid (∀ W', W' = ((w6.setCell ⟨vb, 4, none⟩ (.int .i64 EI)).setCell ⟨vb, 6 + k, none⟩ (.int .i64 n)).drew → NxPost w P o rb L s ps vb v k a RR (.returned (.tuple #[])) W') := Lib.hid fun W' hW' => by
                    have hk6 : Kept P w w6 := (Kept.of_below HB0.out.1 HH.out.1.1.pin).trans (HK6.out.1.mono fun j hj => .inl (.inl hj))
                    have pv := HH.out.2.2.2.2
                    have hke : Kept (fun j => j ≠ vb) w6 W' := by rw [hW']; exact (((Kept.refl _ _).setCell (by simp) _).setCell (by simp) _).drew
                    have hr6 : Rd w6 P o rb L s _ := HH.out.1.weak HK6.out.2 hk6.size fun j hj => .inl (.inl hj)
                    refine ⟨hk6.trans (hke.mono fun j hj e => pv (e ▸ hj)), ?_⟩
                    rw [HR5.out]
                    refine ⟨rfl, ?_, ?_⟩
                    · have := hr6.write hv6.blk pv (by decide) (by decide) (by decide) (by decide) hke
                      rw [← HEI.out] at this
                      exact this
                    · rw [hW', ← HEI.out]; exact (hv6.put hk16 _ _).drew
                  clear hst6 cq yq hv6
                  refine wp_region_T 10 (fun w' : World => w'.cell? ⟨vb, 2, none⟩ = some (.int .i64 (k : Int))) (by kernel_rfl) (show w6.drew.cell? ⟨vb, 2, none⟩ = _ from c2) (fun hHeld => ?_)
                  refine wpAnyT_any (i := 0) (oi := ?o110) (v := ?v110) ?h110 ?a110 ?b110 ?c110 ?d110 ?e110 ?j110 ?q110 (Or.inl ⟨?g110, ?y110⟩) ?s110 ?r110
                  case h110 => (simp only [List.getElem?_toArray, List.getElem?_cons_zero]; rfl)
                  case a110 => kernel_rfl
                  case b110 => kernel_rfl
                  case c110 => kernel_rfl
                  case d110 => kernel_rfl
                  case e110 => kernel_rfl
                  case j110 => kernel_rfl
                  case q110 => exact fun _ _ _ h => h
                  case g110 => rfl
                  case y110 => (intro wS _; go_simp; (try with_reducible rfl))
                  case s110 => exact fun _ => by assumption
                  (try simp only [Act.put, List.setIfInBounds_toArray, List.set_cons_zero, List.set_cons_succ])
                  refine wpAnyT_any (i := 1) (oi := ?o112) (v := ?v112) ?h112 ?a112 ?b112 ?c112 ?d112 ?e112 ?j112 ?q112 (Or.inl ⟨?g112, ?y112⟩) ?s112 ?r112
                  case h112 => (simp only [List.getElem?_toArray, List.getElem?_cons_zero, List.getElem?_cons_succ]; rfl)
                  case a112 => kernel_rfl
                  case b112 => kernel_rfl
                  case c112 => kernel_rfl
                  case d112 => kernel_rfl
                  case e112 => kernel_rfl
                  case j112 => kernel_rfl
                  case q112 => exact fun _ _ _ h => h
                  case g112 => rfl
                  case y112 => (intro wS _; go_simp; (try with_reducible rfl))
                  case s112 => exact fun _ => by assumption
                  (try simp only [Act.put, List.setIfInBounds_toArray, List.set_cons_zero, List.set_cons_succ])
                  refine wpAnyT_any (i := 2) (oi := ?o114) (v := ?v114) ?h114 ?a114 ?b114 ?c114 ?d114 ?e114 ?j114 ?q114 (Or.inl ⟨?g114, ?y114⟩) ?s114 ?r114
                  case h114 => (simp only [List.getElem?_toArray, List.getElem?_cons_zero, List.getElem?_cons_succ]; rfl)
                  case a114 => kernel_rfl
                  case b114 => kernel_rfl
                  case c114 => kernel_rfl
                  case d114 => kernel_rfl
                  case e114 => kernel_rfl
                  case j114 => kernel_rfl
                  case q114 => exact fun _ _ _ h => h
                  case g114 => rfl
                  case y114 => (intro wS _; go_simp; (try with_reducible rfl))
                  case s114 => exact fun _ => by assumption
                  (try simp only [Act.put, List.setIfInBounds_toArray, List.set_cons_zero, List.set_cons_succ])
                  refine wpAnyT_any (i := 3) (oi := ?o116) (v := ?v116) ?h116 ?a116 ?b116 ?c116 ?d116 ?e116 ?j116 ?q116 (Or.inl ⟨?g116, ?y116⟩) ?s116 ?r116
                  case h116 => (simp only [List.getElem?_toArray, List.getElem?_cons_zero, List.getElem?_cons_succ]; rfl)
                  case a116 => kernel_rfl
                  case b116 => kernel_rfl
                  case c116 => kernel_rfl
                  case d116 => kernel_rfl
                  case e116 => kernel_rfl
                  case j116 => kernel_rfl
                  case q116 => exact fun _ _ _ h => h
                  case g116 => rfl
                  case y116 => (intro wS _; go_simp; (try with_reducible rfl))
                  case s116 => exact fun _ => by assumption
                  (try simp only [Act.put, List.setIfInBounds_toArray, List.set_cons_zero, List.set_cons_succ])
                  refine wpAnyT_any (i := 4) (oi := ?o118) (v := ?v118) ?h118 ?a118 ?b118 ?c118 ?d118 ?e118 ?j118 ?q118 (Or.inl ⟨?g118, ?y118⟩) ?s118 ?r118
                  case h118 => (simp only [List.getElem?_toArray, List.getElem?_cons_zero, List.getElem?_cons_succ]; rfl)
                  case a118 => kernel_rfl
                  case b118 => kernel_rfl
                  case c118 => kernel_rfl
                  case d118 => kernel_rfl
                  case e118 => kernel_rfl
                  case j118 => kernel_rfl
                  case q118 => exact fun _ _ _ h => h
                  case g118 => rfl
                  case y118 => (intro wS _; go_simp; (try with_reducible rfl))
                  case s118 => exact fun _ => by assumption
                  (try simp only [Act.put, List.setIfInBounds_toArray, List.set_cons_zero, List.set_cons_succ])
                  refine wpAnyT_take (i := 5) (oi := ?o119) (v := ?v119) ?h119 ?a119 ?b119 ?c119 ?d119 ?e119 ?f119 ?j119 ?q119 (Or.inl ⟨?g119, ?y119⟩) ?s119 ?r119
                  case h119 => (simp only [List.getElem?_toArray, List.getElem?_cons_zero, List.getElem?_cons_succ]; rfl)
                  case a119 => kernel_rfl
                  case b119 => kernel_rfl
                  case c119 => kernel_rfl
                  case d119 => kernel_rfl
                  case e119 => kernel_rfl
                  case f119 => kernel_rfl
                  case j119 => kernel_rfl
                  case q119 => exact fun _ _ _ h => h
                  case g119 => rfl
                  case y119 => (intro wS hSw; skip; go_simp; (try with_reducible rfl))
                  case s119 => assumption
                  (try simp only [Act.put, List.setIfInBounds_toArray, List.set_cons_zero, List.set_cons_succ])
                  refine wpAnyT_any (i := 6) (oi := ?o121) (v := ?v121) ?h121 ?a121 ?b121 ?c121 ?d121 ?e121 ?j121 ?q121 (Or.inl ⟨?g121, ?y121⟩) ?s121 ?r121
                  case h121 => (simp only [List.getElem?_toArray, List.getElem?_cons_zero, List.getElem?_cons_succ]; rfl)
                  case a121 => kernel_rfl
                  case b121 => kernel_rfl
                  case c121 => kernel_rfl
                  case d121 => kernel_rfl
                  case e121 => kernel_rfl
                  case j121 => kernel_rfl
                  case q121 => exact fun _ _ _ h => h
                  case g121 => rfl
                  case y121 => (intro wS _; go_simp; (try with_reducible rfl))
                  case s121 => exact fun _ => by assumption
                  (try simp only [Act.put, List.setIfInBounds_toArray, List.set_cons_zero, List.set_cons_succ])
                  refine wpAnyT_any (i := 7) (oi := ?o123) (v := ?v123) ?h123 ?a123 ?b123 ?c123 ?d123 ?e123 ?j123 ?q123 (Or.inl ⟨?g123, ?y123⟩) ?s123 ?r123
                  case h123 => (simp only [List.getElem?_toArray, List.getElem?_cons_zero, List.getElem?_cons_succ]; rfl)
                  case a123 => kernel_rfl
                  case b123 => kernel_rfl
                  case c123 => kernel_rfl
                  case d123 => kernel_rfl
                  case e123 => kernel_rfl
                  case j123 => kernel_rfl
                  case q123 => exact fun _ _ _ h => h
                  case g123 => rfl
                  case y123 => (intro wS _; go_simp; (try with_reducible rfl))
                  case s123 => exact fun _ => by assumption
                  (try simp only [Act.put, List.setIfInBounds_toArray, List.set_cons_zero, List.set_cons_succ])
                  refine wpAnyT_any (i := 8) (oi := ?o125) (v := ?v125) ?h125 ?a125 ?b125 ?c125 ?d125 ?e125 ?j125 ?q125 (Or.inl ⟨?g125, ?y125⟩) ?s125 ?r125
                  case h125 => (simp only [List.getElem?_toArray, List.getElem?_cons_zero, List.getElem?_cons_succ]; rfl)
                  case a125 => kernel_rfl
                  case b125 => kernel_rfl
                  case c125 => kernel_rfl
                  case d125 => kernel_rfl
                  case e125 => kernel_rfl
                  case j125 => kernel_rfl
                  case q125 => exact fun _ _ _ h => h
                  case g125 => rfl
                  case y125 => (intro wS _; go_simp; (try with_reducible rfl))
                  case s125 => exact fun _ => by assumption
                  (try simp only [Act.put, List.setIfInBounds_toArray, List.set_cons_zero, List.set_cons_succ])
                  refine wpAnyT_any (i := 9) (oi := ?o127) (v := ?v127) ?h127 ?a127 ?b127 ?c127 ?d127 ?e127 ?j127 ?q127 (Or.inl ⟨?g127, ?y127⟩) ?s127 ?r127
                  case h127 => (simp only [List.getElem?_toArray, List.getElem?_cons_zero, List.getElem?_cons_succ]; rfl)
                  case a127 => kernel_rfl
                  case b127 => kernel_rfl
                  case c127 => kernel_rfl
                  case d127 => kernel_rfl
                  case e127 => kernel_rfl
                  case j127 => kernel_rfl
                  case q127 => exact fun _ _ _ h => h
                  case g127 => rfl
                  case y127 => (intro wS _; go_simp; (try with_reducible rfl))
                  case s127 => exact fun _ => by assumption
                  (try simp only [Act.put, List.setIfInBounds_toArray, List.set_cons_zero, List.set_cons_succ])
                  refine wpAnyT_any (i := 11) (oi := ?o128) (v := ?v128) ?h128 ?a128 ?b128 ?c128 ?d128 ?e128 ?j128 ?q128 (Or.inl ⟨?g128, ?y128⟩) ?s128 ?r128
                  case h128 => (simp only [List.getElem?_toArray, List.getElem?_cons_zero, List.getElem?_cons_succ]; rfl)
                  case a128 => kernel_rfl
                  case b128 => kernel_rfl
                  case c128 => kernel_rfl
                  case d128 => kernel_rfl
                  case e128 => kernel_rfl
                  case j128 => kernel_rfl
                  case q128 => exact fun _ _ _ h => h
                  case g128 => rfl
                  case y128 => (intro wS _; go_simp; (try with_reducible rfl))
                  case s128 => exact fun _ => by assumption
                  (try simp only [Act.put, List.setIfInBounds_toArray, List.set_cons_zero, List.set_cons_succ])
                  refine wpAnyT_any (i := 12) (oi := ?o129) (v := ?v129) ?h129 ?a129 ?b129 ?c129 ?d129 ?e129 ?j129 ?q129 (Or.inl ⟨?g129, ?y129⟩) ?s129 ?r129
                  case h129 => (simp only [List.getElem?_toArray, List.getElem?_cons_zero, List.getElem?_cons_succ]; rfl)
                  case a129 => kernel_rfl
                  case b129 => kernel_rfl
                  case c129 => kernel_rfl
                  case d129 => kernel_rfl
                  case e129 => kernel_rfl
                  case j129 => kernel_rfl
                  case q129 => exact fun _ _ _ h => h
                  case g129 => rfl
                  case y129 => (intro wS _; go_simp; (try with_reducible rfl))
                  case s129 => exact fun _ => by assumption
                  (try simp only [Act.put, List.setIfInBounds_toArray, List.set_cons_zero, List.set_cons_succ])
                  refine wpAnyT_ready (rs := [10]) (by kernel_rfl) (by simp) ?_
                  refine AllReadyT.cons (o := ?oB130) ?hB130 ?kB130 AllReadyT.nil
                  case hB130 => (simp only [List.getElem?_toArray, List.getElem?_cons_zero, List.getElem?_cons_succ]; rfl)
                  case kB130 =>
                    intro K hK
                    go_simp
                    refine hK.out _ _ (no_more (by kernel_rfl)) ?_
                    clear hK K
                    (try simp only [Act.put, List.setIfInBounds_toArray, List.set_cons_zero, List.set_cons_succ])
                    obtain ⟨z1, z2⟩ := HZ.out
                    refine wpAnyT_any (i := 13) (oi := ?o131) (v := ?v131) ?h131 ?a131 ?b131 ?c131 ?d131 ?e131 ?j131 ?q131 (Or.inl ⟨?g131, ?y131⟩) ?s131 ?r131
                    case h131 => (simp only [List.getElem?_toArray, List.getElem?_cons_zero, List.getElem?_cons_succ]; rfl)
                    case a131 => kernel_rfl
                    case b131 => kernel_rfl
                    case c131 => kernel_rfl
                    case d131 => kernel_rfl
                    case e131 => kernel_rfl
                    case j131 => kernel_rfl
                    case q131 => exact fun _ _ _ h => h
                    case g131 => rfl
                    case y131 => (intro wS _; go_simp; (try with_reducible rfl))
                    case s131 => exact no_more (by kernel_rfl)
                    (try simp only [Act.put, List.setIfInBounds_toArray, List.set_cons_zero, List.set_cons_succ])
                    refine wpAnyT_ready (rs := [14]) (by kernel_rfl) (by simp) ?_
                    refine AllReadyT.cons (o := ?oB132) ?hB132 ?kB132 AllReadyT.nil
                    case hB132 => (simp only [List.getElem?_toArray, List.getElem?_cons_zero, List.getElem?_cons_succ]; rfl)
                    case kB132 =>
                      intro K hK
                      go_simp
                      refine hK.out _ _ (no_more (by kernel_rfl)) ?_
                      clear hK K
                      (try simp only [Act.put, List.setIfInBounds_toArray, List.set_cons_zero, List.set_cons_succ])
                      refine wpAnyT_done (by kernel_rfl) ?_ _
                      go_wp2
                      first | go_end0 | skip
                      exact HEND.out _ rfl
  · have hd : decide ((m : Int) < 5000) = false := by rw [decide_eq_false_iff_not]; omega
    rw [hd]
    refine (vrequire_no vb v 5 _ HB0.out.2.2.2.1).mono ?_
    rintro e w5 ⟨rfl, n5, rfl⟩
    refine ⟨rfl, ?_⟩
    rw [HH.out.2.2.2.1.a, HH.out.2.2.2.1.k]
    have hb : Below w.heap.size w ((w.alloc (.cells #[.int .i64 f.kind, .int .i64 f.n, .int .i64 f.frm, .string f.text] 56)).drewN n5) := HB0.out.1.trans ((drewN_below _ n5).mono HB0.out.1.size)
    exact NxPost.no_ (by rw [HRR.out]; unfold next; rw [if_pos (by have := HM.out; omega)]) (Kept.of_below hb HH.out.1.1.pin) (HH.out.1.below hb)
end
end Go.Proofs.YtlhobhfmombjjaaGreatDoor
