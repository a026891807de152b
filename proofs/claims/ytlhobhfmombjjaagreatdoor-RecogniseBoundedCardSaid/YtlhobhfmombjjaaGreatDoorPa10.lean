/- The recogniser of a value in a field with a limit. Conditions: as for the others; values of the formats before are recognised. -/
import Derived.Test.YtlhobhfmombjjaaGreatDoorPa09
namespace Go.Proofs.YtlhobhfmombjjaaGreatDoor
open Go.RowKit Fx Rec

/-- What comes of a value. -/
def VPost (w : World) (P : Nat → Prop) (o : Ro) (rb : Nat) (L : List Fm) (s : ByteArray) (ps : List Pt) (r : Except Rf (Nat × List Pt)) (e : Ending) (w' : World) : Prop :=
  Kept P w w' ∧ match r with
  | .ok x => e = .returned (.int .i64 (x.1 : Nat)) ∧ Rd w' P o rb L s (ps ++ x.2)
  | .error f => e = Stops f ∧ ∃ ps', Rd w' P o rb L s ps'
/-- Values of the first n formats are recognised. -/
def ValC (o : Ro) (rb : Nat) (L : List Fm) (s : ByteArray) (n : Nat) : Prop := ∀ (w : World) (P : Nat → Prop) (ps : List Pt) (id depth : Int) (i st l : Nat), Rd w P o rb L s ps → At L id i → i < n → 0 ≤ depth → depth + n ≤ 100 → st ≤ l → l ≤ s.size →
  Calls Tryz.prog 73 #[ptr rb, .int .i64 id, .int .i64 depth, .int .i64 st, .int .i64 l] w fun e w' => VPost w P o rb L s ps (val L s n id depth st l ps.length) e w'

section
variable {w : World} {P : Nat → Prop} {o : Ro} {rb vb : Nat} {L : List Fm} {s : ByteArray} {ps : List Pt} {v : Vl} {f : Fld} {a l st k : Nat}
set_option maxRecDepth 20000 in
set_option maxHeartbeats 4000000 in
theorem rd_inside (h : Rd w P o rb L s ps) (hv : VAt w vb v) (pv : P vb) (ok : VOk v) (hN : VNat v a l st k) (hl : l ≤ s.size) (q : Nat) (hq : f.frm = q) (hq16 : q < 16) (N : Nat) (hC : ValC o rb L s N) (i : Nat) (hi : At L f.n i) (hiN : i < N) (hdp : v.depth + 1 + N ≤ 100) :
    Calls Tryz.prog 71 #[ptr rb, ptr vb, fldV f] w fun e w' =>
      KPost w P o rb L s ps (short v.format k a l (told f v.nums) (boxed v.format k (a + told f v.nums) (val L s N f.n (v.depth + 1) a (a + told f v.nums) ps.length))) e w' := by
  have na := hN.a
  have nl := hN.l
  have b0 := ok.at0
  have b1 := ok.lim
  have b2 := ok.max
  have bd := ok.dep
  have bq := ok.num q hq16
  obtain ⟨n, hn⟩ : ∃ n : Int, v.nums.getD q 0 = n := ⟨_, rfl⟩
  rw [hn] at bq
  obtain ⟨T, hT⟩ : ∃ T, T = told f v.nums := ⟨_, rfl⟩
  have htl : (T : Int) = n := by rw [hT]; unfold told; rw [hq, show ((q : Int)).toNat = q from rfl, hn]; omega
  have lv := hv.blk.lt
  have cq : w.cell? ⟨vb, 6 + q, none⟩ = some (.int .i64 n) := by rw [hv.num hq16, hn]
  have HC : Hid (∀ W, Below w.heap.size w W → W.cell? ⟨vb, 6 + q, none⟩ = some (.int .i64 n)) := Lib.hid fun W hb => (hb.cell (p := ⟨vb, 6 + q, none⟩) lv).trans cq
  have HH := Lib.hid (And.intro h (And.intro hv (And.intro ok (And.intro hN pv))))
  have HV2 : Hid (∀ W, Below w.heap.size w W → VAt W vb v) := Lib.hid fun W hb => hv.keep (hb.block vb hv.blk.lt)
  have hin : (0 : Int) ≤ (q : Int) ∧ (q : Int) < 16 := by omega
  have hw1 : IntKind.i64.wrap (v.depth + 1) = v.depth + 1 := wr64 (by omega) (by omega)
  have HVC := Lib.hid (And.intro hC (And.intro hi (And.intro hiN hdp)))
  rw [← hT]
  obtain ⟨RR, hRR⟩ : ∃ RR, RR = short v.format k a l T (boxed v.format k (a + T) (val L s N f.n (v.depth + 1) a (a + T) ps.length)) := ⟨_, rfl⟩
  rw [← hRR]
  have HRR := Lib.hid hRR
  clear h hv ok hN cq hn hT hC hi hiN hdp pv hRR
  go_enter Tryz.func71, Tryz.ntmps71
  go_wp2_with fail
  have hB0 := bx (w := w) (.cells #[.int .i64 f.kind, .int .i64 f.n, .int .i64 (q : Int), .string f.text] 56)
  have c2 : (w.alloc (.cells #[.int .i64 f.kind, .int .i64 f.n, .int .i64 (q : Int), .string f.text] 56)).cell? ⟨w.heap.size, 2, none⟩ = some (.int .i64 (q : Int)) := cell_of_row _ _ 2 _ _ _ (heap_alloc_new w _)
  have c1 : (w.alloc (.cells #[.int .i64 f.kind, .int .i64 f.n, .int .i64 (q : Int), .string f.text] 56)).cell? ⟨w.heap.size, 1, none⟩ = some (.int .i64 f.n) := cell_of_row _ _ 1 _ _ _ (heap_alloc_new w _)
  have cq := HC.out _ hB0
  have HB0 := Lib.hid hB0
  clear hB0
  generalize w.alloc (.cells #[.int .i64 f.kind, .int .i64 f.n, .int .i64 (q : Int), .string f.text] 56) = W at *
  by_cases hfit : n ≤ v.limit - v.at_
  · have HCL : Hid (Calls Tryz.prog 94 #[ptr vb, .int .i64 n] W.drew fun e w' => e = .returned (.int .i64 (v.at_ + n)) ∧ ∃ m, w' = W.drew.drewN m) := Lib.hid (after_yes vb v n _ (HV2.out _ HB0.out.drew) HH.out.2.2.1 bq.1 bq.2 hfit)
    have hs : ¬ l < a + T := by omega
    have hTl : a + T ≤ s.size := by omega
    have HR1 : Hid (RR = boxed v.format k (a + T) (val L s N f.n (v.depth + 1) a (a + T) ps.length)) := Lib.hid (HRR.out.trans (short_yes hs))
    refine wp_region_T 8 (fun w' : World => ∃ n : Nat, w' = W.drewN n) (by kernel_rfl) ⟨1, rfl⟩ (fun hHeld => ?_)
    refine wpAnyT_take (i := 0) (oi := ?o1) (v := ?v1) ?h1 ?a1 ?b1 ?c1 ?d1 ?e1 ?f1 ?j1 ?q1 (Or.inl ⟨?g1, ?y1⟩) ?s1 ?r1
    case h1 => (simp only [List.getElem?_toArray, List.getElem?_cons_zero]; rfl)
    case a1 => kernel_rfl
    case b1 => kernel_rfl
    case c1 => kernel_rfl
    case d1 => kernel_rfl
    case e1 => kernel_rfl
    case f1 => kernel_rfl
    case j1 => kernel_rfl
    case q1 => exact fun _ _ _ h => h
    case g1 => rfl
    case y1 => (intro wS hSw; obtain ⟨nS, rfl⟩ := hSw; go_simp; (try with_reducible rfl))
    case s1 => assumption
    (try simp only [Act.put, List.setIfInBounds_toArray, List.set_cons_zero, List.set_cons_succ])
    refine wpAnyT_take (i := 1) (oi := ?o2) (v := ?v2) ?h2 ?a2 ?b2 ?c2 ?d2 ?e2 ?f2 ?j2 ?q2 (Or.inl ⟨?g2, ?y2⟩) ?s2 ?r2
    case h2 => (simp only [List.getElem?_toArray, List.getElem?_cons_zero, List.getElem?_cons_succ]; rfl)
    case a2 => kernel_rfl
    case b2 => kernel_rfl
    case c2 => kernel_rfl
    case d2 => kernel_rfl
    case e2 => kernel_rfl
    case f2 => kernel_rfl
    case j2 => kernel_rfl
    case q2 => exact fun _ _ _ h => h
    case g2 => rfl
    case y2 => (intro wS hSw; obtain ⟨nS, rfl⟩ := hSw; go_simp; (try with_reducible rfl))
    case s2 => assumption
    (try simp only [Act.put, List.setIfInBounds_toArray, List.set_cons_zero, List.set_cons_succ])
    refine wpAnyT_take (i := 2) (oi := ?o3) (v := ?v3) ?h3 ?a3 ?b3 ?c3 ?d3 ?e3 ?f3 ?j3 ?q3 (Or.inl ⟨?g3, ?y3⟩) ?s3 ?r3
    case h3 => (simp only [List.getElem?_toArray, List.getElem?_cons_zero, List.getElem?_cons_succ]; rfl)
    case a3 => kernel_rfl
    case b3 => kernel_rfl
    case c3 => kernel_rfl
    case d3 => kernel_rfl
    case e3 => kernel_rfl
    case f3 => kernel_rfl
    case j3 => kernel_rfl
    case q3 => exact fun _ _ _ h => h
    case g3 => rfl
    case y3 => (intro wS hSw; obtain ⟨nS, rfl⟩ := hSw; go_simp; (try with_reducible rfl))
    case s3 => assumption
    (try simp only [Act.put, List.setIfInBounds_toArray, List.set_cons_zero, List.set_cons_succ])
    refine wpAnyT_take (i := 3) (oi := ?o4) (v := ?v4) ?h4 ?a4 ?b4 ?c4 ?d4 ?e4 ?f4 ?j4 ?q4 (Or.inl ⟨?g4, ?y4⟩) ?s4 ?r4
    case h4 => (simp only [List.getElem?_toArray, List.getElem?_cons_zero, List.getElem?_cons_succ]; rfl)
    case a4 => kernel_rfl
    case b4 => kernel_rfl
    case c4 => kernel_rfl
    case d4 => kernel_rfl
    case e4 => kernel_rfl
    case f4 => kernel_rfl
    case j4 => kernel_rfl
    case q4 => exact fun _ _ _ h => h
    case g4 => rfl
    case y4 => (intro wS hSw; obtain ⟨nS, rfl⟩ := hSw; go_simp; (try with_reducible rfl))
    case s4 => assumption
    (try simp only [Act.put, List.setIfInBounds_toArray, List.set_cons_zero, List.set_cons_succ])
    refine wpAnyT_take (i := 4) (oi := ?o5) (v := ?v5) ?h5 ?a5 ?b5 ?c5 ?d5 ?e5 ?f5 ?j5 ?q5 (Or.inl ⟨?g5, ?y5⟩) ?s5 ?r5
    case h5 => (simp only [List.getElem?_toArray, List.getElem?_cons_zero, List.getElem?_cons_succ]; rfl)
    case a5 => kernel_rfl
    case b5 => kernel_rfl
    case c5 => kernel_rfl
    case d5 => kernel_rfl
    case e5 => kernel_rfl
    case f5 => kernel_rfl
    case j5 => kernel_rfl
    case q5 => exact fun _ _ _ h => h
    case g5 => rfl
    case y5 => (intro wS hSw; obtain ⟨nS, rfl⟩ := hSw; go_simp; (try with_reducible rfl))
    case s5 => assumption
    (try simp only [Act.put, List.setIfInBounds_toArray, List.set_cons_zero, List.set_cons_succ])
    refine wpAnyT_take (i := 5) (oi := ?o6) (v := ?v6) ?h6 ?a6 ?b6 ?c6 ?d6 ?e6 ?f6 ?j6 ?q6 (Or.inl ⟨?g6, ?y6⟩) ?s6 ?r6
    case h6 => (simp only [List.getElem?_toArray, List.getElem?_cons_zero, List.getElem?_cons_succ]; rfl)
    case a6 => kernel_rfl
    case b6 => kernel_rfl
    case c6 => kernel_rfl
    case d6 => kernel_rfl
    case e6 => kernel_rfl
    case f6 => kernel_rfl
    case j6 => kernel_rfl
    case q6 => exact fun _ _ _ h => h
    case g6 => rfl
    case y6 => (intro wS hSw; obtain ⟨nS, rfl⟩ := hSw; go_simp; (try with_reducible rfl))
    case s6 => assumption
    (try simp only [Act.put, List.setIfInBounds_toArray, List.set_cons_zero, List.set_cons_succ])
    refine wpAnyT_take (i := 6) (oi := ?o7) (v := ?v7) ?h7 ?a7 ?b7 ?c7 ?d7 ?e7 ?f7 ?j7 ?q7 (Or.inl ⟨?g7, ?y7⟩) ?s7 ?r7
    case h7 => (simp only [List.getElem?_toArray, List.getElem?_cons_zero, List.getElem?_cons_succ]; rfl)
    case a7 => kernel_rfl
    case b7 => kernel_rfl
    case c7 => kernel_rfl
    case d7 => kernel_rfl
    case e7 => kernel_rfl
    case f7 => kernel_rfl
    case j7 => kernel_rfl
    case q7 => exact fun _ _ _ h => h
    case g7 => rfl
    case y7 => (intro wS hSw; obtain ⟨nS, rfl⟩ := hSw; go_simp; (try with_reducible rfl))
    case s7 => assumption
    (try simp only [Act.put, List.setIfInBounds_toArray, List.set_cons_zero, List.set_cons_succ])
    refine wpAnyT_take (i := 7) (oi := ?o8) (v := ?v8) ?h8 ?a8 ?b8 ?c8 ?d8 ?e8 ?f8 ?j8 ?q8 (Or.inl ⟨?g8, ?y8⟩) ?s8 ?r8
    case h8 => (simp only [List.getElem?_toArray, List.getElem?_cons_zero, List.getElem?_cons_succ]; rfl)
    case a8 => kernel_rfl
    case b8 => kernel_rfl
    case c8 => kernel_rfl
    case d8 => kernel_rfl
    case e8 => kernel_rfl
    case f8 => kernel_rfl
    case j8 => kernel_rfl
    case q8 => exact fun _ _ _ h => h
    case g8 => rfl
    case y8 => (intro wS hSw; obtain ⟨nS, rfl⟩ := hSw; go_simp; (try with_reducible rfl))
    case s8 => assumption
    (try simp only [Act.put, List.setIfInBounds_toArray, List.set_cons_zero, List.set_cons_succ])
    refine wpAnyT_ready (rs := [8]) (by kernel_rfl) (by simp) ?_
    refine AllReadyT.cons (o := ?oB9) ?hB9 ?kB9 AllReadyT.nil
    case hB9 => (simp only [List.getElem?_toArray, List.getElem?_cons_zero, List.getElem?_cons_succ]; rfl)
    case kB9 =>
      intro K hK
      go_simp
      refine HCL.out.mono ?_
      rintro e w6 ⟨rfl, m6, hw6⟩
      refine hK.out _ _ (no_more (by kernel_rfl)) ?_
      clear hK K
      (try simp only [Act.put, List.setIfInBounds_toArray, List.set_cons_zero, List.set_cons_succ])
      refine wpAnyT_any (i := 9) (oi := ?o10) (v := ?v10) ?h10 ?a10 ?b10 ?c10 ?d10 ?e10 ?j10 ?q10 (Or.inl ⟨?g10, ?y10⟩) ?s10 ?r10
      case h10 => (simp only [List.getElem?_toArray, List.getElem?_cons_zero, List.getElem?_cons_succ]; rfl)
      case a10 => kernel_rfl
      case b10 => kernel_rfl
      case c10 => kernel_rfl
      case d10 => kernel_rfl
      case e10 => kernel_rfl
      case j10 => kernel_rfl
      case q10 => exact fun _ _ _ h => h
      case g10 => rfl
      case y10 => (intro wS _; go_simp; (try with_reducible rfl))
      case s10 => exact no_more (by kernel_rfl)
      (try simp only [Act.put, List.setIfInBounds_toArray, List.set_cons_zero, List.set_cons_succ])
      refine wpAnyT_done (by kernel_rfl) ?_ _
      go_wp2_with fail
      have hB6 : Below w.heap.size w w6 := by rw [hw6]; exact HB0.out.trans ((drew2_below W m6).mono HB0.out.size)
      have c1' : w6.cell? ⟨w.heap.size, 1, none⟩ = some (.int .i64 f.n) := by rw [hw6]; exact c1
      obtain ⟨d0, d1, d2, -, d4, -⟩ := (HV2.out _ hB6).cells
      have hr6 := HH.out.1.below hB6
      have HVC6 : Hid (Calls Tryz.prog 73 #[ptr rb, .int .i64 f.n, .int .i64 (v.depth + 1), .int .i64 (a : Int), .int .i64 ((a : Int) + n)] w6.drew fun e w' => VPost w6.drew P o rb L s ps (val L s N f.n (v.depth + 1) a (a + T) ps.length) e w') := Lib.hid (by
        have := HVC.out.1 w6.drew P ps f.n (v.depth + 1) i a (a + T) (hr6.keptN 1) HVC.out.2.1 HVC.out.2.2.1 (by omega) HVC.out.2.2.2 (by omega) hTl
        rwa [show (((a + T : Nat)) : Int) = (a : Int) + n by omega] at this)
      have HB6 := Lib.hid hB6
      clear hw6 hB6 cq c1 c2 hr6
      cases hsub : val L s N f.n (v.depth + 1) a (a + T) ps.length with
      | error rf =>
        have HV : Hid (Calls Tryz.prog 73 #[ptr rb, .int .i64 f.n, .int .i64 (v.depth + 1), .int .i64 (a : Int), .int .i64 ((a : Int) + n)] w6.drew fun e w' => Kept P w6.drew w' ∧ e = Stops rf ∧ ∃ ps', Rd w' P o rb L s ps') := Lib.hid (by have := HVC6.out; rw [hsub] at this; exact this)
        have HNO : Hid (∀ w', Kept P w6.drew w' → (∃ ps', Rd w' P o rb L s ps') → KPost w P o rb L s ps RR (Stops rf) w') := Lib.hid fun w' hk hr => by
          obtain ⟨ps', hr⟩ := hr
          exact KPost.no_ (by rw [HR1.out, hsub]; rfl) ((Kept.of_below HB6.out.drew HH.out.1.1.pin).trans hk) hr
        clear hsub HVC6
        refine wp_region_T 13 (fun w' : World => ∃ n : Nat, w' = w6.drewN n) (by kernel_rfl) ⟨1, rfl⟩ (fun hHeld => ?_)
        refine wpAnyT_take (i := 0) (oi := ?o11) (v := ?v11) ?h11 ?a11 ?b11 ?c11 ?d11 ?e11 ?f11 ?j11 ?q11 (Or.inl ⟨?g11, ?y11⟩) ?s11 ?r11
        case h11 => (simp only [List.getElem?_toArray, List.getElem?_cons_zero]; rfl)
        case a11 => kernel_rfl
        case b11 => kernel_rfl
        case c11 => kernel_rfl
        case d11 => kernel_rfl
        case e11 => kernel_rfl
        case f11 => kernel_rfl
        case j11 => kernel_rfl
        case q11 => exact fun _ _ _ h => h
        case g11 => rfl
        case y11 => (intro wS hSw; obtain ⟨nS, rfl⟩ := hSw; go_simp; (try with_reducible rfl))
        case s11 => assumption
        (try simp only [Act.put, List.setIfInBounds_toArray, List.set_cons_zero, List.set_cons_succ])
        refine wpAnyT_take (i := 1) (oi := ?o12) (v := ?v12) ?h12 ?a12 ?b12 ?c12 ?d12 ?e12 ?f12 ?j12 ?q12 (Or.inl ⟨?g12, ?y12⟩) ?s12 ?r12
        case h12 => (simp only [List.getElem?_toArray, List.getElem?_cons_zero, List.getElem?_cons_succ]; rfl)
        case a12 => kernel_rfl
        case b12 => kernel_rfl
        case c12 => kernel_rfl
        case d12 => kernel_rfl
        case e12 => kernel_rfl
        case f12 => kernel_rfl
        case j12 => kernel_rfl
        case q12 => exact fun _ _ _ h => h
        case g12 => rfl
        case y12 => (intro wS hSw; obtain ⟨nS, rfl⟩ := hSw; go_simp; (try with_reducible rfl))
        case s12 => assumption
        (try simp only [Act.put, List.setIfInBounds_toArray, List.set_cons_zero, List.set_cons_succ])
        refine wpAnyT_take (i := 2) (oi := ?o13) (v := ?v13) ?h13 ?a13 ?b13 ?c13 ?d13 ?e13 ?f13 ?j13 ?q13 (Or.inl ⟨?g13, ?y13⟩) ?s13 ?r13
        case h13 => (simp only [List.getElem?_toArray, List.getElem?_cons_zero, List.getElem?_cons_succ]; rfl)
        case a13 => kernel_rfl
        case b13 => kernel_rfl
        case c13 => kernel_rfl
        case d13 => kernel_rfl
        case e13 => kernel_rfl
        case f13 => kernel_rfl
        case j13 => kernel_rfl
        case q13 => exact fun _ _ _ h => h
        case g13 => rfl
        case y13 => (intro wS hSw; obtain ⟨nS, rfl⟩ := hSw; go_simp; (try with_reducible rfl))
        case s13 => assumption
        (try simp only [Act.put, List.setIfInBounds_toArray, List.set_cons_zero, List.set_cons_succ])
        refine wpAnyT_take (i := 3) (oi := ?o14) (v := ?v14) ?h14 ?a14 ?b14 ?c14 ?d14 ?e14 ?f14 ?j14 ?q14 (Or.inl ⟨?g14, ?y14⟩) ?s14 ?r14
        case h14 => (simp only [List.getElem?_toArray, List.getElem?_cons_zero, List.getElem?_cons_succ]; rfl)
        case a14 => kernel_rfl
        case b14 => kernel_rfl
        case c14 => kernel_rfl
        case d14 => kernel_rfl
        case e14 => kernel_rfl
        case f14 => kernel_rfl
        case j14 => kernel_rfl
        case q14 => exact fun _ _ _ h => h
        case g14 => rfl
        case y14 => (intro wS hSw; obtain ⟨nS, rfl⟩ := hSw; go_simp; (try with_reducible rfl))
        case s14 => assumption
        (try simp only [Act.put, List.setIfInBounds_toArray, List.set_cons_zero, List.set_cons_succ])
        refine wpAnyT_take (i := 4) (oi := ?o15) (v := ?v15) ?h15 ?a15 ?b15 ?c15 ?d15 ?e15 ?f15 ?j15 ?q15 (Or.inl ⟨?g15, ?y15⟩) ?s15 ?r15
        case h15 => (simp only [List.getElem?_toArray, List.getElem?_cons_zero, List.getElem?_cons_succ]; rfl)
        case a15 => kernel_rfl
        case b15 => kernel_rfl
        case c15 => kernel_rfl
        case d15 => kernel_rfl
        case e15 => kernel_rfl
        case f15 => kernel_rfl
        case j15 => kernel_rfl
        case q15 => exact fun _ _ _ h => h
        case g15 => rfl
        case y15 => (intro wS hSw; obtain ⟨nS, rfl⟩ := hSw; go_simp; (try with_reducible rfl))
        case s15 => assumption
        (try simp only [Act.put, List.setIfInBounds_toArray, List.set_cons_zero, List.set_cons_succ])
        refine wpAnyT_take (i := 5) (oi := ?o16) (v := ?v16) ?h16 ?a16 ?b16 ?c16 ?d16 ?e16 ?f16 ?j16 ?q16 (Or.inl ⟨?g16, ?y16⟩) ?s16 ?r16
        case h16 => (simp only [List.getElem?_toArray, List.getElem?_cons_zero, List.getElem?_cons_succ]; rfl)
        case a16 => kernel_rfl
        case b16 => kernel_rfl
        case c16 => kernel_rfl
        case d16 => kernel_rfl
        case e16 => kernel_rfl
        case f16 => kernel_rfl
        case j16 => kernel_rfl
        case q16 => exact fun _ _ _ h => h
        case g16 => rfl
        case y16 => (intro wS hSw; obtain ⟨nS, rfl⟩ := hSw; go_simp; (try with_reducible rfl))
        case s16 => assumption
        (try simp only [Act.put, List.setIfInBounds_toArray, List.set_cons_zero, List.set_cons_succ])
        refine wpAnyT_take (i := 6) (oi := ?o17) (v := ?v17) ?h17 ?a17 ?b17 ?c17 ?d17 ?e17 ?f17 ?j17 ?q17 (Or.inl ⟨?g17, ?y17⟩) ?s17 ?r17
        case h17 => (simp only [List.getElem?_toArray, List.getElem?_cons_zero, List.getElem?_cons_succ]; rfl)
        case a17 => kernel_rfl
        case b17 => kernel_rfl
        case c17 => kernel_rfl
        case d17 => kernel_rfl
        case e17 => kernel_rfl
        case f17 => kernel_rfl
        case j17 => kernel_rfl
        case q17 => exact fun _ _ _ h => h
        case g17 => rfl
        case y17 => (intro wS hSw; obtain ⟨nS, rfl⟩ := hSw; go_simp; (try with_reducible rfl))
        case s17 => assumption
        (try simp only [Act.put, List.setIfInBounds_toArray, List.set_cons_zero, List.set_cons_succ])
        refine wpAnyT_take (i := 7) (oi := ?o18) (v := ?v18) ?h18 ?a18 ?b18 ?c18 ?d18 ?e18 ?f18 ?j18 ?q18 (Or.inl ⟨?g18, ?y18⟩) ?s18 ?r18
        case h18 => (simp only [List.getElem?_toArray, List.getElem?_cons_zero, List.getElem?_cons_succ]; rfl)
        case a18 => kernel_rfl
        case b18 => kernel_rfl
        case c18 => kernel_rfl
        case d18 => kernel_rfl
        case e18 => kernel_rfl
        case f18 => kernel_rfl
        case j18 => kernel_rfl
        case q18 => exact fun _ _ _ h => h
        case g18 => rfl
        case y18 => (intro wS hSw; obtain ⟨nS, rfl⟩ := hSw; go_simp; (try with_reducible rfl))
        case s18 => assumption
        (try simp only [Act.put, List.setIfInBounds_toArray, List.set_cons_zero, List.set_cons_succ])
        refine wpAnyT_take (i := 8) (oi := ?o19) (v := ?v19) ?h19 ?a19 ?b19 ?c19 ?d19 ?e19 ?f19 ?j19 ?q19 (Or.inl ⟨?g19, ?y19⟩) ?s19 ?r19
        case h19 => (simp only [List.getElem?_toArray, List.getElem?_cons_zero, List.getElem?_cons_succ]; rfl)
        case a19 => kernel_rfl
        case b19 => kernel_rfl
        case c19 => kernel_rfl
        case d19 => kernel_rfl
        case e19 => kernel_rfl
        case f19 => kernel_rfl
        case j19 => kernel_rfl
        case q19 => exact fun _ _ _ h => h
        case g19 => rfl
        case y19 => (intro wS hSw; obtain ⟨nS, rfl⟩ := hSw; go_simp; (try with_reducible rfl))
        case s19 => assumption
        (try simp only [Act.put, List.setIfInBounds_toArray, List.set_cons_zero, List.set_cons_succ])
        refine wpAnyT_take (i := 9) (oi := ?o20) (v := ?v20) ?h20 ?a20 ?b20 ?c20 ?d20 ?e20 ?f20 ?j20 ?q20 (Or.inl ⟨?g20, ?y20⟩) ?s20 ?r20
        case h20 => (simp only [List.getElem?_toArray, List.getElem?_cons_zero, List.getElem?_cons_succ]; rfl)
        case a20 => kernel_rfl
        case b20 => kernel_rfl
        case c20 => kernel_rfl
        case d20 => kernel_rfl
        case e20 => kernel_rfl
        case f20 => kernel_rfl
        case j20 => kernel_rfl
        case q20 => exact fun _ _ _ h => h
        case g20 => rfl
        case y20 => (intro wS hSw; obtain ⟨nS, rfl⟩ := hSw; go_simp; (try with_reducible rfl))
        case s20 => assumption
        (try simp only [Act.put, List.setIfInBounds_toArray, List.set_cons_zero, List.set_cons_succ])
        refine wpAnyT_take (i := 10) (oi := ?o21) (v := ?v21) ?h21 ?a21 ?b21 ?c21 ?d21 ?e21 ?f21 ?j21 ?q21 (Or.inl ⟨?g21, ?y21⟩) ?s21 ?r21
        case h21 => (simp only [List.getElem?_toArray, List.getElem?_cons_zero, List.getElem?_cons_succ]; rfl)
        case a21 => kernel_rfl
        case b21 => kernel_rfl
        case c21 => kernel_rfl
        case d21 => kernel_rfl
        case e21 => kernel_rfl
        case f21 => kernel_rfl
        case j21 => kernel_rfl
        case q21 => exact fun _ _ _ h => h
        case g21 => rfl
        case y21 => (intro wS hSw; obtain ⟨nS, rfl⟩ := hSw; go_simp; (try with_reducible rfl))
        case s21 => assumption
        (try simp only [Act.put, List.setIfInBounds_toArray, List.set_cons_zero, List.set_cons_succ])
        refine wpAnyT_take (i := 11) (oi := ?o22) (v := ?v22) ?h22 ?a22 ?b22 ?c22 ?d22 ?e22 ?f22 ?j22 ?q22 (Or.inl ⟨?g22, ?y22⟩) ?s22 ?r22
        case h22 => (simp only [List.getElem?_toArray, List.getElem?_cons_zero, List.getElem?_cons_succ]; rfl)
        case a22 => kernel_rfl
        case b22 => kernel_rfl
        case c22 => kernel_rfl
        case d22 => kernel_rfl
        case e22 => kernel_rfl
        case f22 => kernel_rfl
        case j22 => kernel_rfl
        case q22 => exact fun _ _ _ h => h
        case g22 => rfl
        case y22 => (intro wS hSw; obtain ⟨nS, rfl⟩ := hSw; go_simp; (try with_reducible rfl))
        case s22 => assumption
        (try simp only [Act.put, List.setIfInBounds_toArray, List.set_cons_zero, List.set_cons_succ])
        refine wpAnyT_take (i := 12) (oi := ?o23) (v := ?v23) ?h23 ?a23 ?b23 ?c23 ?d23 ?e23 ?f23 ?j23 ?q23 (Or.inl ⟨?g23, ?y23⟩) ?s23 ?r23
        case h23 => (simp only [List.getElem?_toArray, List.getElem?_cons_zero, List.getElem?_cons_succ]; rfl)
        case a23 => kernel_rfl
        case b23 => kernel_rfl
        case c23 => kernel_rfl
        case d23 => kernel_rfl
        case e23 => kernel_rfl
        case f23 => kernel_rfl
        case j23 => kernel_rfl
        case q23 => exact fun _ _ _ h => h
        case g23 => rfl
        case y23 => (intro wS hSw; obtain ⟨nS, rfl⟩ := hSw; go_simp; (try with_reducible rfl))
        case s23 => assumption
        (try simp only [Act.put, List.setIfInBounds_toArray, List.set_cons_zero, List.set_cons_succ])
        refine wpAnyT_ready (rs := [13]) (by kernel_rfl) (by simp) ?_
        refine AllReadyT.cons (o := ?oB24) ?hB24 ?kB24 AllReadyT.nil
        case hB24 => (simp only [List.getElem?_toArray, List.getElem?_cons_zero, List.getElem?_cons_succ]; rfl)
        case kB24 =>
          intro K hK
          go_simp
          refine HV.out.mono ?_
          rintro e w7 ⟨hk7, rfl, hr7⟩
          exact ⟨rfl, HNO.out _ hk7 hr7⟩
      | ok x =>
        obtain ⟨E, qs⟩ := x
        have HV : Hid (Calls Tryz.prog 73 #[ptr rb, .int .i64 f.n, .int .i64 (v.depth + 1), .int .i64 (a : Int), .int .i64 ((a : Int) + n)] w6.drew fun e w' => Kept P w6.drew w' ∧ e = .returned (.int .i64 (E : Nat)) ∧ Rd w' P o rb L s (ps ++ qs)) := Lib.hid (by have := HVC6.out; rw [hsub] at this; exact this)
        have hE := val_in L s N _ _ _ _ _ _ _ hsub (by omega)
        have HR2 : Hid (RR = boxed v.format k (a + T) (.ok (E, qs))) := Lib.hid (by rw [HR1.out, hsub])
        clear hsub HVC6
        refine wp_region_T 13 (fun w' : World => ∃ n : Nat, w' = w6.drewN n) (by kernel_rfl) ⟨1, rfl⟩ (fun hHeld => ?_)
        refine wpAnyT_take (i := 0) (oi := ?o25) (v := ?v25) ?h25 ?a25 ?b25 ?c25 ?d25 ?e25 ?f25 ?j25 ?q25 (Or.inl ⟨?g25, ?y25⟩) ?s25 ?r25
        case h25 => (simp only [List.getElem?_toArray, List.getElem?_cons_zero]; rfl)
        case a25 => kernel_rfl
        case b25 => kernel_rfl
        case c25 => kernel_rfl
        case d25 => kernel_rfl
        case e25 => kernel_rfl
        case f25 => kernel_rfl
        case j25 => kernel_rfl
        case q25 => exact fun _ _ _ h => h
        case g25 => rfl
        case y25 => (intro wS hSw; obtain ⟨nS, rfl⟩ := hSw; go_simp; (try with_reducible rfl))
        case s25 => assumption
        (try simp only [Act.put, List.setIfInBounds_toArray, List.set_cons_zero, List.set_cons_succ])
        refine wpAnyT_take (i := 1) (oi := ?o26) (v := ?v26) ?h26 ?a26 ?b26 ?c26 ?d26 ?e26 ?f26 ?j26 ?q26 (Or.inl ⟨?g26, ?y26⟩) ?s26 ?r26
        case h26 => (simp only [List.getElem?_toArray, List.getElem?_cons_zero, List.getElem?_cons_succ]; rfl)
        case a26 => kernel_rfl
        case b26 => kernel_rfl
        case c26 => kernel_rfl
        case d26 => kernel_rfl
        case e26 => kernel_rfl
        case f26 => kernel_rfl
        case j26 => kernel_rfl
        case q26 => exact fun _ _ _ h => h
        case g26 => rfl
        case y26 => (intro wS hSw; obtain ⟨nS, rfl⟩ := hSw; go_simp; (try with_reducible rfl))
        case s26 => assumption
        (try simp only [Act.put, List.setIfInBounds_toArray, List.set_cons_zero, List.set_cons_succ])
        refine wpAnyT_take (i := 2) (oi := ?o27) (v := ?v27) ?h27 ?a27 ?b27 ?c27 ?d27 ?e27 ?f27 ?j27 ?q27 (Or.inl ⟨?g27, ?y27⟩) ?s27 ?r27
        case h27 => (simp only [List.getElem?_toArray, List.getElem?_cons_zero, List.getElem?_cons_succ]; rfl)
        case a27 => kernel_rfl
        case b27 => kernel_rfl
        case c27 => kernel_rfl
        case d27 => kernel_rfl
        case e27 => kernel_rfl
        case f27 => kernel_rfl
        case j27 => kernel_rfl
        case q27 => exact fun _ _ _ h => h
        case g27 => rfl
        case y27 => (intro wS hSw; obtain ⟨nS, rfl⟩ := hSw; go_simp; (try with_reducible rfl))
        case s27 => assumption
        (try simp only [Act.put, List.setIfInBounds_toArray, List.set_cons_zero, List.set_cons_succ])
        refine wpAnyT_take (i := 3) (oi := ?o28) (v := ?v28) ?h28 ?a28 ?b28 ?c28 ?d28 ?e28 ?f28 ?j28 ?q28 (Or.inl ⟨?g28, ?y28⟩) ?s28 ?r28
        case h28 => (simp only [List.getElem?_toArray, List.getElem?_cons_zero, List.getElem?_cons_succ]; rfl)
        case a28 => kernel_rfl
        case b28 => kernel_rfl
        case c28 => kernel_rfl
        case d28 => kernel_rfl
        case e28 => kernel_rfl
        case f28 => kernel_rfl
        case j28 => kernel_rfl
        case q28 => exact fun _ _ _ h => h
        case g28 => rfl
        case y28 => (intro wS hSw; obtain ⟨nS, rfl⟩ := hSw; go_simp; (try with_reducible rfl))
        case s28 => assumption
        (try simp only [Act.put, List.setIfInBounds_toArray, List.set_cons_zero, List.set_cons_succ])
        refine wpAnyT_take (i := 4) (oi := ?o29) (v := ?v29) ?h29 ?a29 ?b29 ?c29 ?d29 ?e29 ?f29 ?j29 ?q29 (Or.inl ⟨?g29, ?y29⟩) ?s29 ?r29
        case h29 => (simp only [List.getElem?_toArray, List.getElem?_cons_zero, List.getElem?_cons_succ]; rfl)
        case a29 => kernel_rfl
        case b29 => kernel_rfl
        case c29 => kernel_rfl
        case d29 => kernel_rfl
        case e29 => kernel_rfl
        case f29 => kernel_rfl
        case j29 => kernel_rfl
        case q29 => exact fun _ _ _ h => h
        case g29 => rfl
        case y29 => (intro wS hSw; obtain ⟨nS, rfl⟩ := hSw; go_simp; (try with_reducible rfl))
        case s29 => assumption
        (try simp only [Act.put, List.setIfInBounds_toArray, List.set_cons_zero, List.set_cons_succ])
        refine wpAnyT_take (i := 5) (oi := ?o30) (v := ?v30) ?h30 ?a30 ?b30 ?c30 ?d30 ?e30 ?f30 ?j30 ?q30 (Or.inl ⟨?g30, ?y30⟩) ?s30 ?r30
        case h30 => (simp only [List.getElem?_toArray, List.getElem?_cons_zero, List.getElem?_cons_succ]; rfl)
        case a30 => kernel_rfl
        case b30 => kernel_rfl
        case c30 => kernel_rfl
        case d30 => kernel_rfl
        case e30 => kernel_rfl
        case f30 => kernel_rfl
        case j30 => kernel_rfl
        case q30 => exact fun _ _ _ h => h
        case g30 => rfl
        case y30 => (intro wS hSw; obtain ⟨nS, rfl⟩ := hSw; go_simp; (try with_reducible rfl))
        case s30 => assumption
        (try simp only [Act.put, List.setIfInBounds_toArray, List.set_cons_zero, List.set_cons_succ])
        refine wpAnyT_take (i := 6) (oi := ?o31) (v := ?v31) ?h31 ?a31 ?b31 ?c31 ?d31 ?e31 ?f31 ?j31 ?q31 (Or.inl ⟨?g31, ?y31⟩) ?s31 ?r31
        case h31 => (simp only [List.getElem?_toArray, List.getElem?_cons_zero, List.getElem?_cons_succ]; rfl)
        case a31 => kernel_rfl
        case b31 => kernel_rfl
        case c31 => kernel_rfl
        case d31 => kernel_rfl
        case e31 => kernel_rfl
        case f31 => kernel_rfl
        case j31 => kernel_rfl
        case q31 => exact fun _ _ _ h => h
        case g31 => rfl
        case y31 => (intro wS hSw; obtain ⟨nS, rfl⟩ := hSw; go_simp; (try with_reducible rfl))
        case s31 => assumption
        (try simp only [Act.put, List.setIfInBounds_toArray, List.set_cons_zero, List.set_cons_succ])
        refine wpAnyT_take (i := 7) (oi := ?o32) (v := ?v32) ?h32 ?a32 ?b32 ?c32 ?d32 ?e32 ?f32 ?j32 ?q32 (Or.inl ⟨?g32, ?y32⟩) ?s32 ?r32
        case h32 => (simp only [List.getElem?_toArray, List.getElem?_cons_zero, List.getElem?_cons_succ]; rfl)
        case a32 => kernel_rfl
        case b32 => kernel_rfl
        case c32 => kernel_rfl
        case d32 => kernel_rfl
        case e32 => kernel_rfl
        case f32 => kernel_rfl
        case j32 => kernel_rfl
        case q32 => exact fun _ _ _ h => h
        case g32 => rfl
        case y32 => (intro wS hSw; obtain ⟨nS, rfl⟩ := hSw; go_simp; (try with_reducible rfl))
        case s32 => assumption
        (try simp only [Act.put, List.setIfInBounds_toArray, List.set_cons_zero, List.set_cons_succ])
        refine wpAnyT_take (i := 8) (oi := ?o33) (v := ?v33) ?h33 ?a33 ?b33 ?c33 ?d33 ?e33 ?f33 ?j33 ?q33 (Or.inl ⟨?g33, ?y33⟩) ?s33 ?r33
        case h33 => (simp only [List.getElem?_toArray, List.getElem?_cons_zero, List.getElem?_cons_succ]; rfl)
        case a33 => kernel_rfl
        case b33 => kernel_rfl
        case c33 => kernel_rfl
        case d33 => kernel_rfl
        case e33 => kernel_rfl
        case f33 => kernel_rfl
        case j33 => kernel_rfl
        case q33 => exact fun _ _ _ h => h
        case g33 => rfl
        case y33 => (intro wS hSw; obtain ⟨nS, rfl⟩ := hSw; go_simp; (try with_reducible rfl))
        case s33 => assumption
        (try simp only [Act.put, List.setIfInBounds_toArray, List.set_cons_zero, List.set_cons_succ])
        refine wpAnyT_take (i := 9) (oi := ?o34) (v := ?v34) ?h34 ?a34 ?b34 ?c34 ?d34 ?e34 ?f34 ?j34 ?q34 (Or.inl ⟨?g34, ?y34⟩) ?s34 ?r34
        case h34 => (simp only [List.getElem?_toArray, List.getElem?_cons_zero, List.getElem?_cons_succ]; rfl)
        case a34 => kernel_rfl
        case b34 => kernel_rfl
        case c34 => kernel_rfl
        case d34 => kernel_rfl
        case e34 => kernel_rfl
        case f34 => kernel_rfl
        case j34 => kernel_rfl
        case q34 => exact fun _ _ _ h => h
        case g34 => rfl
        case y34 => (intro wS hSw; obtain ⟨nS, rfl⟩ := hSw; go_simp; (try with_reducible rfl))
        case s34 => assumption
        (try simp only [Act.put, List.setIfInBounds_toArray, List.set_cons_zero, List.set_cons_succ])
        refine wpAnyT_take (i := 10) (oi := ?o35) (v := ?v35) ?h35 ?a35 ?b35 ?c35 ?d35 ?e35 ?f35 ?j35 ?q35 (Or.inl ⟨?g35, ?y35⟩) ?s35 ?r35
        case h35 => (simp only [List.getElem?_toArray, List.getElem?_cons_zero, List.getElem?_cons_succ]; rfl)
        case a35 => kernel_rfl
        case b35 => kernel_rfl
        case c35 => kernel_rfl
        case d35 => kernel_rfl
        case e35 => kernel_rfl
        case f35 => kernel_rfl
        case j35 => kernel_rfl
        case q35 => exact fun _ _ _ h => h
        case g35 => rfl
        case y35 => (intro wS hSw; obtain ⟨nS, rfl⟩ := hSw; go_simp; (try with_reducible rfl))
        case s35 => assumption
        (try simp only [Act.put, List.setIfInBounds_toArray, List.set_cons_zero, List.set_cons_succ])
        refine wpAnyT_take (i := 11) (oi := ?o36) (v := ?v36) ?h36 ?a36 ?b36 ?c36 ?d36 ?e36 ?f36 ?j36 ?q36 (Or.inl ⟨?g36, ?y36⟩) ?s36 ?r36
        case h36 => (simp only [List.getElem?_toArray, List.getElem?_cons_zero, List.getElem?_cons_succ]; rfl)
        case a36 => kernel_rfl
        case b36 => kernel_rfl
        case c36 => kernel_rfl
        case d36 => kernel_rfl
        case e36 => kernel_rfl
        case f36 => kernel_rfl
        case j36 => kernel_rfl
        case q36 => exact fun _ _ _ h => h
        case g36 => rfl
        case y36 => (intro wS hSw; obtain ⟨nS, rfl⟩ := hSw; go_simp; (try with_reducible rfl))
        case s36 => assumption
        (try simp only [Act.put, List.setIfInBounds_toArray, List.set_cons_zero, List.set_cons_succ])
        refine wpAnyT_take (i := 12) (oi := ?o37) (v := ?v37) ?h37 ?a37 ?b37 ?c37 ?d37 ?e37 ?f37 ?j37 ?q37 (Or.inl ⟨?g37, ?y37⟩) ?s37 ?r37
        case h37 => (simp only [List.getElem?_toArray, List.getElem?_cons_zero, List.getElem?_cons_succ]; rfl)
        case a37 => kernel_rfl
        case b37 => kernel_rfl
        case c37 => kernel_rfl
        case d37 => kernel_rfl
        case e37 => kernel_rfl
        case f37 => kernel_rfl
        case j37 => kernel_rfl
        case q37 => exact fun _ _ _ h => h
        case g37 => rfl
        case y37 => (intro wS hSw; obtain ⟨nS, rfl⟩ := hSw; go_simp; (try with_reducible rfl))
        case s37 => assumption
        (try simp only [Act.put, List.setIfInBounds_toArray, List.set_cons_zero, List.set_cons_succ])
        refine wpAnyT_ready (rs := [13]) (by kernel_rfl) (by simp) ?_
        refine AllReadyT.cons (o := ?oB38) ?hB38 ?kB38 AllReadyT.nil
        case hB38 => (simp only [List.getElem?_toArray, List.getElem?_cons_zero, List.getElem?_cons_succ]; rfl)
        case kB38 =>
          intro K hK
          go_simp
          refine HV.out.mono ?_
          rintro e w7 ⟨hk7, rfl, hr7⟩
          refine hK.out _ _ (no_more (by kernel_rfl)) ?_
          clear hK K
          (try simp only [Act.put, List.setIfInBounds_toArray, List.set_cons_zero, List.set_cons_succ])
          refine wpAnyT_any (i := 14) (oi := ?o39) (v := ?v39) ?h39 ?a39 ?b39 ?c39 ?d39 ?e39 ?j39 ?q39 (Or.inl ⟨?g39, ?y39⟩) ?s39 ?r39
          case h39 => (simp only [List.getElem?_toArray, List.getElem?_cons_zero, List.getElem?_cons_succ]; rfl)
          case a39 => kernel_rfl
          case b39 => kernel_rfl
          case c39 => kernel_rfl
          case d39 => kernel_rfl
          case e39 => kernel_rfl
          case j39 => kernel_rfl
          case q39 => exact fun _ _ _ h => h
          case g39 => rfl
          case y39 => (intro wS _; go_simp; (try with_reducible rfl))
          case s39 => exact no_more (by kernel_rfl)
          (try simp only [Act.put, List.setIfInBounds_toArray, List.set_cons_zero, List.set_cons_succ])
          refine wpAnyT_done (by kernel_rfl) ?_ _
          have hk : Kept P w w7 := (Kept.of_below HB6.out.drew HH.out.1.1.pin).trans hk7
          have hv7 : VAt w7 vb v := HH.out.2.1.keep (hk.block vb HH.out.2.2.2.2)
          obtain ⟨-, e1, e2, -, -, -⟩ := hv7.cells
          have HR := Lib.hid (And.intro hk hr7)
          clear hk7 hr7 hk hv7 d0 d1 d2 d4 c1'
          by_cases hlt : E < a + T
          · have h1 : (E : Int) < (a : Int) + n := by omega
            have HNO : Hid (∀ w', Below w7.heap.size w7 w' → KPost w P o rb L s ps RR (Stops ⟨(E : Int), v.format, v.field, 4⟩) w') := Lib.hid fun w' hb => by
              rw [HH.out.2.2.2.1.k]
              exact KPost.no_ (by rw [HR2.out]; exact if_pos hlt) (HR.out.1.trans (Kept.of_below hb HR.out.2.1.pin)) (HR.out.2.below hb)
            clear hlt
            go_wp2_with fail
            refine wp_region_T 9 (fun w' : World => ∃ n : Nat, w' = w7.drewN n) (by kernel_rfl) ⟨1, rfl⟩ (fun hHeld => ?_)
            refine wpAnyT_take (i := 0) (oi := ?o40) (v := ?v40) ?h40 ?a40 ?b40 ?c40 ?d40 ?e40 ?f40 ?j40 ?q40 (Or.inl ⟨?g40, ?y40⟩) ?s40 ?r40
            case h40 => (simp only [List.getElem?_toArray, List.getElem?_cons_zero]; rfl)
            case a40 => kernel_rfl
            case b40 => kernel_rfl
            case c40 => kernel_rfl
            case d40 => kernel_rfl
            case e40 => kernel_rfl
            case f40 => kernel_rfl
            case j40 => kernel_rfl
            case q40 => exact fun _ _ _ h => h
            case g40 => rfl
            case y40 => (intro wS hSw; obtain ⟨nS, rfl⟩ := hSw; go_simp; (try with_reducible rfl))
            case s40 => assumption
            (try simp only [Act.put, List.setIfInBounds_toArray, List.set_cons_zero, List.set_cons_succ])
            refine wpAnyT_take (i := 1) (oi := ?o41) (v := ?v41) ?h41 ?a41 ?b41 ?c41 ?d41 ?e41 ?f41 ?j41 ?q41 (Or.inl ⟨?g41, ?y41⟩) ?s41 ?r41
            case h41 => (simp only [List.getElem?_toArray, List.getElem?_cons_zero, List.getElem?_cons_succ]; rfl)
            case a41 => kernel_rfl
            case b41 => kernel_rfl
            case c41 => kernel_rfl
            case d41 => kernel_rfl
            case e41 => kernel_rfl
            case f41 => kernel_rfl
            case j41 => kernel_rfl
            case q41 => exact fun _ _ _ h => h
            case g41 => rfl
            case y41 => (intro wS hSw; obtain ⟨nS, rfl⟩ := hSw; go_simp; (try with_reducible rfl))
            case s41 => assumption
            (try simp only [Act.put, List.setIfInBounds_toArray, List.set_cons_zero, List.set_cons_succ])
            refine wpAnyT_take (i := 2) (oi := ?o42) (v := ?v42) ?h42 ?a42 ?b42 ?c42 ?d42 ?e42 ?f42 ?j42 ?q42 (Or.inl ⟨?g42, ?y42⟩) ?s42 ?r42
            case h42 => (simp only [List.getElem?_toArray, List.getElem?_cons_zero, List.getElem?_cons_succ]; rfl)
            case a42 => kernel_rfl
            case b42 => kernel_rfl
            case c42 => kernel_rfl
            case d42 => kernel_rfl
            case e42 => kernel_rfl
            case f42 => kernel_rfl
            case j42 => kernel_rfl
            case q42 => exact fun _ _ _ h => h
            case g42 => rfl
            case y42 => (intro wS hSw; obtain ⟨nS, rfl⟩ := hSw; go_simp; (try with_reducible rfl))
            case s42 => assumption
            (try simp only [Act.put, List.setIfInBounds_toArray, List.set_cons_zero, List.set_cons_succ])
            refine wpAnyT_take (i := 3) (oi := ?o43) (v := ?v43) ?h43 ?a43 ?b43 ?c43 ?d43 ?e43 ?f43 ?j43 ?q43 (Or.inl ⟨?g43, ?y43⟩) ?s43 ?r43
            case h43 => (simp only [List.getElem?_toArray, List.getElem?_cons_zero, List.getElem?_cons_succ]; rfl)
            case a43 => kernel_rfl
            case b43 => kernel_rfl
            case c43 => kernel_rfl
            case d43 => kernel_rfl
            case e43 => kernel_rfl
            case f43 => kernel_rfl
            case j43 => kernel_rfl
            case q43 => exact fun _ _ _ h => h
            case g43 => rfl
            case y43 => (intro wS hSw; obtain ⟨nS, rfl⟩ := hSw; go_simp; (try with_reducible rfl))
            case s43 => assumption
            (try simp only [Act.put, List.setIfInBounds_toArray, List.set_cons_zero, List.set_cons_succ])
            refine wpAnyT_take (i := 4) (oi := ?o44) (v := ?v44) ?h44 ?a44 ?b44 ?c44 ?d44 ?e44 ?f44 ?j44 ?q44 (Or.inl ⟨?g44, ?y44⟩) ?s44 ?r44
            case h44 => (simp only [List.getElem?_toArray, List.getElem?_cons_zero, List.getElem?_cons_succ]; rfl)
            case a44 => kernel_rfl
            case b44 => kernel_rfl
            case c44 => kernel_rfl
            case d44 => kernel_rfl
            case e44 => kernel_rfl
            case f44 => kernel_rfl
            case j44 => kernel_rfl
            case q44 => exact fun _ _ _ h => h
            case g44 => rfl
            case y44 => (intro wS hSw; obtain ⟨nS, rfl⟩ := hSw; go_simp; (try with_reducible rfl))
            case s44 => assumption
            (try simp only [Act.put, List.setIfInBounds_toArray, List.set_cons_zero, List.set_cons_succ])
            refine wpAnyT_take (i := 5) (oi := ?o45) (v := ?v45) ?h45 ?a45 ?b45 ?c45 ?d45 ?e45 ?f45 ?j45 ?q45 (Or.inl ⟨?g45, ?y45⟩) ?s45 ?r45
            case h45 => (simp only [List.getElem?_toArray, List.getElem?_cons_zero, List.getElem?_cons_succ]; rfl)
            case a45 => kernel_rfl
            case b45 => kernel_rfl
            case c45 => kernel_rfl
            case d45 => kernel_rfl
            case e45 => kernel_rfl
            case f45 => kernel_rfl
            case j45 => kernel_rfl
            case q45 => exact fun _ _ _ h => h
            case g45 => rfl
            case y45 => (intro wS hSw; obtain ⟨nS, rfl⟩ := hSw; go_simp; (try with_reducible rfl))
            case s45 => assumption
            (try simp only [Act.put, List.setIfInBounds_toArray, List.set_cons_zero, List.set_cons_succ])
            refine wpAnyT_take (i := 6) (oi := ?o46) (v := ?v46) ?h46 ?a46 ?b46 ?c46 ?d46 ?e46 ?f46 ?j46 ?q46 (Or.inl ⟨?g46, ?y46⟩) ?s46 ?r46
            case h46 => (simp only [List.getElem?_toArray, List.getElem?_cons_zero, List.getElem?_cons_succ]; rfl)
            case a46 => kernel_rfl
            case b46 => kernel_rfl
            case c46 => kernel_rfl
            case d46 => kernel_rfl
            case e46 => kernel_rfl
            case f46 => kernel_rfl
            case j46 => kernel_rfl
            case q46 => exact fun _ _ _ h => h
            case g46 => rfl
            case y46 => (intro wS hSw; obtain ⟨nS, rfl⟩ := hSw; go_simp; (try with_reducible rfl))
            case s46 => assumption
            (try simp only [Act.put, List.setIfInBounds_toArray, List.set_cons_zero, List.set_cons_succ])
            refine wpAnyT_take (i := 7) (oi := ?o47) (v := ?v47) ?h47 ?a47 ?b47 ?c47 ?d47 ?e47 ?f47 ?j47 ?q47 (Or.inl ⟨?g47, ?y47⟩) ?s47 ?r47
            case h47 => (simp only [List.getElem?_toArray, List.getElem?_cons_zero, List.getElem?_cons_succ]; rfl)
            case a47 => kernel_rfl
            case b47 => kernel_rfl
            case c47 => kernel_rfl
            case d47 => kernel_rfl
            case e47 => kernel_rfl
            case f47 => kernel_rfl
            case j47 => kernel_rfl
            case q47 => exact fun _ _ _ h => h
            case g47 => rfl
            case y47 => (intro wS hSw; obtain ⟨nS, rfl⟩ := hSw; go_simp; (try with_reducible rfl))
            case s47 => assumption
            (try simp only [Act.put, List.setIfInBounds_toArray, List.set_cons_zero, List.set_cons_succ])
            refine wpAnyT_take (i := 8) (oi := ?o48) (v := ?v48) ?h48 ?a48 ?b48 ?c48 ?d48 ?e48 ?f48 ?j48 ?q48 (Or.inl ⟨?g48, ?y48⟩) ?s48 ?r48
            case h48 => (simp only [List.getElem?_toArray, List.getElem?_cons_zero, List.getElem?_cons_succ]; rfl)
            case a48 => kernel_rfl
            case b48 => kernel_rfl
            case c48 => kernel_rfl
            case d48 => kernel_rfl
            case e48 => kernel_rfl
            case f48 => kernel_rfl
            case j48 => kernel_rfl
            case q48 => exact fun _ _ _ h => h
            case g48 => rfl
            case y48 => (intro wS hSw; obtain ⟨nS, rfl⟩ := hSw; go_simp; (try with_reducible rfl))
            case s48 => assumption
            (try simp only [Act.put, List.setIfInBounds_toArray, List.set_cons_zero, List.set_cons_succ])
            refine wpAnyT_ready (rs := [9]) (by kernel_rfl) (by simp) ?_
            refine AllReadyT.cons (o := ?oB49) ?hB49 ?kB49 AllReadyT.nil
            case hB49 => (simp only [List.getElem?_toArray, List.getElem?_cons_zero, List.getElem?_cons_succ]; rfl)
            case kB49 =>
              intro K hK
              go_simp
              refine (refuse_any _ _ _ _ _).mono ?_
              rintro e w8 ⟨rfl, n8, rfl⟩
              exact ⟨rfl, HNO.out _ (drew2_below w7 n8)⟩
          · have h1 : ¬ (E : Int) < (a : Int) + n := by omega
            go_wp2
            go_ret2
            exact KPost.ok_ (by rw [HR2.out]; exact if_neg hlt) rfl HR.out.1 HR.out.2
  · have HNO : Hid (∀ W', Below W.heap.size W W' → KPost w P o rb L s ps RR (Stops ⟨v.at_, v.format, v.field, 1⟩) W') := Lib.hid fun W' hb => by
      rw [HH.out.2.2.2.1.a, HH.out.2.2.2.1.k]
      exact KPost.no (HRR.out.trans (short_no (by omega))) HH.out.1 (HB0.out.trans (hb.mono HB0.out.size))
    have HCL : Hid (Calls Tryz.prog 94 #[ptr vb, .int .i64 n] W.drew fun e w' => e = Stops ⟨v.at_, v.format, v.field, 1⟩ ∧ ∃ m, w' = W.drew.drewN m) := Lib.hid (after_no vb v n _ (HV2.out _ HB0.out.drew) HH.out.2.2.1 hfit)
    clear hfit
    refine wp_region_T 8 (fun w' : World => ∃ n : Nat, w' = W.drewN n) (by kernel_rfl) ⟨1, rfl⟩ (fun hHeld => ?_)
    refine wpAnyT_take (i := 0) (oi := ?o50) (v := ?v50) ?h50 ?a50 ?b50 ?c50 ?d50 ?e50 ?f50 ?j50 ?q50 (Or.inl ⟨?g50, ?y50⟩) ?s50 ?r50
    case h50 => (simp only [List.getElem?_toArray, List.getElem?_cons_zero]; rfl)
    case a50 => kernel_rfl
    case b50 => kernel_rfl
    case c50 => kernel_rfl
    case d50 => kernel_rfl
    case e50 => kernel_rfl
    case f50 => kernel_rfl
    case j50 => kernel_rfl
    case q50 => exact fun _ _ _ h => h
    case g50 => rfl
    case y50 => (intro wS hSw; obtain ⟨nS, rfl⟩ := hSw; go_simp; (try with_reducible rfl))
    case s50 => assumption
    (try simp only [Act.put, List.setIfInBounds_toArray, List.set_cons_zero, List.set_cons_succ])
    refine wpAnyT_take (i := 1) (oi := ?o51) (v := ?v51) ?h51 ?a51 ?b51 ?c51 ?d51 ?e51 ?f51 ?j51 ?q51 (Or.inl ⟨?g51, ?y51⟩) ?s51 ?r51
    case h51 => (simp only [List.getElem?_toArray, List.getElem?_cons_zero, List.getElem?_cons_succ]; rfl)
    case a51 => kernel_rfl
    case b51 => kernel_rfl
    case c51 => kernel_rfl
    case d51 => kernel_rfl
    case e51 => kernel_rfl
    case f51 => kernel_rfl
    case j51 => kernel_rfl
    case q51 => exact fun _ _ _ h => h
    case g51 => rfl
    case y51 => (intro wS hSw; obtain ⟨nS, rfl⟩ := hSw; go_simp; (try with_reducible rfl))
    case s51 => assumption
    (try simp only [Act.put, List.setIfInBounds_toArray, List.set_cons_zero, List.set_cons_succ])
    refine wpAnyT_take (i := 2) (oi := ?o52) (v := ?v52) ?h52 ?a52 ?b52 ?c52 ?d52 ?e52 ?f52 ?j52 ?q52 (Or.inl ⟨?g52, ?y52⟩) ?s52 ?r52
    case h52 => (simp only [List.getElem?_toArray, List.getElem?_cons_zero, List.getElem?_cons_succ]; rfl)
    case a52 => kernel_rfl
    case b52 => kernel_rfl
    case c52 => kernel_rfl
    case d52 => kernel_rfl
    case e52 => kernel_rfl
    case f52 => kernel_rfl
    case j52 => kernel_rfl
    case q52 => exact fun _ _ _ h => h
    case g52 => rfl
    case y52 => (intro wS hSw; obtain ⟨nS, rfl⟩ := hSw; go_simp; (try with_reducible rfl))
    case s52 => assumption
    (try simp only [Act.put, List.setIfInBounds_toArray, List.set_cons_zero, List.set_cons_succ])
    refine wpAnyT_take (i := 3) (oi := ?o53) (v := ?v53) ?h53 ?a53 ?b53 ?c53 ?d53 ?e53 ?f53 ?j53 ?q53 (Or.inl ⟨?g53, ?y53⟩) ?s53 ?r53
    case h53 => (simp only [List.getElem?_toArray, List.getElem?_cons_zero, List.getElem?_cons_succ]; rfl)
    case a53 => kernel_rfl
    case b53 => kernel_rfl
    case c53 => kernel_rfl
    case d53 => kernel_rfl
    case e53 => kernel_rfl
    case f53 => kernel_rfl
    case j53 => kernel_rfl
    case q53 => exact fun _ _ _ h => h
    case g53 => rfl
    case y53 => (intro wS hSw; obtain ⟨nS, rfl⟩ := hSw; go_simp; (try with_reducible rfl))
    case s53 => assumption
    (try simp only [Act.put, List.setIfInBounds_toArray, List.set_cons_zero, List.set_cons_succ])
    refine wpAnyT_take (i := 4) (oi := ?o54) (v := ?v54) ?h54 ?a54 ?b54 ?c54 ?d54 ?e54 ?f54 ?j54 ?q54 (Or.inl ⟨?g54, ?y54⟩) ?s54 ?r54
    case h54 => (simp only [List.getElem?_toArray, List.getElem?_cons_zero, List.getElem?_cons_succ]; rfl)
    case a54 => kernel_rfl
    case b54 => kernel_rfl
    case c54 => kernel_rfl
    case d54 => kernel_rfl
    case e54 => kernel_rfl
    case f54 => kernel_rfl
    case j54 => kernel_rfl
    case q54 => exact fun _ _ _ h => h
    case g54 => rfl
    case y54 => (intro wS hSw; obtain ⟨nS, rfl⟩ := hSw; go_simp; (try with_reducible rfl))
    case s54 => assumption
    (try simp only [Act.put, List.setIfInBounds_toArray, List.set_cons_zero, List.set_cons_succ])
    refine wpAnyT_take (i := 5) (oi := ?o55) (v := ?v55) ?h55 ?a55 ?b55 ?c55 ?d55 ?e55 ?f55 ?j55 ?q55 (Or.inl ⟨?g55, ?y55⟩) ?s55 ?r55
    case h55 => (simp only [List.getElem?_toArray, List.getElem?_cons_zero, List.getElem?_cons_succ]; rfl)
    case a55 => kernel_rfl
    case b55 => kernel_rfl
    case c55 => kernel_rfl
    case d55 => kernel_rfl
    case e55 => kernel_rfl
    case f55 => kernel_rfl
    case j55 => kernel_rfl
    case q55 => exact fun _ _ _ h => h
    case g55 => rfl
    case y55 => (intro wS hSw; obtain ⟨nS, rfl⟩ := hSw; go_simp; (try with_reducible rfl))
    case s55 => assumption
    (try simp only [Act.put, List.setIfInBounds_toArray, List.set_cons_zero, List.set_cons_succ])
    refine wpAnyT_take (i := 6) (oi := ?o56) (v := ?v56) ?h56 ?a56 ?b56 ?c56 ?d56 ?e56 ?f56 ?j56 ?q56 (Or.inl ⟨?g56, ?y56⟩) ?s56 ?r56
    case h56 => (simp only [List.getElem?_toArray, List.getElem?_cons_zero, List.getElem?_cons_succ]; rfl)
    case a56 => kernel_rfl
    case b56 => kernel_rfl
    case c56 => kernel_rfl
    case d56 => kernel_rfl
    case e56 => kernel_rfl
    case f56 => kernel_rfl
    case j56 => kernel_rfl
    case q56 => exact fun _ _ _ h => h
    case g56 => rfl
    case y56 => (intro wS hSw; obtain ⟨nS, rfl⟩ := hSw; go_simp; (try with_reducible rfl))
    case s56 => assumption
    (try simp only [Act.put, List.setIfInBounds_toArray, List.set_cons_zero, List.set_cons_succ])
    refine wpAnyT_take (i := 7) (oi := ?o57) (v := ?v57) ?h57 ?a57 ?b57 ?c57 ?d57 ?e57 ?f57 ?j57 ?q57 (Or.inl ⟨?g57, ?y57⟩) ?s57 ?r57
    case h57 => (simp only [List.getElem?_toArray, List.getElem?_cons_zero, List.getElem?_cons_succ]; rfl)
    case a57 => kernel_rfl
    case b57 => kernel_rfl
    case c57 => kernel_rfl
    case d57 => kernel_rfl
    case e57 => kernel_rfl
    case f57 => kernel_rfl
    case j57 => kernel_rfl
    case q57 => exact fun _ _ _ h => h
    case g57 => rfl
    case y57 => (intro wS hSw; obtain ⟨nS, rfl⟩ := hSw; go_simp; (try with_reducible rfl))
    case s57 => assumption
    (try simp only [Act.put, List.setIfInBounds_toArray, List.set_cons_zero, List.set_cons_succ])
    refine wpAnyT_ready (rs := [8]) (by kernel_rfl) (by simp) ?_
    refine AllReadyT.cons (o := ?oB58) ?hB58 ?kB58 AllReadyT.nil
    case hB58 => (simp only [List.getElem?_toArray, List.getElem?_cons_zero, List.getElem?_cons_succ]; rfl)
    case kB58 =>
      intro K hK
      go_simp
      refine HCL.out.mono ?_
      rintro e w6 ⟨rfl, m6, rfl⟩
      exact ⟨rfl, HNO.out _ (drew2_below W m6)⟩

end
end Go.Proofs.YtlhobhfmombjjaaGreatDoor
