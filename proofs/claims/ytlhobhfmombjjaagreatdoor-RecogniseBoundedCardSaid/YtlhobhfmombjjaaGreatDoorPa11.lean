/- The recogniser of a list of values. Conditions: as for the others; values of the formats before are recognised. A part is put behind the others, and completed later. No condition of its own. Plain facts on writing a stream: what is laid, what waits for a length, and the checksums at the end. No condition of its own. -/
import Derived.Test.YtlhobhfmombjjaaGreatDoorPa10
import Derived.Test.YtlhobhfmombjjaaGreatDoorPa02
namespace Go.Proofs.YtlhobhfmombjjaaGreatDoor
section RecK
open Go.RowKit Fx Rec

section
variable {w : World} {P : Nat → Prop} {o : Ro} {rb vb : Nat} {L : List Fm} {s : ByteArray} {ps : List Pt} {v : Vl} {f : Fld} {a l st k : Nat}
set_option maxRecDepth 20000 in
set_option maxHeartbeats 4000000 in
theorem rd_list (h : Rd w P o rb L s ps) (hv : VAt w vb v) (pv : P vb) (ok : VOk v) (hN : VNat v a l st k) (hl : l ≤ s.size) (q : Nat) (hq : f.frm = q) (hq16 : q < 16) (N : Nat) (hC : ValC o rb L s N) (i : Nat) (hi : At L f.n i) (hiN : i < N) (hdp : v.depth + 1 + N ≤ 100) :
    Calls Tryz.prog 70 #[ptr rb, ptr vb, fldV f] w fun e w' =>
      KPost w P o rb L s ps (listed (told f v.nums) (reps (val L s N) f.n (v.depth + 1) l a ps.length (told f v.nums))) e w' := by
  have na := hN.a
  have nl := hN.l
  have b0 := ok.at0
  have b1 := ok.lim
  have b2 := ok.max
  have bd := ok.dep
  have bq := ok.num q hq16
  obtain ⟨n, hn⟩ : ∃ n : Int, v.nums.getD q 0 = n := ⟨_, rfl⟩
  rw [hn] at bq
  obtain ⟨T, hT⟩ : ∃ T, T = told f v.nums := ⟨_, rfl⟩
  have htl : (T : Int) = n := by rw [hT]; unfold told; rw [hq, show ((q : Int)).toNat = q from rfl, hn]; omega
  have lv := hv.blk.lt
  have cq : w.cell? ⟨vb, 6 + q, none⟩ = some (.int .i64 n) := by rw [hv.num hq16, hn]
  have HC : Hid (∀ W, Below w.heap.size w W → W.cell? ⟨vb, 6 + q, none⟩ = some (.int .i64 n)) := Lib.hid fun W hb => (hb.cell (p := ⟨vb, 6 + q, none⟩) lv).trans cq
  have HH := Lib.hid (And.intro h (And.intro hv (And.intro ok (And.intro hN pv))))
  have HV2 : Hid (∀ W, Below w.heap.size w W → VAt W vb v) := Lib.hid fun W hb => hv.keep (hb.block vb hv.blk.lt)
  have hin : (0 : Int) ≤ (q : Int) ∧ (q : Int) < 16 := by omega
  have hw1 : IntKind.i64.wrap (v.depth + 1) = v.depth + 1 := wr64 (by omega) (by omega)
  have HVC := Lib.hid (And.intro hC (And.intro hi (And.intro hiN hdp)))
  rw [← hT]
  obtain ⟨RR, hRR⟩ : ∃ RR, RR = listed T (reps (val L s N) f.n (v.depth + 1) l a ps.length T) := ⟨_, rfl⟩
  rw [← hRR]
  have HRR := Lib.hid hRR
  clear h hv ok hN cq hn hT hC hi hiN hdp pv hRR
  go_enter Tryz.func70, Tryz.ntmps70
  go_wp2_with fail
  have hB0 := bx (w := w) (.cells #[.int .i64 f.kind, .int .i64 f.n, .int .i64 (q : Int), .string f.text] 56)
  have hbk := Blk.new w 56 #[.int .i64 f.kind, .int .i64 f.n, .int .i64 (q : Int), .string f.text]
  have c2 : (w.alloc (.cells #[.int .i64 f.kind, .int .i64 f.n, .int .i64 (q : Int), .string f.text] 56)).cell? ⟨w.heap.size, 2, none⟩ = some (.int .i64 (q : Int)) := cell_of_row _ _ 2 _ _ _ (heap_alloc_new w _)
  have cq := HC.out _ hB0
  have hr0 := (HH.out.1.below hB0).add_ hbk (by decide) (by decide) (by decide) (by decide)
  have HB0 := Lib.hid (And.intro hB0 (And.intro hbk hr0))
  obtain ⟨-, -, -, -, c4, -⟩ := (HV2.out _ hB0).cells
  clear hB0 hbk hr0
  generalize w.alloc (.cells #[.int .i64 f.kind, .int .i64 f.n, .int .i64 (q : Int), .string f.text] 56) = W at *
  refine wp_region_held_drew (S := (fun w' : World => ∃ n : Nat, w' = W.drewN n)) (by kernel_rfl) ⟨1, rfl⟩ (fun hHeld => ?_)
  refine wpAnyH_take (i := 0) (oi := ?o1) (v := ?v1) ?h1 ?a1 ?b1 ?c1 ?q1 (Or.inl ⟨?g1, ?y1⟩) ?s1 ?r1
  case h1 => (simp only [List.getElem?_toArray, List.getElem?_cons_zero]; rfl)
  case a1 => kernel_rfl
  case b1 => kernel_rfl
  case c1 => kernel_rfl
  case q1 => exact fun _ _ _ h => h
  case g1 => rfl
  case y1 => (intro wS hSw; obtain ⟨nS, rfl⟩ := hSw; go_simp; (try with_reducible rfl))
  case s1 => assumption
  (try simp only [Act.put, List.setIfInBounds_toArray, List.set_cons_zero, List.set_cons_succ])
  refine wpAnyH_take (i := 1) (oi := ?o2) (v := ?v2) ?h2 ?a2 ?b2 ?c2 ?q2 (Or.inl ⟨?g2, ?y2⟩) ?s2 ?r2
  case h2 => (simp only [List.getElem?_toArray, List.getElem?_cons_zero, List.getElem?_cons_succ]; rfl)
  case a2 => kernel_rfl
  case b2 => kernel_rfl
  case c2 => kernel_rfl
  case q2 => exact fun _ _ _ h => h
  case g2 => rfl
  case y2 => (intro wS hSw; obtain ⟨nS, rfl⟩ := hSw; go_simp; (try with_reducible rfl))
  case s2 => assumption
  (try simp only [Act.put, List.setIfInBounds_toArray, List.set_cons_zero, List.set_cons_succ])
  refine wpAnyH_take (i := 2) (oi := ?o3) (v := ?v3) ?h3 ?a3 ?b3 ?c3 ?q3 (Or.inl ⟨?g3, ?y3⟩) ?s3 ?r3
  case h3 => (simp only [List.getElem?_toArray, List.getElem?_cons_zero, List.getElem?_cons_succ]; rfl)
  case a3 => kernel_rfl
  case b3 => kernel_rfl
  case c3 => kernel_rfl
  case q3 => exact fun _ _ _ h => h
  case g3 => rfl
  case y3 => (intro wS hSw; obtain ⟨nS, rfl⟩ := hSw; go_simp; (try with_reducible rfl))
  case s3 => assumption
  (try simp only [Act.put, List.setIfInBounds_toArray, List.set_cons_zero, List.set_cons_succ])
  refine wpAnyH_take (i := 3) (oi := ?o4) (v := ?v4) ?h4 ?a4 ?b4 ?c4 ?q4 (Or.inl ⟨?g4, ?y4⟩) ?s4 ?r4
  case h4 => (simp only [List.getElem?_toArray, List.getElem?_cons_zero, List.getElem?_cons_succ]; rfl)
  case a4 => kernel_rfl
  case b4 => kernel_rfl
  case c4 => kernel_rfl
  case q4 => exact fun _ _ _ h => h
  case g4 => rfl
  case y4 => (intro wS hSw; obtain ⟨nS, rfl⟩ := hSw; go_simp; (try with_reducible rfl))
  case s4 => assumption
  (try simp only [Act.put, List.setIfInBounds_toArray, List.set_cons_zero, List.set_cons_succ])
  refine wpAnyH_take (i := 4) (oi := ?o5) (v := ?v5) ?h5 ?a5 ?b5 ?c5 ?q5 (Or.inl ⟨?g5, ?y5⟩) ?s5 ?r5
  case h5 => (simp only [List.getElem?_toArray, List.getElem?_cons_zero, List.getElem?_cons_succ]; rfl)
  case a5 => kernel_rfl
  case b5 => kernel_rfl
  case c5 => kernel_rfl
  case q5 => exact fun _ _ _ h => h
  case g5 => rfl
  case y5 => (intro wS hSw; obtain ⟨nS, rfl⟩ := hSw; go_simp; (try with_reducible rfl))
  case s5 => assumption
  (try simp only [Act.put, List.setIfInBounds_toArray, List.set_cons_zero, List.set_cons_succ])
  refine wpAnyH_take (i := 5) (oi := ?o6) (v := ?v6) ?h6 ?a6 ?b6 ?c6 ?q6 (Or.inl ⟨?g6, ?y6⟩) ?s6 ?r6
  case h6 => (simp only [List.getElem?_toArray, List.getElem?_cons_zero, List.getElem?_cons_succ]; rfl)
  case a6 => kernel_rfl
  case b6 => kernel_rfl
  case c6 => kernel_rfl
  case q6 => exact fun _ _ _ h => h
  case g6 => rfl
  case y6 => (intro wS hSw; obtain ⟨nS, rfl⟩ := hSw; go_simp; (try with_reducible rfl))
  case s6 => assumption
  (try simp only [Act.put, List.setIfInBounds_toArray, List.set_cons_zero, List.set_cons_succ])
  refine wpAnyH_take (i := 6) (oi := ?o7) (v := ?v7) ?h7 ?a7 ?b7 ?c7 ?q7 (Or.inl ⟨?g7, ?y7⟩) ?s7 ?r7
  case h7 => (simp only [List.getElem?_toArray, List.getElem?_cons_zero, List.getElem?_cons_succ]; rfl)
  case a7 => kernel_rfl
  case b7 => kernel_rfl
  case c7 => kernel_rfl
  case q7 => exact fun _ _ _ h => h
  case g7 => rfl
  case y7 => (intro wS hSw; obtain ⟨nS, rfl⟩ := hSw; go_simp; (try with_reducible rfl))
  case s7 => assumption
  (try simp only [Act.put, List.setIfInBounds_toArray, List.set_cons_zero, List.set_cons_succ])
  refine wpAnyH_take (i := 7) (oi := ?o8) (v := ?v8) ?h8 ?a8 ?b8 ?c8 ?q8 (Or.inl ⟨?g8, ?y8⟩) ?s8 ?r8
  case h8 => (simp only [List.getElem?_toArray, List.getElem?_cons_zero, List.getElem?_cons_succ]; rfl)
  case a8 => kernel_rfl
  case b8 => kernel_rfl
  case c8 => kernel_rfl
  case q8 => exact fun _ _ _ h => h
  case g8 => rfl
  case y8 => (intro wS hSw; obtain ⟨nS, rfl⟩ := hSw; go_simp; (try with_reducible rfl))
  case s8 => assumption
  (try simp only [Act.put, List.setIfInBounds_toArray, List.set_cons_zero, List.set_cons_succ])
  refine wpAnyH_take (i := 8) (oi := ?o9) (v := ?v9) ?h9 ?a9 ?b9 ?c9 ?q9 (Or.inl ⟨?g9, ?y9⟩) ?s9 ?r9
  case h9 => (simp only [List.getElem?_toArray, List.getElem?_cons_zero, List.getElem?_cons_succ]; rfl)
  case a9 => kernel_rfl
  case b9 => kernel_rfl
  case c9 => kernel_rfl
  case q9 => exact fun _ _ _ h => h
  case g9 => rfl
  case y9 => (intro wS hSw; obtain ⟨nS, rfl⟩ := hSw; go_simp; (try with_reducible rfl))
  case s9 => assumption
  (try simp only [Act.put, List.setIfInBounds_toArray, List.set_cons_zero, List.set_cons_succ])
  refine wpAnyH_take (i := 9) (oi := ?o10) (v := ?v10) ?h10 ?a10 ?b10 ?c10 ?q10 (Or.inl ⟨?g10, ?y10⟩) ?s10 ?r10
  case h10 => (simp only [List.getElem?_toArray, List.getElem?_cons_zero, List.getElem?_cons_succ]; rfl)
  case a10 => kernel_rfl
  case b10 => kernel_rfl
  case c10 => kernel_rfl
  case q10 => exact fun _ _ _ h => h
  case g10 => rfl
  case y10 => (intro wS hSw; obtain ⟨nS, rfl⟩ := hSw; go_simp; (try with_reducible rfl))
  case s10 => assumption
  (try simp only [Act.put, List.setIfInBounds_toArray, List.set_cons_zero, List.set_cons_succ])
  refine wpAnyH_take (i := 10) (oi := ?o11) (v := ?v11) ?h11 ?a11 ?b11 ?c11 ?q11 (Or.inl ⟨?g11, ?y11⟩) ?s11 ?r11
  case h11 => (simp only [List.getElem?_toArray, List.getElem?_cons_zero, List.getElem?_cons_succ]; rfl)
  case a11 => kernel_rfl
  case b11 => kernel_rfl
  case c11 => kernel_rfl
  case q11 => exact fun _ _ _ h => h
  case g11 => rfl
  case y11 => (intro wS hSw; obtain ⟨nS, rfl⟩ := hSw; go_simp; (try with_reducible rfl))
  case s11 => assumption
  (try simp only [Act.put, List.setIfInBounds_toArray, List.set_cons_zero, List.set_cons_succ])
  refine wpAnyH_take (i := 11) (oi := ?o12) (v := ?v12) ?h12 ?a12 ?b12 ?c12 ?q12 (Or.inl ⟨?g12, ?y12⟩) ?s12 ?r12
  case h12 => (simp only [List.getElem?_toArray, List.getElem?_cons_zero, List.getElem?_cons_succ]; rfl)
  case a12 => kernel_rfl
  case b12 => kernel_rfl
  case c12 => kernel_rfl
  case q12 => exact fun _ _ _ h => h
  case g12 => rfl
  case y12 => (intro wS hSw; obtain ⟨nS, rfl⟩ := hSw; go_simp; (try with_reducible rfl))
  case s12 => assumption
  (try simp only [Act.put, List.setIfInBounds_toArray, List.set_cons_zero, List.set_cons_succ])
  refine wpAnyH_take (i := 12) (oi := ?o13) (v := ?v13) ?h13 ?a13 ?b13 ?c13 ?q13 (Or.inl ⟨?g13, ?y13⟩) ?s13 ?r13
  case h13 => (simp only [List.getElem?_toArray, List.getElem?_cons_zero, List.getElem?_cons_succ]; rfl)
  case a13 => kernel_rfl
  case b13 => kernel_rfl
  case c13 => kernel_rfl
  case q13 => exact fun _ _ _ h => h
  case g13 => rfl
  case y13 => (intro wS hSw; obtain ⟨nS, rfl⟩ := hSw; go_simp; (try with_reducible rfl))
  case s13 => assumption
  (try simp only [Act.put, List.setIfInBounds_toArray, List.set_cons_zero, List.set_cons_succ])
  refine wpAnyH_done (by kernel_rfl) ?_ _
  go_wp2_with fail
  have HI0 : Hid (Kept (fun k => P k ∨ k = w.heap.size) W W.drew ∧ Rd W.drew (fun k => P k ∨ k = w.heap.size) o rb L s (ps ++ []) ∧ reps (val L s N) f.n (v.depth + 1) l a ps.length 0 = .ok (a, []) ∧ (a ≤ a ∧ a ≤ l) ∧ (a : Int) = a) := Lib.hid ⟨(Kept.refl _ _).drew, by rw [List.append_nil]; exact HB0.out.2.2.keptN 1, rfl, ⟨Nat.le_refl _, by omega⟩, rfl⟩
  clear cq c2 c4
  go_loopw [9, 22] (fun e i wr => ∃ (j E : Nat) (EI : Int) (qs : List Pt), j ≤ T ∧ e = .int .i64 EI ∧ i = .int .i64 j ∧ Hid (Kept (fun k => P k ∨ k = w.heap.size) W wr ∧ Rd wr (fun k => P k ∨ k = w.heap.size) o rb L s (ps ++ qs) ∧ reps (val L s N) f.n (v.depth + 1) l a ps.length j = .ok (E, qs) ∧ (a ≤ E ∧ E ≤ l) ∧ EI = E)) (fun _ i _ => T - (intOf i).toNat)
  case atStart => exact ⟨0, a, a, [], Nat.zero_le _, rfl, rfl, HI0⟩
  case round =>
    obtain ⟨j, E, EI, qs, hj, rfl, rfl, HJ⟩ := hrel
    obtain ⟨wq, rfl⟩ : ∃ wq, wq = wr := ⟨_, rfl⟩
    have HEND : Hid (Kept P w wq ∧ VAt wq vb v) := Lib.hid ⟨(Kept.of_below HB0.out.1 HH.out.1.1.pin).trans (HJ.out.1.mono fun k hk => .inl hk), HH.out.2.1.keep ((HJ.out.1.block vb (.inl HH.out.2.2.2.2)).trans (HB0.out.1.block vb lv))⟩
    by_cases hlt : j < T
    · have hlt' : (j : Int) < n := by omega
      obtain ⟨d0, -, -, -, -, d5⟩ := HEND.out.2.cells
      have hbq : Blk wq w.heap.size 56 #[.int .i64 f.kind, .int .i64 f.n, .int .i64 (q : Int), .string f.text] := (HJ.out.1.block _ (.inr rfl)).trans HB0.out.2.1
      have c1 := hbq.cell 1
      simp only [List.getElem?_toArray, List.getElem?_cons_zero, List.getElem?_cons_succ] at c1
      have HVC6 : Hid (Calls Tryz.prog 73 #[ptr rb, .int .i64 f.n, .int .i64 (v.depth + 1), .int .i64 EI, .int .i64 (l : Int)] wq.drew fun e w' => VPost wq.drew (fun k => P k ∨ k = w.heap.size) o rb L s (ps ++ qs) (val L s N f.n (v.depth + 1) E l (ps.length + qs.length)) e w') := Lib.hid (by
        have := HVC.out.1 wq.drew (fun k => P k ∨ k = w.heap.size) (ps ++ qs) f.n (v.depth + 1) i E l (HJ.out.2.1.keptN 1) HVC.out.2.1 HVC.out.2.2.1 (by omega) HVC.out.2.2.2 HJ.out.2.2.2.1.2 hl
        rwa [List.length_append, ← HJ.out.2.2.2.2] at this)
      clear hbq
      cases hsub : val L s N f.n (v.depth + 1) E l (ps.length + qs.length) with
      | error rf =>
        have HR1 : Hid (RR = .error rf) := Lib.hid (by
          rw [HRR.out, reps_le (k := j + 1) (r := rf) (by rw [reps, HJ.out.2.2.1]; show (match val L s N f.n (v.depth + 1) E l (ps.length + qs.length) with | .error r => _ | .ok (e', qs') => _) = _; rw [hsub]) (by omega)]; rfl)
        have HV : Hid (Calls Tryz.prog 73 #[ptr rb, .int .i64 f.n, .int .i64 (v.depth + 1), .int .i64 EI, .int .i64 (l : Int)] wq.drew fun e w' => Kept (fun k => P k ∨ k = w.heap.size) wq.drew w' ∧ e = Stops rf ∧ ∃ ps', Rd w' (fun k => P k ∨ k = w.heap.size) o rb L s ps') := Lib.hid (by have := HVC6.out; rw [hsub] at this; exact this)
        have HNO : Hid (∀ w', Kept (fun k => P k ∨ k = w.heap.size) wq.drew w' → (∃ ps', Rd w' (fun k => P k ∨ k = w.heap.size) o rb L s ps') → KPost w P o rb L s ps RR (Stops rf) w') := Lib.hid fun w' hk hr => by
          obtain ⟨ps', hr⟩ := hr
          have hk2 : Kept P w w' := HEND.out.1.trans ((Kept.refl P wq).drew.trans (hk.mono fun k hk => .inl hk))
          exact KPost.no_ HR1.out hk2 (HH.out.1.weak hr hk2.size fun k hk => .inl hk)
        clear hsub HVC6
        go_wp2_with fail
        refine wp_region_T 13 (fun w' : World => ∃ n : Nat, w' = wq.drewN n) (by kernel_rfl) ⟨1, rfl⟩ (fun hHeld => ?_)
        refine wpAnyT_take (i := 0) (oi := ?o14) (v := ?v14) ?h14 ?a14 ?b14 ?c14 ?d14 ?e14 ?f14 ?j14 ?q14 (Or.inl ⟨?g14, ?y14⟩) ?s14 ?r14
        case h14 => (simp only [List.getElem?_toArray, List.getElem?_cons_zero]; rfl)
        case a14 => kernel_rfl
        case b14 => kernel_rfl
        case c14 => kernel_rfl
        case d14 => kernel_rfl
        case e14 => kernel_rfl
        case f14 => kernel_rfl
        case j14 => kernel_rfl
        case q14 => exact fun _ _ _ h => h
        case g14 => rfl
        case y14 => (intro wS hSw; obtain ⟨nS, rfl⟩ := hSw; go_simp; (try with_reducible rfl))
        case s14 => assumption
        (try simp only [Act.put, List.setIfInBounds_toArray, List.set_cons_zero, List.set_cons_succ])
        refine wpAnyT_take (i := 1) (oi := ?o15) (v := ?v15) ?h15 ?a15 ?b15 ?c15 ?d15 ?e15 ?f15 ?j15 ?q15 (Or.inl ⟨?g15, ?y15⟩) ?s15 ?r15
        case h15 => (simp only [List.getElem?_toArray, List.getElem?_cons_zero, List.getElem?_cons_succ]; rfl)
        case a15 => kernel_rfl
        case b15 => kernel_rfl
        case c15 => kernel_rfl
        case d15 => kernel_rfl
        case e15 => kernel_rfl
        case f15 => kernel_rfl
        case j15 => kernel_rfl
        case q15 => exact fun _ _ _ h => h
        case g15 => rfl
        case y15 => (intro wS hSw; obtain ⟨nS, rfl⟩ := hSw; go_simp; (try with_reducible rfl))
        case s15 => assumption
        (try simp only [Act.put, List.setIfInBounds_toArray, List.set_cons_zero, List.set_cons_succ])
        refine wpAnyT_take (i := 2) (oi := ?o16) (v := ?v16) ?h16 ?a16 ?b16 ?c16 ?d16 ?e16 ?f16 ?j16 ?q16 (Or.inl ⟨?g16, ?y16⟩) ?s16 ?r16
        case h16 => (simp only [List.getElem?_toArray, List.getElem?_cons_zero, List.getElem?_cons_succ]; rfl)
        case a16 => kernel_rfl
        case b16 => kernel_rfl
        case c16 => kernel_rfl
        case d16 => kernel_rfl
        case e16 => kernel_rfl
        case f16 => kernel_rfl
        case j16 => kernel_rfl
        case q16 => exact fun _ _ _ h => h
        case g16 => rfl
        case y16 => (intro wS hSw; obtain ⟨nS, rfl⟩ := hSw; go_simp; (try with_reducible rfl))
        case s16 => assumption
        (try simp only [Act.put, List.setIfInBounds_toArray, List.set_cons_zero, List.set_cons_succ])
        refine wpAnyT_take (i := 3) (oi := ?o17) (v := ?v17) ?h17 ?a17 ?b17 ?c17 ?d17 ?e17 ?f17 ?j17 ?q17 (Or.inl ⟨?g17, ?y17⟩) ?s17 ?r17
        case h17 => (simp only [List.getElem?_toArray, List.getElem?_cons_zero, List.getElem?_cons_succ]; rfl)
        case a17 => kernel_rfl
        case b17 => kernel_rfl
        case c17 => kernel_rfl
        case d17 => kernel_rfl
        case e17 => kernel_rfl
        case f17 => kernel_rfl
        case j17 => kernel_rfl
        case q17 => exact fun _ _ _ h => h
        case g17 => rfl
        case y17 => (intro wS hSw; obtain ⟨nS, rfl⟩ := hSw; go_simp; (try with_reducible rfl))
        case s17 => assumption
        (try simp only [Act.put, List.setIfInBounds_toArray, List.set_cons_zero, List.set_cons_succ])
        refine wpAnyT_take (i := 4) (oi := ?o18) (v := ?v18) ?h18 ?a18 ?b18 ?c18 ?d18 ?e18 ?f18 ?j18 ?q18 (Or.inl ⟨?g18, ?y18⟩) ?s18 ?r18
        case h18 => (simp only [List.getElem?_toArray, List.getElem?_cons_zero, List.getElem?_cons_succ]; rfl)
        case a18 => kernel_rfl
        case b18 => kernel_rfl
        case c18 => kernel_rfl
        case d18 => kernel_rfl
        case e18 => kernel_rfl
        case f18 => kernel_rfl
        case j18 => kernel_rfl
        case q18 => exact fun _ _ _ h => h
        case g18 => rfl
        case y18 => (intro wS hSw; obtain ⟨nS, rfl⟩ := hSw; go_simp; (try with_reducible rfl))
        case s18 => assumption
        (try simp only [Act.put, List.setIfInBounds_toArray, List.set_cons_zero, List.set_cons_succ])
        refine wpAnyT_take (i := 5) (oi := ?o19) (v := ?v19) ?h19 ?a19 ?b19 ?c19 ?d19 ?e19 ?f19 ?j19 ?q19 (Or.inl ⟨?g19, ?y19⟩) ?s19 ?r19
        case h19 => (simp only [List.getElem?_toArray, List.getElem?_cons_zero, List.getElem?_cons_succ]; rfl)
        case a19 => kernel_rfl
        case b19 => kernel_rfl
        case c19 => kernel_rfl
        case d19 => kernel_rfl
        case e19 => kernel_rfl
        case f19 => kernel_rfl
        case j19 => kernel_rfl
        case q19 => exact fun _ _ _ h => h
        case g19 => rfl
        case y19 => (intro wS hSw; obtain ⟨nS, rfl⟩ := hSw; go_simp; (try with_reducible rfl))
        case s19 => assumption
        (try simp only [Act.put, List.setIfInBounds_toArray, List.set_cons_zero, List.set_cons_succ])
        refine wpAnyT_take (i := 6) (oi := ?o20) (v := ?v20) ?h20 ?a20 ?b20 ?c20 ?d20 ?e20 ?f20 ?j20 ?q20 (Or.inl ⟨?g20, ?y20⟩) ?s20 ?r20
        case h20 => (simp only [List.getElem?_toArray, List.getElem?_cons_zero, List.getElem?_cons_succ]; rfl)
        case a20 => kernel_rfl
        case b20 => kernel_rfl
        case c20 => kernel_rfl
        case d20 => kernel_rfl
        case e20 => kernel_rfl
        case f20 => kernel_rfl
        case j20 => kernel_rfl
        case q20 => exact fun _ _ _ h => h
        case g20 => rfl
        case y20 => (intro wS hSw; obtain ⟨nS, rfl⟩ := hSw; go_simp; (try with_reducible rfl))
        case s20 => assumption
        (try simp only [Act.put, List.setIfInBounds_toArray, List.set_cons_zero, List.set_cons_succ])
        refine wpAnyT_take (i := 7) (oi := ?o21) (v := ?v21) ?h21 ?a21 ?b21 ?c21 ?d21 ?e21 ?f21 ?j21 ?q21 (Or.inl ⟨?g21, ?y21⟩) ?s21 ?r21
        case h21 => (simp only [List.getElem?_toArray, List.getElem?_cons_zero, List.getElem?_cons_succ]; rfl)
        case a21 => kernel_rfl
        case b21 => kernel_rfl
        case c21 => kernel_rfl
        case d21 => kernel_rfl
        case e21 => kernel_rfl
        case f21 => kernel_rfl
        case j21 => kernel_rfl
        case q21 => exact fun _ _ _ h => h
        case g21 => rfl
        case y21 => (intro wS hSw; obtain ⟨nS, rfl⟩ := hSw; go_simp; (try with_reducible rfl))
        case s21 => assumption
        (try simp only [Act.put, List.setIfInBounds_toArray, List.set_cons_zero, List.set_cons_succ])
        refine wpAnyT_take (i := 8) (oi := ?o22) (v := ?v22) ?h22 ?a22 ?b22 ?c22 ?d22 ?e22 ?f22 ?j22 ?q22 (Or.inl ⟨?g22, ?y22⟩) ?s22 ?r22
        case h22 => (simp only [List.getElem?_toArray, List.getElem?_cons_zero, List.getElem?_cons_succ]; rfl)
        case a22 => kernel_rfl
        case b22 => kernel_rfl
        case c22 => kernel_rfl
        case d22 => kernel_rfl
        case e22 => kernel_rfl
        case f22 => kernel_rfl
        case j22 => kernel_rfl
        case q22 => exact fun _ _ _ h => h
        case g22 => rfl
        case y22 => (intro wS hSw; obtain ⟨nS, rfl⟩ := hSw; go_simp; (try with_reducible rfl))
        case s22 => assumption
        (try simp only [Act.put, List.setIfInBounds_toArray, List.set_cons_zero, List.set_cons_succ])
        refine wpAnyT_take (i := 9) (oi := ?o23) (v := ?v23) ?h23 ?a23 ?b23 ?c23 ?d23 ?e23 ?f23 ?j23 ?q23 (Or.inl ⟨?g23, ?y23⟩) ?s23 ?r23
        case h23 => (simp only [List.getElem?_toArray, List.getElem?_cons_zero, List.getElem?_cons_succ]; rfl)
        case a23 => kernel_rfl
        case b23 => kernel_rfl
        case c23 => kernel_rfl
        case d23 => kernel_rfl
        case e23 => kernel_rfl
        case f23 => kernel_rfl
        case j23 => kernel_rfl
        case q23 => exact fun _ _ _ h => h
        case g23 => rfl
        case y23 => (intro wS hSw; obtain ⟨nS, rfl⟩ := hSw; go_simp; (try with_reducible rfl))
        case s23 => assumption
        (try simp only [Act.put, List.setIfInBounds_toArray, List.set_cons_zero, List.set_cons_succ])
        refine wpAnyT_take (i := 10) (oi := ?o24) (v := ?v24) ?h24 ?a24 ?b24 ?c24 ?d24 ?e24 ?f24 ?j24 ?q24 (Or.inl ⟨?g24, ?y24⟩) ?s24 ?r24
        case h24 => (simp only [List.getElem?_toArray, List.getElem?_cons_zero, List.getElem?_cons_succ]; rfl)
        case a24 => kernel_rfl
        case b24 => kernel_rfl
        case c24 => kernel_rfl
        case d24 => kernel_rfl
        case e24 => kernel_rfl
        case f24 => kernel_rfl
        case j24 => kernel_rfl
        case q24 => exact fun _ _ _ h => h
        case g24 => rfl
        case y24 => (intro wS hSw; obtain ⟨nS, rfl⟩ := hSw; go_simp; (try with_reducible rfl))
        case s24 => assumption
        (try simp only [Act.put, List.setIfInBounds_toArray, List.set_cons_zero, List.set_cons_succ])
        refine wpAnyT_take (i := 11) (oi := ?o25) (v := ?v25) ?h25 ?a25 ?b25 ?c25 ?d25 ?e25 ?f25 ?j25 ?q25 (Or.inl ⟨?g25, ?y25⟩) ?s25 ?r25
        case h25 => (simp only [List.getElem?_toArray, List.getElem?_cons_zero, List.getElem?_cons_succ]; rfl)
        case a25 => kernel_rfl
        case b25 => kernel_rfl
        case c25 => kernel_rfl
        case d25 => kernel_rfl
        case e25 => kernel_rfl
        case f25 => kernel_rfl
        case j25 => kernel_rfl
        case q25 => exact fun _ _ _ h => h
        case g25 => rfl
        case y25 => (intro wS hSw; obtain ⟨nS, rfl⟩ := hSw; go_simp; (try with_reducible rfl))
        case s25 => assumption
        (try simp only [Act.put, List.setIfInBounds_toArray, List.set_cons_zero, List.set_cons_succ])
        refine wpAnyT_take (i := 12) (oi := ?o26) (v := ?v26) ?h26 ?a26 ?b26 ?c26 ?d26 ?e26 ?f26 ?j26 ?q26 (Or.inl ⟨?g26, ?y26⟩) ?s26 ?r26
        case h26 => (simp only [List.getElem?_toArray, List.getElem?_cons_zero, List.getElem?_cons_succ]; rfl)
        case a26 => kernel_rfl
        case b26 => kernel_rfl
        case c26 => kernel_rfl
        case d26 => kernel_rfl
        case e26 => kernel_rfl
        case f26 => kernel_rfl
        case j26 => kernel_rfl
        case q26 => exact fun _ _ _ h => h
        case g26 => rfl
        case y26 => (intro wS hSw; obtain ⟨nS, rfl⟩ := hSw; go_simp; (try with_reducible rfl))
        case s26 => assumption
        (try simp only [Act.put, List.setIfInBounds_toArray, List.set_cons_zero, List.set_cons_succ])
        refine wpAnyT_ready (rs := [13]) (by kernel_rfl) (by simp) ?_
        refine AllReadyT.cons (o := ?oB27) ?hB27 ?kB27 AllReadyT.nil
        case hB27 => (simp only [List.getElem?_toArray, List.getElem?_cons_zero, List.getElem?_cons_succ]; rfl)
        case kB27 =>
          intro K hK
          go_simp
          refine HV.out.mono ?_
          rintro e w7 ⟨hk7, rfl, hr7⟩
          exact ⟨rfl, HNO.out _ hk7 hr7⟩
      | ok x =>
        obtain ⟨E2, qs2⟩ := x
        have hE := val_in L s N _ _ _ _ _ _ _ hsub HJ.out.2.2.2.1.2
        have HR2 : Hid (reps (val L s N) f.n (v.depth + 1) l a ps.length (j + 1) = .ok (E2, qs ++ qs2)) := Lib.hid (by
          rw [reps, HJ.out.2.2.1]; show (match val L s N f.n (v.depth + 1) E l (ps.length + qs.length) with | .error r => _ | .ok (e', qs') => _) = _; rw [hsub])
        have HV : Hid (Calls Tryz.prog 73 #[ptr rb, .int .i64 f.n, .int .i64 (v.depth + 1), .int .i64 EI, .int .i64 (l : Int)] wq.drew fun e w' => Kept (fun k => P k ∨ k = w.heap.size) wq.drew w' ∧ e = .returned (.int .i64 (E2 : Nat)) ∧ Rd w' (fun k => P k ∨ k = w.heap.size) o rb L s ((ps ++ qs) ++ qs2)) := Lib.hid (by have := HVC6.out; rw [hsub] at this; exact this)
        obtain ⟨E3, hE3⟩ : ∃ E3 : Int, (E2 : Int) = E3 := ⟨_, rfl⟩
        rw [hE3] at HV
        have HE3 := Lib.hid hE3
        clear hsub HVC6 hE3
        go_wp2_with fail
        refine wp_region_T 13 (fun w' : World => ∃ n : Nat, w' = wq.drewN n) (by kernel_rfl) ⟨1, rfl⟩ (fun hHeld => ?_)
        refine wpAnyT_take (i := 0) (oi := ?o28) (v := ?v28) ?h28 ?a28 ?b28 ?c28 ?d28 ?e28 ?f28 ?j28 ?q28 (Or.inl ⟨?g28, ?y28⟩) ?s28 ?r28
        case h28 => (simp only [List.getElem?_toArray, List.getElem?_cons_zero]; rfl)
        case a28 => kernel_rfl
        case b28 => kernel_rfl
        case c28 => kernel_rfl
        case d28 => kernel_rfl
        case e28 => kernel_rfl
        case f28 => kernel_rfl
        case j28 => kernel_rfl
        case q28 => exact fun _ _ _ h => h
        case g28 => rfl
        case y28 => (intro wS hSw; obtain ⟨nS, rfl⟩ := hSw; go_simp; (try with_reducible rfl))
        case s28 => assumption
        (try simp only [Act.put, List.setIfInBounds_toArray, List.set_cons_zero, List.set_cons_succ])
        refine wpAnyT_take (i := 1) (oi := ?o29) (v := ?v29) ?h29 ?a29 ?b29 ?c29 ?d29 ?e29 ?f29 ?j29 ?q29 (Or.inl ⟨?g29, ?y29⟩) ?s29 ?r29
        case h29 => (simp only [List.getElem?_toArray, List.getElem?_cons_zero, List.getElem?_cons_succ]; rfl)
        case a29 => kernel_rfl
        case b29 => kernel_rfl
        case c29 => kernel_rfl
        case d29 => kernel_rfl
        case e29 => kernel_rfl
        case f29 => kernel_rfl
        case j29 => kernel_rfl
        case q29 => exact fun _ _ _ h => h
        case g29 => rfl
        case y29 => (intro wS hSw; obtain ⟨nS, rfl⟩ := hSw; go_simp; (try with_reducible rfl))
        case s29 => assumption
        (try simp only [Act.put, List.setIfInBounds_toArray, List.set_cons_zero, List.set_cons_succ])
        refine wpAnyT_take (i := 2) (oi := ?o30) (v := ?v30) ?h30 ?a30 ?b30 ?c30 ?d30 ?e30 ?f30 ?j30 ?q30 (Or.inl ⟨?g30, ?y30⟩) ?s30 ?r30
        case h30 => (simp only [List.getElem?_toArray, List.getElem?_cons_zero, List.getElem?_cons_succ]; rfl)
        case a30 => kernel_rfl
        case b30 => kernel_rfl
        case c30 => kernel_rfl
        case d30 => kernel_rfl
        case e30 => kernel_rfl
        case f30 => kernel_rfl
        case j30 => kernel_rfl
        case q30 => exact fun _ _ _ h => h
        case g30 => rfl
        case y30 => (intro wS hSw; obtain ⟨nS, rfl⟩ := hSw; go_simp; (try with_reducible rfl))
        case s30 => assumption
        (try simp only [Act.put, List.setIfInBounds_toArray, List.set_cons_zero, List.set_cons_succ])
        refine wpAnyT_take (i := 3) (oi := ?o31) (v := ?v31) ?h31 ?a31 ?b31 ?c31 ?d31 ?e31 ?f31 ?j31 ?q31 (Or.inl ⟨?g31, ?y31⟩) ?s31 ?r31
        case h31 => (simp only [List.getElem?_toArray, List.getElem?_cons_zero, List.getElem?_cons_succ]; rfl)
        case a31 => kernel_rfl
        case b31 => kernel_rfl
        case c31 => kernel_rfl
        case d31 => kernel_rfl
        case e31 => kernel_rfl
        case f31 => kernel_rfl
        case j31 => kernel_rfl
        case q31 => exact fun _ _ _ h => h
        case g31 => rfl
        case y31 => (intro wS hSw; obtain ⟨nS, rfl⟩ := hSw; go_simp; (try with_reducible rfl))
        case s31 => assumption
        (try simp only [Act.put, List.setIfInBounds_toArray, List.set_cons_zero, List.set_cons_succ])
        refine wpAnyT_take (i := 4) (oi := ?o32) (v := ?v32) ?h32 ?a32 ?b32 ?c32 ?d32 ?e32 ?f32 ?j32 ?q32 (Or.inl ⟨?g32, ?y32⟩) ?s32 ?r32
        case h32 => (simp only [List.getElem?_toArray, List.getElem?_cons_zero, List.getElem?_cons_succ]; rfl)
        case a32 => kernel_rfl
        case b32 => kernel_rfl
        case c32 => kernel_rfl
        case d32 => kernel_rfl
        case e32 => kernel_rfl
        case f32 => kernel_rfl
        case j32 => kernel_rfl
        case q32 => exact fun _ _ _ h => h
        case g32 => rfl
        case y32 => (intro wS hSw; obtain ⟨nS, rfl⟩ := hSw; go_simp; (try with_reducible rfl))
        case s32 => assumption
        (try simp only [Act.put, List.setIfInBounds_toArray, List.set_cons_zero, List.set_cons_succ])
        refine wpAnyT_take (i := 5) (oi := ?o33) (v := ?v33) ?h33 ?a33 ?b33 ?c33 ?d33 ?e33 ?f33 ?j33 ?q33 (Or.inl ⟨?g33, ?y33⟩) ?s33 ?r33
        case h33 => (simp only [List.getElem?_toArray, List.getElem?_cons_zero, List.getElem?_cons_succ]; rfl)
        case a33 => kernel_rfl
        case b33 => kernel_rfl
        case c33 => kernel_rfl
        case d33 => kernel_rfl
        case e33 => kernel_rfl
        case f33 => kernel_rfl
        case j33 => kernel_rfl
        case q33 => exact fun _ _ _ h => h
        case g33 => rfl
        case y33 => (intro wS hSw; obtain ⟨nS, rfl⟩ := hSw; go_simp; (try with_reducible rfl))
        case s33 => assumption
        (try simp only [Act.put, List.setIfInBounds_toArray, List.set_cons_zero, List.set_cons_succ])
        refine wpAnyT_take (i := 6) (oi := ?o34) (v := ?v34) ?h34 ?a34 ?b34 ?c34 ?d34 ?e34 ?f34 ?j34 ?q34 (Or.inl ⟨?g34, ?y34⟩) ?s34 ?r34
        case h34 => (simp only [List.getElem?_toArray, List.getElem?_cons_zero, List.getElem?_cons_succ]; rfl)
        case a34 => kernel_rfl
        case b34 => kernel_rfl
        case c34 => kernel_rfl
        case d34 => kernel_rfl
        case e34 => kernel_rfl
        case f34 => kernel_rfl
        case j34 => kernel_rfl
        case q34 => exact fun _ _ _ h => h
        case g34 => rfl
        case y34 => (intro wS hSw; obtain ⟨nS, rfl⟩ := hSw; go_simp; (try with_reducible rfl))
        case s34 => assumption
        (try simp only [Act.put, List.setIfInBounds_toArray, List.set_cons_zero, List.set_cons_succ])
        refine wpAnyT_take (i := 7) (oi := ?o35) (v := ?v35) ?h35 ?a35 ?b35 ?c35 ?d35 ?e35 ?f35 ?j35 ?q35 (Or.inl ⟨?g35, ?y35⟩) ?s35 ?r35
        case h35 => (simp only [List.getElem?_toArray, List.getElem?_cons_zero, List.getElem?_cons_succ]; rfl)
        case a35 => kernel_rfl
        case b35 => kernel_rfl
        case c35 => kernel_rfl
        case d35 => kernel_rfl
        case e35 => kernel_rfl
        case f35 => kernel_rfl
        case j35 => kernel_rfl
        case q35 => exact fun _ _ _ h => h
        case g35 => rfl
        case y35 => (intro wS hSw; obtain ⟨nS, rfl⟩ := hSw; go_simp; (try with_reducible rfl))
        case s35 => assumption
        (try simp only [Act.put, List.setIfInBounds_toArray, List.set_cons_zero, List.set_cons_succ])
        refine wpAnyT_take (i := 8) (oi := ?o36) (v := ?v36) ?h36 ?a36 ?b36 ?c36 ?d36 ?e36 ?f36 ?j36 ?q36 (Or.inl ⟨?g36, ?y36⟩) ?s36 ?r36
        case h36 => (simp only [List.getElem?_toArray, List.getElem?_cons_zero, List.getElem?_cons_succ]; rfl)
        case a36 => kernel_rfl
        case b36 => kernel_rfl
        case c36 => kernel_rfl
        case d36 => kernel_rfl
        case e36 => kernel_rfl
        case f36 => kernel_rfl
        case j36 => kernel_rfl
        case q36 => exact fun _ _ _ h => h
        case g36 => rfl
        case y36 => (intro wS hSw; obtain ⟨nS, rfl⟩ := hSw; go_simp; (try with_reducible rfl))
        case s36 => assumption
        (try simp only [Act.put, List.setIfInBounds_toArray, List.set_cons_zero, List.set_cons_succ])
        refine wpAnyT_take (i := 9) (oi := ?o37) (v := ?v37) ?h37 ?a37 ?b37 ?c37 ?d37 ?e37 ?f37 ?j37 ?q37 (Or.inl ⟨?g37, ?y37⟩) ?s37 ?r37
        case h37 => (simp only [List.getElem?_toArray, List.getElem?_cons_zero, List.getElem?_cons_succ]; rfl)
        case a37 => kernel_rfl
        case b37 => kernel_rfl
        case c37 => kernel_rfl
        case d37 => kernel_rfl
        case e37 => kernel_rfl
        case f37 => kernel_rfl
        case j37 => kernel_rfl
        case q37 => exact fun _ _ _ h => h
        case g37 => rfl
        case y37 => (intro wS hSw; obtain ⟨nS, rfl⟩ := hSw; go_simp; (try with_reducible rfl))
        case s37 => assumption
        (try simp only [Act.put, List.setIfInBounds_toArray, List.set_cons_zero, List.set_cons_succ])
        refine wpAnyT_take (i := 10) (oi := ?o38) (v := ?v38) ?h38 ?a38 ?b38 ?c38 ?d38 ?e38 ?f38 ?j38 ?q38 (Or.inl ⟨?g38, ?y38⟩) ?s38 ?r38
        case h38 => (simp only [List.getElem?_toArray, List.getElem?_cons_zero, List.getElem?_cons_succ]; rfl)
        case a38 => kernel_rfl
        case b38 => kernel_rfl
        case c38 => kernel_rfl
        case d38 => kernel_rfl
        case e38 => kernel_rfl
        case f38 => kernel_rfl
        case j38 => kernel_rfl
        case q38 => exact fun _ _ _ h => h
        case g38 => rfl
        case y38 => (intro wS hSw; obtain ⟨nS, rfl⟩ := hSw; go_simp; (try with_reducible rfl))
        case s38 => assumption
        (try simp only [Act.put, List.setIfInBounds_toArray, List.set_cons_zero, List.set_cons_succ])
        refine wpAnyT_take (i := 11) (oi := ?o39) (v := ?v39) ?h39 ?a39 ?b39 ?c39 ?d39 ?e39 ?f39 ?j39 ?q39 (Or.inl ⟨?g39, ?y39⟩) ?s39 ?r39
        case h39 => (simp only [List.getElem?_toArray, List.getElem?_cons_zero, List.getElem?_cons_succ]; rfl)
        case a39 => kernel_rfl
        case b39 => kernel_rfl
        case c39 => kernel_rfl
        case d39 => kernel_rfl
        case e39 => kernel_rfl
        case f39 => kernel_rfl
        case j39 => kernel_rfl
        case q39 => exact fun _ _ _ h => h
        case g39 => rfl
        case y39 => (intro wS hSw; obtain ⟨nS, rfl⟩ := hSw; go_simp; (try with_reducible rfl))
        case s39 => assumption
        (try simp only [Act.put, List.setIfInBounds_toArray, List.set_cons_zero, List.set_cons_succ])
        refine wpAnyT_take (i := 12) (oi := ?o40) (v := ?v40) ?h40 ?a40 ?b40 ?c40 ?d40 ?e40 ?f40 ?j40 ?q40 (Or.inl ⟨?g40, ?y40⟩) ?s40 ?r40
        case h40 => (simp only [List.getElem?_toArray, List.getElem?_cons_zero, List.getElem?_cons_succ]; rfl)
        case a40 => kernel_rfl
        case b40 => kernel_rfl
        case c40 => kernel_rfl
        case d40 => kernel_rfl
        case e40 => kernel_rfl
        case f40 => kernel_rfl
        case j40 => kernel_rfl
        case q40 => exact fun _ _ _ h => h
        case g40 => rfl
        case y40 => (intro wS hSw; obtain ⟨nS, rfl⟩ := hSw; go_simp; (try with_reducible rfl))
        case s40 => assumption
        (try simp only [Act.put, List.setIfInBounds_toArray, List.set_cons_zero, List.set_cons_succ])
        refine wpAnyT_ready (rs := [13]) (by kernel_rfl) (by simp) ?_
        refine AllReadyT.cons (o := ?oB41) ?hB41 ?kB41 AllReadyT.nil
        case hB41 => (simp only [List.getElem?_toArray, List.getElem?_cons_zero, List.getElem?_cons_succ]; rfl)
        case kB41 =>
          intro K hK
          go_simp
          refine HV.out.mono ?_
          rintro e w7 ⟨hk7, rfl, hr7⟩
          refine hK.out _ _ (no_more (by kernel_rfl)) ?_
          clear hK K
          (try simp only [Act.put, List.setIfInBounds_toArray, List.set_cons_zero, List.set_cons_succ])
          refine wpAnyT_any (i := 14) (oi := ?o42) (v := ?v42) ?h42 ?a42 ?b42 ?c42 ?d42 ?e42 ?j42 ?q42 (Or.inl ⟨?g42, ?y42⟩) ?s42 ?r42
          case h42 => (simp only [List.getElem?_toArray, List.getElem?_cons_zero, List.getElem?_cons_succ]; rfl)
          case a42 => kernel_rfl
          case b42 => kernel_rfl
          case c42 => kernel_rfl
          case d42 => kernel_rfl
          case e42 => kernel_rfl
          case j42 => kernel_rfl
          case q42 => exact fun _ _ _ h => h
          case g42 => rfl
          case y42 => (intro wS _; go_simp; (try with_reducible rfl))
          case s42 => exact no_more (by kernel_rfl)
          (try simp only [Act.put, List.setIfInBounds_toArray, List.set_cons_zero, List.set_cons_succ])
          refine wpAnyT_done (by kernel_rfl) ?_ _
          have hk : Kept (fun k => P k ∨ k = w.heap.size) W w7 := HJ.out.1.trans ((Kept.refl _ wq).drew.trans hk7)
          have HR := Lib.hid (And.intro hk hr7)
          clear hk7 hr7 hk d0 d5 c1
          go_wp2_with fail
          exact ⟨⟨j + 1, E2, E3, qs ++ qs2, by omega, rfl, by go_num, Lib.hid ⟨HR.out.1, by rw [← List.append_assoc]; exact HR.out.2, HR2.out, ⟨by have := HJ.out.2.2.2.1.1; omega, hE.2⟩, HE3.out.symm⟩⟩, by simp [intOf]; omega⟩
    · obtain rfl : j = T := by omega
      have hlt' : ¬ (j : Int) < n := by omega
      go_wp2_with fail
      go_ret2
      refine KPost.ok_ (en := E) (by rw [HRR.out, HJ.out.2.2.1, ← htl]; rfl) HJ.out.2.2.2.2 HEND.out.1 (HH.out.1.weak HJ.out.2.1 HEND.out.1.size fun k hk => .inl hk)
end
end RecK
section RecL
open Go.RowKit Fx Rec

theorem infoPart : (Tryz.prog.info? 26).map (fun i => (i.zero, i.size, i.bytes)) = some (some (.agg #[.int .i64 0, .int .i64 0, .int .i64 0, .int .i64 0, .int .i64 0, .int .i64 0]), 6, 48) := by kernel_rfl
theorem run_append_part (w : World) (ty : TypeId) (v : Value) (n : Nat) (xs : List Value) (hown : w.ownsRow 0 26 6 v n xs) (hn : n ≤ 100000) (g : Nat) (p : Pt) (hg : w.heap[g]? = some (.cells (ptC p).toArray 26 (0, 0))) :
    ∃ v' w', (Builtin.append_ #[38, 38] ty #[v, .slice (some ⟨g, 0, none⟩) 1 1]).run Tryz.prog w = .ok v' w' ∧ Grew w w' 0 26 6 v v' (n + 1) (xs ++ ptC p) := by
  obtain ⟨i0, hi, hz0, hz1, hz2⟩ := info_parts infoPart
  obtain ⟨v', w', h1, h2, h3, _, h5⟩ := run_append_own_at (P := Tryz.prog) w 0 38 ty 26 i0 _ 6 48 Tryz.underlying38 hi hz0 hz1 hz2 rfl (by decide) v n xs hown ⟨g, 0, none⟩ 1 1 (ptC p) rfl
    (fun j u hu => by
      have hadd : (⟨g, 0, none⟩ : Addr).add j = ⟨g, j, none⟩ := by unfold Addr.add; split <;> simp_all
      rw [hadd, cell_of_row w g j _ _ _ hg]; simpa using hu)
    (fun u hu => by simp [ptC] at hu; rcases hu with rfl | rfl | rfl | rfl | rfl | rfl <;> rfl) (by unfold maxLen; omega) (by omega) (Nat.zero_le _)
  exact ⟨v', w', h1, h2, h3, h5⟩
theorem step_append_part {ops : Array Oper} {o : Oper} {a : Act} {w : World} {K : Act → World → Prop} {Q : Exit → Act → World → Prop} {E : Prop}
    (hg : o.guard = none) (s x : Operand) (hop : o.op = Op.call { callee := Callee.builtin Builtin.append, args := #[s, x], argTypes := #[38, 38] })
    (v : Value) (n : Nat) (xs : List Value) (hs : a.eval s = v) (hown : w.ownsRow 0 26 6 v n xs) (hn : n ≤ 100000) (g : Nat) (p : Pt) (hx : a.eval x = .slice (some ⟨g, 0, none⟩) 1 1)
    (hb : w.heap[g]? = some (.cells (ptC p).toArray 26 (0, 0)))
    (hK : ∀ v' w', Grew w w' 0 26 6 v v' (n + 1) (xs ++ ptC p) → K (a.put o.dst v') w') :
    if Region.wanted o (yielded ops a.tmps) = true then Oper.wp Tryz.prog o a w K Q else E := by
  have hw : Region.wanted o (yielded ops a.tmps) = true := by simp [Region.wanted, hg]
  rw [if_pos hw]
  obtain ⟨v', w', hr, h2⟩ := run_append_part w o.type v n xs hown hn g p hb
  unfold Oper.wp
  simp [execOp, hop, resolve, invoke, builtin, hs, hx, hr, Result.andThen]
  exact hK _ _ h2

theorem own_set {w : World} {B : Nat} {e : TypeId} {sz : Nat} {v : Value} {n : Nat} {xs : List Value} (h : w.ownsRow B e sz v n xs) {g : Nat} (hg : v.ownBlock = some g) {i : Nat} (_hi : i < n * sz) (u : Value) :
    (w.setCell ⟨g, i, none⟩ u).ownsRow B e sz v n (xs.set i u) := by
  obtain ⟨h0, h⟩ := h
  refine ⟨by rw [List.length_set]; exact h0, ?_⟩
  rcases h with ⟨rfl, _⟩ | ⟨g', cap, cur, rfl, hg', hh, h1, h2, h3, h4⟩
  · simp [Value.ownBlock] at hg
  · have : g' = g := by simpa [Value.ownBlock] using hg
    subst this
    refine .inr ⟨g', cap, cur.setIfInBounds i u, rfl, hg', ?_, h1, h2, by simp [h3], ?_⟩
    · exact (show Blk w g' e cur from hh).set_ i u
    · rw [Array.toList_setIfInBounds, List.take_set, h4]
theorem own_cell {w : World} {B : Nat} {e : TypeId} {sz : Nat} {v : Value} {n : Nat} {xs : List Value} (h : w.ownsRow B e sz v n xs) {g : Nat} (hg : v.ownBlock = some g) {i : Nat} (hi : i < n * sz) :
    w.cell? ⟨g, i, none⟩ = xs[i]? ∧ w.frozen? ⟨g, i, none⟩ = false := by
  rcases h.2 with ⟨rfl, _⟩ | ⟨g', cap, cur, rfl, hg', hh, h1, h2, h3, h4⟩
  · simp [Value.ownBlock] at hg
  · have : g' = g := by simpa [Value.ownBlock] using hg
    subst this
    refine ⟨?_, (show Blk w g' e cur from hh).frozen i⟩
    rw [cell_of_row w g' i cur _ (0, 0) hh, ← h4, List.getElem?_take, if_pos hi]
    simp
theorem flatP_app (a b : List Pt) : flatP (a ++ b) = flatP a ++ flatP b := by unfold flatP; simp
theorem flatP_cons (p : Pt) (b : List Pt) : flatP (p :: b) = ptC p ++ flatP b := by unfold flatP; simp
theorem flatP_stop (ps qs : List Pt) (p : Pt) (E : Int) : (flatP (ps ++ p :: qs)).set (ps.length * 6 + 4) (.int .i64 E) = flatP (ps ++ { p with stop := E } :: qs) := by
  rw [flatP_app, flatP_app, flatP_cons, flatP_cons, List.set_append_right _ _ (by rw [flatP_len]; omega), flatP_len, show ps.length * 6 + 4 - ps.length * 6 = 4 by omega]
  rfl
theorem flatP_number (ps qs : List Pt) (p : Pt) (E : Int) : (flatP (ps ++ p :: qs)).set (ps.length * 6 + 5) (.int .i64 E) = flatP (ps ++ { p with number := E } :: qs) := by
  rw [flatP_app, flatP_app, flatP_cons, flatP_cons, List.set_append_right _ _ (by rw [flatP_len]; omega), flatP_len, show ps.length * 6 + 5 - ps.length * 6 = 5 by omega]
  rfl

/-- Where the parts lie. -/
structure PartsAt (w : World) (P : Nat → Prop) (rb : Nat) (ps : List Pt) (vp : Value) : Prop where
  cell : w.cell? ⟨rb, 4, none⟩ = some vp
  froz : w.frozen? ⟨rb, 4, none⟩ = false
  row : w.ownsRow 0 26 6 vp ps.length (flatP ps)
  shape : ∃ a c, vp = .slice a ps.length c ∧ ps.length ≤ 9223372036854775807 ∧ c ≤ 9223372036854775807 ∧ ps.length ≤ c
theorem Rd.parts {w : World} {P : Nat → Prop} {o : Ro} {rb : Nat} {L : List Fm} {s : ByteArray} {ps : List Pt} (h : Rd w P o rb L s ps) : ∃ vp, PartsAt w P rb ps vp := by
  obtain ⟨_, vp, k, vs, hm⟩ := h
  refine ⟨vp, by rw [hm.blk.cell]; rfl, hm.blk.frozen 4, hm.row, ?_⟩
  rcases hm.row.2 with ⟨rfl, h0⟩ | ⟨g, cap, cur, rfl, _, _, h1, h2, _⟩
  · exact ⟨none, 0, by rw [h0], by omega, by omega, by omega⟩
  · unfold maxLen at h2
    exact ⟨_, cap, rfl, by omega, by omega, h1⟩
/-- A part has been put behind. -/
theorem Rd.grow {w W w1 : World} {P : Nat → Prop} {o : Ro} {rb : Nat} {L : List Fm} {s : ByteArray} {ps : List Pt} (h : Rd w P o rb L s ps) (hl : ps.length < 5000) {vp v1 : Value} (hp : PartsAt w P rb ps vp) (p : Pt) (hb : Below w.heap.size w W)
    (hG : Grew W w1 0 26 6 vp v1 (ps.length + 1) (flatP ps ++ ptC p)) :
    (w1.cell? ⟨rb, 4, none⟩ = some vp ∧ w1.frozen? ⟨rb, 4, none⟩ = false) ∧ Kept P w (w1.setCell ⟨rb, 4, none⟩ v1) ∧ Rd (w1.setCell ⟨rb, 4, none⟩ v1) P o rb L s (ps ++ [p]) ∧ ∃ g c, v1 = .slice (some ⟨g, 0, none⟩) (ps.length + 1) c := by
  obtain ⟨hf, vp', k, vs, hm⟩ := h
  have evp : vp' = vp := by
    have h1 := hm.blk.cell 4
    rw [hp.cell] at h1
    simp only [List.getElem?_toArray, List.getElem?_cons_zero, List.getElem?_cons_succ, Option.some.injEq] at h1
    exact h1.symm
  subst evp
  have hrow := ownsRow_below hm.row hb
  have hblk : Blk W rb 112 _ := (hb.block _ hm.blk.lt).trans hm.blk
  have hblk1 := hG.blkOther hrow hblk (by decide)
  have hsb : Blk W o.sb 24 _ := (hb.block _ hm.sums.sb.lt).trans hm.sums.sb
  have hsb1 := hG.blkOther hrow hsb (by decide)
  have hab : Blk W o.ab 114 _ := (hb.block _ hf.ab.lt).trans hf.ab
  have hab1 := hG.blkOther hrow hab (by decide)
  have pin' : ∀ q, P q → q < W.heap.size := fun q hq => Nat.lt_of_lt_of_le (hf.pin q hq) hb.size
  have hk1 : Kept P w w1 := (Kept.of_below hb hf.pin).grown hG.grown pin' (fun q hq => hm.nP q hq)
  have hk2 : Kept P w (w1.setCell ⟨rb, 4, none⟩ v1) := hk1.setCell hf.nr _
  have hsr : w1.ownsRow 0 3 1 vs (k + 1) ((List.range (k + 1)).map fun i => Value.int .i64 (sumTo s i)) := by
    have h1 := ownsRow_below hm.sums.row hb
    refine own_keep h1 fun g cur hg hh => hG.heapOther hrow (lt_of_heap hh) fun cur' fr' e => ?_
    rw [hh] at e
    injection e with e
    injection e with _ e
    exact absurd e (by decide)
  have nv : ∀ q, v1.ownBlock = some q → ¬ P q := fun q hq hP => by
    rcases hG.blk with h | h
    · exact hm.nP q (h ▸ hq) hP
    · rw [h] at hq
      cases hq
      exact absurd (pin' _ hP) (by omega)
  have shape : ∃ g c, v1 = .slice (some ⟨g, 0, none⟩) (ps.length + 1) c := by
    rcases hG.own.2 with ⟨_, h0⟩ | ⟨g, cap, cur, rfl, _⟩
    · omega
    · exact ⟨g, cap, rfl⟩
  have ne : ∀ {q : Nat} {t : TypeId} {cs : Array Value}, Blk w1 q t cs → t ≠ 112 → q ≠ rb := fun hq ht e => Blk.ne_ hq hblk1 ht e
  refine ⟨⟨by rw [hblk1.cell]; rfl, hblk1.frozen 4⟩, hk2, ⟨hf.kept hk2, v1, k, vs, ⟨?_, ?_, hm.kle, ?_, by simp; omega, hm.nS, nv⟩⟩, shape⟩
  · exact hblk1.set_ 4 v1
  · refine ⟨(Below.heap_setCell _ _ _ _ (ne hsb1 (by decide))).trans hsb1, (Below.heap_setCell _ _ _ _ (ne hab1 (by decide))).trans hab1, own_keep hsr fun g cur hg hh => Below.heap_setCell _ _ _ _ (ne (t := 3) hh (by decide))⟩
  · rw [flatP_snoc, List.length_append, List.length_singleton]
    exact own_keep hG.own fun g cur hg hh => Below.heap_setCell _ _ _ _ (ne (t := 26) hh (by decide))
/-- A part has been completed. -/
theorem Rd.put {w : World} {P : Nat → Prop} {o : Ro} {rb : Nat} {L : List Fm} {s : ByteArray} {ps qs : List Pt} {p : Pt} (h : Rd w P o rb L s (ps ++ p :: qs)) {vp : Value} (hp : PartsAt w P rb (ps ++ p :: qs) vp) {g : Nat} (hg : vp.ownBlock = some g) (E n : Int) :
    (w.frozen? ⟨g, ps.length * 6 + 4, none⟩ = false ∧ w.frozen? ⟨g, ps.length * 6 + 5, none⟩ = false ∧ (w.cell? ⟨g, ps.length * 6 + 4, none⟩).isSome = true ∧ (w.cell? ⟨g, ps.length * 6 + 5, none⟩).isSome = true) ∧
    Kept P w ((w.setCell ⟨g, ps.length * 6 + 4, none⟩ (.int .i64 E)).setCell ⟨g, ps.length * 6 + 5, none⟩ (.int .i64 n)) ∧ Rd ((w.setCell ⟨g, ps.length * 6 + 4, none⟩ (.int .i64 E)).setCell ⟨g, ps.length * 6 + 5, none⟩ (.int .i64 n)) P o rb L s (ps ++ { p with stop := E, number := n } :: qs) := by
  obtain ⟨hf, vp', k, vs, hm⟩ := h
  have evp : vp' = vp := by
    have h1 := hm.blk.cell 4
    rw [hp.cell] at h1
    simp only [List.getElem?_toArray, List.getElem?_cons_zero, List.getElem?_cons_succ, Option.some.injEq] at h1
    exact h1.symm
  subst evp
  have hlen : (ps ++ p :: qs).length = ps.length + (qs.length + 1) := by simp
  have i4 : ps.length * 6 + 4 < (ps ++ p :: qs).length * 6 := by omega
  have i5 : ps.length * 6 + 5 < (ps ++ p :: qs).length * 6 := by omega
  have c4 := own_cell hm.row hg i4
  have c5 := own_cell hm.row hg i5
  have hPg := hm.nP g hg
  have hk : Kept P w ((w.setCell ⟨g, ps.length * 6 + 4, none⟩ (.int .i64 E)).setCell ⟨g, ps.length * 6 + 5, none⟩ (.int .i64 n)) := ((Kept.refl _ _).setCell hPg _).setCell hPg _
  have oth : ∀ q, q ≠ g → ((w.setCell ⟨g, ps.length * 6 + 4, none⟩ (.int .i64 E)).setCell ⟨g, ps.length * 6 + 5, none⟩ (.int .i64 n)).heap[q]? = w.heap[q]? := fun q hq =>
    (Below.heap_setCell _ _ _ _ hq).trans (Below.heap_setCell _ _ _ _ hq)
  have row := own_set (own_set hm.row hg i4 (.int .i64 E)) hg i5 (.int .i64 n)
  rw [flatP_stop, flatP_number] at row
  refine ⟨⟨c4.2, c5.2, ?_, ?_⟩, hk, hf.kept hk, vp', k, vs, ⟨(oth _ ?_).trans hm.blk, hm.sums.keep (oth _ ?_) (oth _ ?_) (fun q hq => oth q ?_), hm.kle, by simpa using row, by have := hm.len; simp at this ⊢; omega, hm.nS, hm.nP⟩⟩
  · rw [c4.1]; rw [List.getElem?_eq_getElem (by rw [flatP_len]; exact i4)]; rfl
  · rw [c5.1]; rw [List.getElem?_eq_getElem (by rw [flatP_len]; exact i5)]; rfl
  · exact fun e => own_ne hm.row hm.blk (by decide) hg e.symm
  · exact fun e => own_ne hm.row hm.sums.sb (by decide) hg e.symm
  · exact fun e => own_ne hm.row hm.sums.ab (by decide) hg e.symm
  · exact fun e => own_own_ne hm.sums.row hm.row (by decide) hq hg e
end RecL
section RecWr
namespace Rec
open Fx

/-- A number in bytes, the highest one first. -/
def nbytes : Nat → Int → List UInt8
  | 0, _ => []
  | w + 1, n => nbytes w (n / 256) ++ [UInt8.ofNat (n % 256).toNat]
theorem nbytes_len (w : Nat) (n : Int) : (nbytes w n).length = w := by
  induction w generalizing n with
  | zero => rfl
  | succ w ih => rw [nbytes, List.length_append, ih]; rfl
/-- Bytes are laid over others. -/
def patch (st : List UInt8) (at_ : Nat) (b : List UInt8) : List UInt8 := st.take at_ ++ (b ++ st.drop (at_ + b.length))

/-- A writer: what is written, the values that are left, how many fields have begun, the checksums to come (where their value and they begin, their width). -/
structure Ws where
  st : List UInt8
  vals : List ByteArray
  parts : Nat
  checks : List (Nat × Nat × Nat)
/-- What the fields before one have left: the numbers that were given, and where numbers wait for a length. -/
structure Dr where
  counts : List Int
  lens : List (Nat × Nat)
def waits (fs : List Fld) (k : Nat) : Bool := fs.any fun f => decide (f.frm = (k : Int)) && !decide (f.kind = 4)
def addW (σ : Ws) (b : List UInt8) : Option Ws := if σ.st.length + b.length ≤ 65536 then some { σ with st := σ.st ++ b } else none
def nextW (σ : Ws) : Option (ByteArray × Ws) :=
  match σ.vals with
  | [] => none
  | v :: t => some (v, { σ with vals := t })
def fill (σ : Ws) (h : Nat × Nat) (n : Int) : Option Ws := if n < 256 ^ h.2 then some { σ with st := patch σ.st h.1 (nbytes h.2 n) } else none
abbrev WSub := Int → Ws → Option Ws
def wreps (sub : WSub) (id : Int) : Nat → Ws → Option Ws
  | 0, σ => some σ
  | n + 1, σ => (sub id σ).bind fun σ1 => wreps sub id n σ1
/-- What a field leaves: its number if it is given, where it waits, the writer. -/
abbrev Left := Int × (Nat × Nat) × Ws
def left0 (σ : Ws) : Left := (0, (0, 0), σ)
def wtext (f : Fld) (σ : Ws) : Option Left := (addW σ f.text.data.toList).map left0
def wwait (f : Fld) (σ : Ws) : Option Left := (addW σ (List.replicate f.n.toNat 0)).map fun σ1 => (0, (σ.st.length, f.n.toNat), σ1)
def wgiven (f : Fld) (σ : Ws) : Option Left :=
  (nextW σ).bind fun p => if (p.1.size : Int) = f.n then (addW p.2 p.1.data.toList).map fun σ1 => (num p.1, (0, 0), σ1) else none
def wbytes (f : Fld) (d : Dr) (σ : Ws) : Option Left :=
  (nextW σ).bind fun p => (addW p.2 p.1.data.toList).bind fun σ1 =>
    if f.frm = -1 then (if (p.1.size : Int) = f.n then some (left0 σ1) else none) else (fill σ1 (d.lens.getD f.frm.toNat (0, 0)) p.1.size).map left0
def wlist (sub : WSub) (f : Fld) (d : Dr) (σ : Ws) : Option Left := (wreps sub f.n (d.counts.getD f.frm.toNat 0).toNat σ).map left0
def winside (sub : WSub) (f : Fld) (d : Dr) (σ : Ws) : Option Left :=
  (sub f.n σ).bind fun σ1 => (fill σ1 (d.lens.getD f.frm.toNat (0, 0)) ((σ1.st.length : Int) - σ.st.length)).map left0
def wcheck (f : Fld) (start : Nat) (σ : Ws) : Option Left :=
  (addW σ (List.replicate f.n.toNat 0)).map fun σ1 => left0 { σ1 with checks := σ1.checks ++ [(start, σ.st.length, f.n.toNat)] }
def wkind (sub : WSub) (fs : List Fld) (start k : Nat) (f : Fld) (d : Dr) (σ : Ws) : Option Left :=
  if f.kind = 1 then wtext f σ
  else if f.kind = 2 then (if waits fs k then wwait f σ else wgiven f σ)
  else if f.kind = 3 then wbytes f d σ
  else if f.kind = 4 then wlist sub f d σ
  else if f.kind = 5 then winside sub f d σ
  else wcheck f start σ
def wnext (sub : WSub) (fs : List Fld) (start k : Nat) (f : Fld) (d : Dr) (σ : Ws) : Option Left :=
  if σ.parts < 5000 then wkind sub fs start k f d { σ with parts := σ.parts + 1 } else none
def wflds (sub : WSub) (fs : List Fld) (start : Nat) : List Fld → Nat → Dr → Ws → Option Ws
  | [], _, _, σ => some σ
  | f :: t, k, d, σ => (wnext sub fs start k f d σ).bind fun p => wflds sub fs start t (k + 1) ⟨d.counts ++ [p.1], d.lens ++ [p.2.1]⟩ p.2.2
def wval (L : List Fm) : Nat → WSub
  | 0 => fun _ _ => none
  | n + 1 => fun id σ => wflds (wval L n) (fieldsOf L id) σ.st.length (fieldsOf L id) 0 ⟨[], []⟩ σ
/-- The checksums are laid, in their order. -/
def sumOf (st : List UInt8) (n : Nat) : Int := sumL (st.take n)
def lay1 (st : List UInt8) (c : Nat × Nat × Nat) : List UInt8 := patch st c.2.1 (nbytes c.2.2 ((sumOf st c.2.1 - sumOf st c.1) % 256 ^ c.2.2))
def layAll (st : List UInt8) (cs : List (Nat × Nat × Nat)) : List UInt8 := cs.foldl lay1 st
def bytesOf (l : List UInt8) : ByteArray := ⟨l.toArray⟩
def wwhole (L : List Fm) (id : Int) (vs : List ByteArray) : Option ByteArray :=
  if has L id then (wval L 61 id ⟨[], vs, 0, []⟩).bind fun σ => if σ.vals = [] then some (bytesOf (layAll σ.st σ.checks)) else none else none
/-- What Write tells. -/
def writ (L : List Fm) (id : Int) (vs : List ByteArray) : Option ByteArray := if vd L = true then wwhole L id vs else none

/-! the examples of the chapter -/
def lit (l : List UInt8) : ByteArray := bytesOf l
def tab0 : List Fm := [⟨2, [⟨1, 0, -1, lit [77, 90]⟩, ⟨2, 2, -1, lit []⟩, ⟨3, 0, 1, lit []⟩]⟩, ⟨7, [⟨2, 1, -1, lit []⟩, ⟨5, 2, 0, lit []⟩, ⟨6, 1, -1, lit []⟩]⟩]
example : vd tab0 = true := by decide
example : mtch tab0 2 (lit [77, 90, 0, 1, 120]) = .ok [⟨0, 2, 0, 0, 2, 0⟩, ⟨0, 2, 1, 2, 4, 1⟩, ⟨0, 2, 2, 4, 5, 0⟩] := by rfl
example : mtch tab0 2 (lit [77, 91, 0, 0]) = .error ⟨0, 2, 0, 2⟩ := by rfl
example : mtch tab0 2 (lit [77, 90, 0, 2, 120]) = .error ⟨4, 2, 2, 1⟩ := by rfl
example : mtch tab0 2 (lit [77, 90, 0, 0, 120]) = .error ⟨4, 2, 3, 4⟩ := by rfl
example : writ tab0 7 [lit [120]] = some (lit [5, 77, 90, 0, 1, 120, 0x25]) := by decide +kernel
example : mtch tab0 7 (lit [6, 77, 90, 0, 1, 120, 0x25]) = .error ⟨6, 7, 1, 4⟩ := by rfl
end Rec
end RecWr
end Go.Proofs.YtlhobhfmombjjaaGreatDoor
