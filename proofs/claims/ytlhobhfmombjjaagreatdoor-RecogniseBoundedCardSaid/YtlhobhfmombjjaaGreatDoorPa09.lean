/- The recogniser of checksums. Conditions: the reader and the value lie in memory, the value's numbers are small and it is protected, the field is a right one. -/
import Derived.Test.YtlhobhfmombjjaaGreatDoorPa08
namespace Go.Proofs.YtlhobhfmombjjaaGreatDoor
open Go.RowKit Fx Rec

theorem KPost.ok_ {w w' : World} {P : Nat → Prop} {o : Ro} {rb : Nat} {L : List Fm} {s : ByteArray} {ps qs : List Pt} {E : Int} {n : Int} {en : Nat} {r : Except Rf (Nat × Int × List Pt)} (hr : r = .ok (en, n, qs)) (he : E = en) (hk : Kept P w w') (h : Rd w' P o rb L s (ps ++ qs)) :
    KPost w P o rb L s ps r (.returned (.tuple #[.int .i64 E, .int .i64 n])) w' := by
  subst hr he
  exact ⟨hk, rfl, h⟩
theorem KPost.no_ {w w' : World} {P : Nat → Prop} {o : Ro} {rb : Nat} {L : List Fm} {s : ByteArray} {ps ps' : List Pt} {f : Rf} {r : Except Rf (Nat × Int × List Pt)} (hr : r = .error f) (hk : Kept P w w') (h : Rd w' P o rb L s ps') : KPost w P o rb L s ps r (Stops f) w' := by
  subst hr
  exact ⟨hk, rfl, ps', h⟩
theorem Rd.sumF_ {w : World} {P : Nat → Prop} {o : Ro} {rb : Nat} {L : List Fm} {s : ByteArray} {ps : List Pt} (h : Rd w P o rb L s ps) : w.cell? ⟨rb, 3, none⟩ = some (sumF o) := by
  obtain ⟨_, vp, k, vs, hm⟩ := h
  rw [hm.blk.cell]; rfl
theorem pow_pos {n : Int} (h1 : 1 ≤ n) (h3 : n ≤ 3) : 0 < pow n ∧ pow n ≤ 16777216 := by
  obtain rfl | rfl | rfl : n = 1 ∨ n = 2 ∨ n = 3 := by omega
  all_goals exact ⟨by decide, by decide⟩
theorem Rd.keptN {w : World} {P : Nat → Prop} {o : Ro} {rb : Nat} {L : List Fm} {s : ByteArray} {ps : List Pt} (h : Rd w P o rb L s ps) (n : Nat) : Rd (w.drewN n) P o rb L s ps := h.below (drewN_below w n)

section
variable {w : World} {P : Nat → Prop} {o : Ro} {rb vb : Nat} {L : List Fm} {s : ByteArray} {ps : List Pt} {v : Vl} {f : Fld} {a l st k : Nat}
set_option maxRecDepth 20000 in
set_option maxHeartbeats 4000000 in
theorem rd_check (h : Rd w P o rb L s ps) (hv : VAt w vb v) (pv : P vb) (ok : VOk v) (hN : VNat v a l st k) (hl : l ≤ s.size) (f1 : 1 ≤ f.n) (f3 : f.n ≤ 3) :
    Calls Tryz.prog 72 #[ptr rb, ptr vb, fldV f] w fun e w' =>
      KPost w P o rb L s ps (short v.format k a l f.n.toNat (unlessB (decide (num (s.extract a (a + f.n.toNat)) = (sumTo s a - sumTo s st) % pow f.n)) ⟨a, v.format, k, 3⟩ (.ok (a + f.n.toNat, num (s.extract a (a + f.n.toNat)), [])))) e w' := by
  have na := hN.a
  have nl := hN.l
  have b0 := ok.at0
  have b1 := ok.lim
  have b2 := ok.max
  have b3 := ok.st1
  have b4 := hN.st
  have hbd := bx (w := w) (.cells #[.int .i64 f.kind, .int .i64 f.n, .int .i64 f.frm, .string f.text] 56)
  have hblk := Blk.new w 56 #[.int .i64 f.kind, .int .i64 f.n, .int .i64 f.frm, .string f.text]
  have hr1 := h.below hbd
  have HH := Lib.hid (And.intro h (And.intro hv (And.intro ok (And.intro hN pv))))
  have HV2 : Hid (∀ W, Below w.heap.size w W → VAt W vb v) := Lib.hid fun W hb => hv.keep (hb.block vb hv.blk.lt)
  obtain ⟨n, hn⟩ : ∃ n : Int, f.n = n := ⟨_, rfl⟩
  obtain ⟨bl, hbl⟩ : ∃ bl, bl = w.heap.size := ⟨_, rfl⟩
  rw [← hbl] at hblk
  have HB1 := Lib.hid (And.intro hbd (And.intro hr1 hblk))
  rw [hn] at HB1 f1 f3
  clear h hv ok hN pv hbd hblk hr1
  go_enter Tryz.func72, Tryz.ntmps72
  go_wp2_with fail
  by_cases hfit : n ≤ v.limit - v.at_
  · refine (after_yes vb v n _ (HV2.out _ (bx _)) HH.out.2.2.1 (by omega) (by omega) hfit).mono ?_
    rintro e w5 ⟨rfl, m5, hw⟩
    have hB : Below w.heap.size w w5 := by rw [hw]; exact (bx _).trans ((drewN_below _ _).mono (by simp))
    obtain ⟨-, -, -, -, c4, -⟩ := (HV2.out _ hB).cells
    have hr5 : Rd w5 P o rb L s ps := by rw [hw]; exact HB1.out.2.1.keptN m5
    have cs := hr5.stream
    have hb5 : Blk w5 bl 56 #[.int .i64 f.kind, .int .i64 n, .int .i64 f.frm, .string f.text] := by rw [hw]; exact HB1.out.2.2
    obtain ⟨X, hX⟩ : ∃ X, X = s.extract a (a + f.n.toNat) := ⟨_, rfl⟩
    have hsl : ∀ W, (Instr.slice 9 (.string s) (some (.int .i64 (a : Int))) (some (.int .i64 ((a : Int) + n))) none).run Tryz.prog W = .ok (.string X) W := by rw [hX]; exact str_slice rfl (by omega) (by omega)
    have hxs : X.size ≤ 3 := by rw [hX, ByteArray.size_extract]; omega
    have hr5' := hr5.add_ hb5 (by decide) (by decide) (by decide) (by decide)
    have HS0 : Hid (Kept (fun k => P k ∨ k = bl) w5 w5.drew ∧ Rd w5.drew (fun k => P k ∨ k = bl) o rb L s ps) := Lib.hid ⟨(Kept.refl _ _).drew, hr5'.keptN 1⟩
    have hv5 := HV2.out _ hB
    have pvb := HH.out.2.2.2.2
    have HV5 : Hid (∀ W, Kept (fun k => P k ∨ k = bl) w5 W → VAt W vb v) := Lib.hid fun W hk => hv5.keep (hk.block vb (.inl pvb))
    have HF : Hid (∀ W, (Kept (fun k => P k ∨ k = bl) w5 W ∧ Rd W (fun k => P k ∨ k = bl) o rb L s ps) → W.cell? ⟨rb, 3, none⟩ = some (sumF o) ∧ W.cell? ⟨vb, 4, none⟩ = some (.int .i64 (a : Int)) ∧ W.cell? ⟨vb, 3, none⟩ = some (.int .i64 (st : Int)) ∧ W.cell? ⟨w.heap.size, 1, none⟩ = some (.int .i64 n)) := Lib.hid fun W hS => by
      obtain ⟨-, -, -, d3, d4, -⟩ := (HV5.out _ hS.1).cells
      refine ⟨hS.2.sumF_, by rw [d4, na], by rw [d3, b4], ?_⟩
      have h1 : Blk W bl 56 #[.int .i64 f.kind, .int .i64 n, .int .i64 f.frm, .string f.text] := (hS.1.block bl (.inr rfl)).trans hb5
      rw [← hbl, h1.cell]; rfl
    have hSa : st ≤ a := by omega
    obtain ⟨A, hA⟩ : ∃ A, A = sumTo s a := ⟨_, rfl⟩
    obtain ⟨B, hBB⟩ : ∃ B, B = sumTo s st := ⟨_, rfl⟩
    obtain ⟨M, hM⟩ : ∃ M, M = pow n := ⟨_, rfl⟩
    obtain ⟨N, hNN⟩ : ∃ N, N = num X := ⟨_, rfl⟩
    have hmo := sumTo_mono s hSa
    have hba := sumTo_bound s a
    have hbb := sumTo_bound s st
    have hpp := pow_pos f1 f3
    rw [← hA] at hmo hba
    rw [← hBB] at hmo hbb
    rw [← hM] at hpp
    obtain ⟨D, hD⟩ : ∃ D, D = A - B := ⟨_, rfl⟩
    obtain ⟨R, hR⟩ : ∃ R, R = D % M := ⟨_, rfl⟩
    have hw1 : IntKind.i64.wrap (A - B) = D := by rw [wr64 (by omega) (by omega)]; exact hD.symm
    have hM0 : ¬ M = 0 := by omega
    have hRb : 0 ≤ R ∧ R < M := by rw [hR]; exact ⟨Int.emod_nonneg _ hM0, Int.emod_lt_of_pos _ hpp.1⟩
    have HRD : Hid (R = (A - B) % M) := Lib.hid (by rw [hR, hD])
    have hw2 : D.tmod M = R := by rw [Int.tmod_eq_emod_of_nonneg (by omega), hR]
    have hw3 : IntKind.i64.wrap R = R := wr64 (by omega) (by omega)
    have HQ := Lib.hid (And.intro (show a ≤ s.size by omega) (And.intro (show st ≤ s.size by omega) (And.intro hA.symm (And.intro hBB.symm hM.symm))))
    have HX := Lib.hid (And.intro hX hNN)
    have HB := Lib.hid hB
    have HEND : Hid (∀ W, (Kept (fun k => P k ∨ k = bl) w5 W ∧ Rd W (fun k => P k ∨ k = bl) o rb L s ps) → Kept P w W ∧ Rd W P o rb L s ps) := Lib.hid fun W hS =>
      ⟨(Kept.of_below hB HH.out.1.1.pin).trans (hS.1.mono fun k hk => .inl hk), hr5.weak hS.2 hS.1.size fun k hk => .inl hk⟩
    clear hw hB hbl hr5 hr5' hv5 hb5 hD hR hmo hba hbb hRb hA hBB hM hX hNN
    have hdrew : ∀ W : World, W.drew = W.drewN 1 := fun _ => rfl
    have HS1 : Hid (Kept (fun k => P k ∨ k = bl) w5 w5.drew.drew ∧ Rd w5.drew.drew (fun k => P k ∨ k = bl) o rb L s ps) := Lib.hid ⟨HS0.out.1.drew, HS0.out.2.keptN 1⟩
    have HYN : Hid (∀ W, (Kept (fun k => P k ∨ k = bl) w5 W ∧ Rd W (fun k => P k ∨ k = bl) o rb L s ps) → (N = R → KPost w P o rb L s ps (short v.format k a l f.n.toNat (unlessB (decide (num (s.extract a (a + f.n.toNat)) = (sumTo s a - sumTo s st) % pow f.n)) ⟨a, v.format, k, 3⟩ (.ok (a + f.n.toNat, num (s.extract a (a + f.n.toNat)), [])))) (.returned (.tuple #[.int .i64 ((a : Int) + n), .int .i64 N])) W) ∧
        (N ≠ R → ∀ m, KPost w P o rb L s ps (short v.format k a l f.n.toNat (unlessB (decide (num (s.extract a (a + f.n.toNat)) = (sumTo s a - sumTo s st) % pow f.n)) ⟨a, v.format, k, 3⟩ (.ok (a + f.n.toNat, num (s.extract a (a + f.n.toNat)), [])))) (Stops ⟨v.at_, v.format, v.field, 3⟩) (W.drewN m))) := Lib.hid fun W hS => by
      have e1 : num (s.extract a (a + f.n.toNat)) = N := by rw [HX.out.2, HX.out.1]
      have e2 : (sumTo s a - sumTo s st) % pow f.n = R := by rw [HRD.out, hn, HQ.out.2.2.1, HQ.out.2.2.2.1, HQ.out.2.2.2.2]
      obtain ⟨h1, h2⟩ := HEND.out W hS
      rw [e1, e2]
      refine ⟨fun hNR => KPost.ok_ (en := a + f.n.toNat) ?_ (by omega) h1 (by rw [List.append_nil]; exact h2), fun hNR m => ?_⟩
      · rw [short_yes (by omega), decide_eq_true hNR]; rfl
      · rw [HH.out.2.2.2.1.a, HH.out.2.2.2.1.k]
        refine KPost.no_ ?_ (h1.trans (Kept.of_below (drewN_below W m) h2.1.pin)) (h2.keptN m)
        rw [short_yes (by omega), decide_eq_false hNR]; rfl
    by_cases hNR : N = R
    · have hq : (N == R) = true := by rw [beq_iff_eq]; exact hNR
      have HYES : Hid (∀ W, (Kept (fun k => P k ∨ k = bl) w5 W ∧ Rd W (fun k => P k ∨ k = bl) o rb L s ps) → _) := Lib.hid fun W hS => (HYN.out W hS).1 hNR
      clear hNR
      go_wp2_with fail
      refine wp_region_held_drew (S := (fun w' : World => ∃ n : Nat, w' = w5.drewN n)) (by kernel_rfl) ⟨1, rfl⟩ (fun hHeld => ?_)
      refine wpAnyH_take (i := 0) (oi := ?o1) (v := ?v1) ?h1 ?a1 ?b1 ?c1 ?q1 (Or.inl ⟨?g1, ?y1⟩) ?s1 ?r1
      case h1 => (simp only [List.getElem?_toArray, List.getElem?_cons_zero]; rfl)
      case a1 => kernel_rfl
      case b1 => kernel_rfl
      case c1 => kernel_rfl
      case q1 => exact fun _ _ _ h => h
      case g1 => rfl
      case y1 => (intro wS hSw; obtain ⟨nS, rfl⟩ := hSw; go_simp; (try with_reducible rfl))
      case s1 => assumption
      (try simp only [Act.put, List.setIfInBounds_toArray, List.set_cons_zero, List.set_cons_succ])
      refine wpAnyH_take (i := 1) (oi := ?o2) (v := ?v2) ?h2 ?a2 ?b2 ?c2 ?q2 (Or.inl ⟨?g2, ?y2⟩) ?s2 ?r2
      case h2 => (simp only [List.getElem?_toArray, List.getElem?_cons_zero, List.getElem?_cons_succ]; rfl)
      case a2 => kernel_rfl
      case b2 => kernel_rfl
      case c2 => kernel_rfl
      case q2 => exact fun _ _ _ h => h
      case g2 => rfl
      case y2 => (intro wS hSw; obtain ⟨nS, rfl⟩ := hSw; go_simp; (try with_reducible rfl))
      case s2 => assumption
      (try simp only [Act.put, List.setIfInBounds_toArray, List.set_cons_zero, List.set_cons_succ])
      refine wpAnyH_take (i := 2) (oi := ?o3) (v := ?v3) ?h3 ?a3 ?b3 ?c3 ?q3 (Or.inl ⟨?g3, ?y3⟩) ?s3 ?r3
      case h3 => (simp only [List.getElem?_toArray, List.getElem?_cons_zero, List.getElem?_cons_succ]; rfl)
      case a3 => kernel_rfl
      case b3 => kernel_rfl
      case c3 => kernel_rfl
      case q3 => exact fun _ _ _ h => h
      case g3 => rfl
      case y3 => (intro wS hSw; obtain ⟨nS, rfl⟩ := hSw; go_simp; (try with_reducible rfl))
      case s3 => assumption
      (try simp only [Act.put, List.setIfInBounds_toArray, List.set_cons_zero, List.set_cons_succ])
      refine wpAnyH_take (i := 3) (oi := ?o4) (v := ?v4) ?h4 ?a4 ?b4 ?c4 ?q4 (Or.inl ⟨?g4, ?y4⟩) ?s4 ?r4
      case h4 => (simp only [List.getElem?_toArray, List.getElem?_cons_zero, List.getElem?_cons_succ]; rfl)
      case a4 => kernel_rfl
      case b4 => kernel_rfl
      case c4 => kernel_rfl
      case q4 => exact fun _ _ _ h => h
      case g4 => rfl
      case y4 => (intro wS hSw; obtain ⟨nS, rfl⟩ := hSw; go_simp; (try with_reducible rfl))
      case s4 => assumption
      (try simp only [Act.put, List.setIfInBounds_toArray, List.set_cons_zero, List.set_cons_succ])
      refine wpAnyH_take (i := 4) (oi := ?o5) (v := ?v5) ?h5 ?a5 ?b5 ?c5 ?q5 (Or.inl ⟨?g5, ?y5⟩) ?s5 ?r5
      case h5 => (simp only [List.getElem?_toArray, List.getElem?_cons_zero, List.getElem?_cons_succ]; rfl)
      case a5 => kernel_rfl
      case b5 => kernel_rfl
      case c5 => kernel_rfl
      case q5 => exact fun _ _ _ h => h
      case g5 => rfl
      case y5 => (intro wS hSw; obtain ⟨nS, rfl⟩ := hSw; go_simp; (try with_reducible rfl))
      case s5 => assumption
      (try simp only [Act.put, List.setIfInBounds_toArray, List.set_cons_zero, List.set_cons_succ])
      refine wpAnyH_take (i := 5) (oi := ?o6) (v := ?v6) ?h6 ?a6 ?b6 ?c6 ?q6 (Or.inl ⟨?g6, ?y6⟩) ?s6 ?r6
      case h6 => (simp only [List.getElem?_toArray, List.getElem?_cons_zero, List.getElem?_cons_succ]; rfl)
      case a6 => kernel_rfl
      case b6 => kernel_rfl
      case c6 => kernel_rfl
      case q6 => exact fun _ _ _ h => h
      case g6 => rfl
      case y6 => (intro wS hSw; obtain ⟨nS, rfl⟩ := hSw; go_simp; (try with_reducible rfl))
      case s6 => assumption
      (try simp only [Act.put, List.setIfInBounds_toArray, List.set_cons_zero, List.set_cons_succ])
      refine wpAnyH_take (i := 6) (oi := ?o7) (v := ?v7) ?h7 ?a7 ?b7 ?c7 ?q7 (Or.inl ⟨?g7, ?y7⟩) ?s7 ?r7
      case h7 => (simp only [List.getElem?_toArray, List.getElem?_cons_zero, List.getElem?_cons_succ]; rfl)
      case a7 => kernel_rfl
      case b7 => kernel_rfl
      case c7 => kernel_rfl
      case q7 => exact fun _ _ _ h => h
      case g7 => rfl
      case y7 => (intro wS hSw; obtain ⟨nS, rfl⟩ := hSw; go_simp; (try with_reducible rfl))
      case s7 => assumption
      (try simp only [Act.put, List.setIfInBounds_toArray, List.set_cons_zero, List.set_cons_succ])
      refine wpAnyH_take (i := 7) (oi := ?o8) (v := ?v8) ?h8 ?a8 ?b8 ?c8 ?q8 (Or.inl ⟨?g8, ?y8⟩) ?s8 ?r8
      case h8 => (simp only [List.getElem?_toArray, List.getElem?_cons_zero, List.getElem?_cons_succ]; rfl)
      case a8 => kernel_rfl
      case b8 => kernel_rfl
      case c8 => kernel_rfl
      case q8 => exact fun _ _ _ h => h
      case g8 => rfl
      case y8 => (intro wS hSw; obtain ⟨nS, rfl⟩ := hSw; go_simp; (try with_reducible rfl))
      case s8 => assumption
      (try simp only [Act.put, List.setIfInBounds_toArray, List.set_cons_zero, List.set_cons_succ])
      refine wpAnyH_take (i := 8) (oi := ?o9) (v := ?v9) ?h9 ?a9 ?b9 ?c9 ?q9 (Or.inl ⟨?g9, ?y9⟩) ?s9 ?r9
      case h9 => (simp only [List.getElem?_toArray, List.getElem?_cons_zero, List.getElem?_cons_succ]; rfl)
      case a9 => kernel_rfl
      case b9 => kernel_rfl
      case c9 => kernel_rfl
      case q9 => exact fun _ _ _ h => h
      case g9 => rfl
      case y9 => (intro wS hSw; obtain ⟨nS, rfl⟩ := hSw; go_simp; (try with_reducible rfl))
      case s9 => assumption
      (try simp only [Act.put, List.setIfInBounds_toArray, List.set_cons_zero, List.set_cons_succ])
      refine wpAnyH_take (i := 9) (oi := ?o10) (v := ?v10) ?h10 ?a10 ?b10 ?c10 ?q10 (Or.inl ⟨?g10, ?y10⟩) ?s10 ?r10
      case h10 => (simp only [List.getElem?_toArray, List.getElem?_cons_zero, List.getElem?_cons_succ]; rfl)
      case a10 => kernel_rfl
      case b10 => kernel_rfl
      case c10 => kernel_rfl
      case q10 => exact fun _ _ _ h => h
      case g10 => rfl
      case y10 => (intro wS hSw; obtain ⟨nS, rfl⟩ := hSw; go_simp; (try with_reducible rfl))
      case s10 => assumption
      (try simp only [Act.put, List.setIfInBounds_toArray, List.set_cons_zero, List.set_cons_succ])
      refine wpAnyH_ready (rs := [10]) (by kernel_rfl) (by simp) ?_
      refine AllReadyH.cons (o := ?oB11) ?hB11 ?kB11 AllReadyH.nil
      case hB11 => (simp only [List.getElem?_toArray, List.getElem?_cons_zero, List.getElem?_cons_succ]; rfl)
      case kB11 =>
        intro K hK
        go_simp
        refine (number_any X w5.drew hxs).mono ?_
        rintro e w6 ⟨rfl, rfl⟩
        rw [← HX.out.2]
        refine hK.out _ _ ⟨1, rfl⟩ (fun _ => ?_)
        clear hK K
        (try simp only [Act.put, List.setIfInBounds_toArray, List.set_cons_zero, List.set_cons_succ])
        refine wpAnyH_take (i := 11) (oi := ?o12) (v := ?v12) ?h12 ?a12 ?b12 ?c12 ?q12 (Or.inl ⟨?g12, ?y12⟩) ?s12 ?r12
        case h12 => (simp only [List.getElem?_toArray, List.getElem?_cons_zero, List.getElem?_cons_succ]; rfl)
        case a12 => kernel_rfl
        case b12 => kernel_rfl
        case c12 => kernel_rfl
        case q12 => exact fun _ _ _ h => h
        case g12 => rfl
        case y12 => (intro wS hSw; obtain ⟨nS, rfl⟩ := hSw; go_simp; (try with_reducible rfl))
        case s12 => assumption
        (try simp only [Act.put, List.setIfInBounds_toArray, List.set_cons_zero, List.set_cons_succ])
        refine wpAnyH_done (by kernel_rfl) ?_ _
        go_wp2_with fail
        refine wp_region_held_drew (S := (fun w' : World => Kept (fun k => P k ∨ k = bl) w5 w' ∧ Rd w' (fun k => P k ∨ k = bl) o rb L s ps)) (by kernel_rfl) HS1.out (fun hHeld => ?_)
        refine wpAnyH_take (i := 0) (oi := ?o13) (v := ?v13) ?h13 ?a13 ?b13 ?c13 ?q13 (Or.inl ⟨?g13, ?y13⟩) ?s13 ?r13
        case h13 => (simp only [List.getElem?_toArray, List.getElem?_cons_zero]; rfl)
        case a13 => kernel_rfl
        case b13 => kernel_rfl
        case c13 => kernel_rfl
        case q13 => exact fun _ _ _ h => h
        case g13 => rfl
        case y13 => (intro wS hSw; obtain ⟨s0, s1, s2, s3⟩ := HF.out _ hSw; go_simp; (try with_reducible rfl))
        case s13 => assumption
        (try simp only [Act.put, List.setIfInBounds_toArray, List.set_cons_zero, List.set_cons_succ])
        refine wpAnyH_take (i := 1) (oi := ?o14) (v := ?v14) ?h14 ?a14 ?b14 ?c14 ?q14 (Or.inl ⟨?g14, ?y14⟩) ?s14 ?r14
        case h14 => (simp only [List.getElem?_toArray, List.getElem?_cons_zero, List.getElem?_cons_succ]; rfl)
        case a14 => kernel_rfl
        case b14 => kernel_rfl
        case c14 => kernel_rfl
        case q14 => exact fun _ _ _ h => h
        case g14 => rfl
        case y14 => (intro wS hSw; obtain ⟨s0, s1, s2, s3⟩ := HF.out _ hSw; go_simp; (try with_reducible rfl))
        case s14 => assumption
        (try simp only [Act.put, List.setIfInBounds_toArray, List.set_cons_zero, List.set_cons_succ])
        refine wpAnyH_take (i := 2) (oi := ?o15) (v := ?v15) ?h15 ?a15 ?b15 ?c15 ?q15 (Or.inl ⟨?g15, ?y15⟩) ?s15 ?r15
        case h15 => (simp only [List.getElem?_toArray, List.getElem?_cons_zero, List.getElem?_cons_succ]; rfl)
        case a15 => kernel_rfl
        case b15 => kernel_rfl
        case c15 => kernel_rfl
        case q15 => exact fun _ _ _ h => h
        case g15 => rfl
        case y15 => (intro wS hSw; obtain ⟨s0, s1, s2, s3⟩ := HF.out _ hSw; go_simp; (try with_reducible rfl))
        case s15 => assumption
        (try simp only [Act.put, List.setIfInBounds_toArray, List.set_cons_zero, List.set_cons_succ])
        refine wpAnyH_take (i := 3) (oi := ?o16) (v := ?v16) ?h16 ?a16 ?b16 ?c16 ?q16 (Or.inl ⟨?g16, ?y16⟩) ?s16 ?r16
        case h16 => (simp only [List.getElem?_toArray, List.getElem?_cons_zero, List.getElem?_cons_succ]; rfl)
        case a16 => kernel_rfl
        case b16 => kernel_rfl
        case c16 => kernel_rfl
        case q16 => exact fun _ _ _ h => h
        case g16 => rfl
        case y16 => (intro wS hSw; obtain ⟨s0, s1, s2, s3⟩ := HF.out _ hSw; go_simp; (try with_reducible rfl))
        case s16 => assumption
        (try simp only [Act.put, List.setIfInBounds_toArray, List.set_cons_zero, List.set_cons_succ])
        refine wpAnyH_take (i := 4) (oi := ?o17) (v := ?v17) ?h17 ?a17 ?b17 ?c17 ?q17 (Or.inl ⟨?g17, ?y17⟩) ?s17 ?r17
        case h17 => (simp only [List.getElem?_toArray, List.getElem?_cons_zero, List.getElem?_cons_succ]; rfl)
        case a17 => kernel_rfl
        case b17 => kernel_rfl
        case c17 => kernel_rfl
        case q17 => exact fun _ _ _ h => h
        case g17 => rfl
        case y17 => (intro wS hSw; obtain ⟨s0, s1, s2, s3⟩ := HF.out _ hSw; go_simp; (try with_reducible rfl))
        case s17 => assumption
        (try simp only [Act.put, List.setIfInBounds_toArray, List.set_cons_zero, List.set_cons_succ])
        refine wpAnyH_take (i := 5) (oi := ?o18) (v := ?v18) ?h18 ?a18 ?b18 ?c18 ?q18 (Or.inl ⟨?g18, ?y18⟩) ?s18 ?r18
        case h18 => (simp only [List.getElem?_toArray, List.getElem?_cons_zero, List.getElem?_cons_succ]; rfl)
        case a18 => kernel_rfl
        case b18 => kernel_rfl
        case c18 => kernel_rfl
        case q18 => exact fun _ _ _ h => h
        case g18 => rfl
        case y18 => (intro wS hSw; obtain ⟨s0, s1, s2, s3⟩ := HF.out _ hSw; go_simp; (try with_reducible rfl))
        case s18 => assumption
        (try simp only [Act.put, List.setIfInBounds_toArray, List.set_cons_zero, List.set_cons_succ])
        refine wpAnyH_take (i := 6) (oi := ?o19) (v := ?v19) ?h19 ?a19 ?b19 ?c19 ?q19 (Or.inl ⟨?g19, ?y19⟩) ?s19 ?r19
        case h19 => (simp only [List.getElem?_toArray, List.getElem?_cons_zero, List.getElem?_cons_succ]; rfl)
        case a19 => kernel_rfl
        case b19 => kernel_rfl
        case c19 => kernel_rfl
        case q19 => exact fun _ _ _ h => h
        case g19 => rfl
        case y19 => (intro wS hSw; obtain ⟨s0, s1, s2, s3⟩ := HF.out _ hSw; go_simp; (try with_reducible rfl))
        case s19 => assumption
        (try simp only [Act.put, List.setIfInBounds_toArray, List.set_cons_zero, List.set_cons_succ])
        refine wpAnyH_take (i := 7) (oi := ?o20) (v := ?v20) ?h20 ?a20 ?b20 ?c20 ?q20 (Or.inl ⟨?g20, ?y20⟩) ?s20 ?r20
        case h20 => (simp only [List.getElem?_toArray, List.getElem?_cons_zero, List.getElem?_cons_succ]; rfl)
        case a20 => kernel_rfl
        case b20 => kernel_rfl
        case c20 => kernel_rfl
        case q20 => exact fun _ _ _ h => h
        case g20 => rfl
        case y20 => (intro wS hSw; obtain ⟨s0, s1, s2, s3⟩ := HF.out _ hSw; go_simp; (try with_reducible rfl))
        case s20 => assumption
        (try simp only [Act.put, List.setIfInBounds_toArray, List.set_cons_zero, List.set_cons_succ])
        refine wpAnyH_take (i := 8) (oi := ?o21) (v := ?v21) ?h21 ?a21 ?b21 ?c21 ?q21 (Or.inl ⟨?g21, ?y21⟩) ?s21 ?r21
        case h21 => (simp only [List.getElem?_toArray, List.getElem?_cons_zero, List.getElem?_cons_succ]; rfl)
        case a21 => kernel_rfl
        case b21 => kernel_rfl
        case c21 => kernel_rfl
        case q21 => exact fun _ _ _ h => h
        case g21 => rfl
        case y21 => (intro wS hSw; obtain ⟨s0, s1, s2, s3⟩ := HF.out _ hSw; go_simp; (try with_reducible rfl))
        case s21 => assumption
        (try simp only [Act.put, List.setIfInBounds_toArray, List.set_cons_zero, List.set_cons_succ])
        refine wpAnyH_take (i := 9) (oi := ?o22) (v := ?v22) ?h22 ?a22 ?b22 ?c22 ?q22 (Or.inl ⟨?g22, ?y22⟩) ?s22 ?r22
        case h22 => (simp only [List.getElem?_toArray, List.getElem?_cons_zero, List.getElem?_cons_succ]; rfl)
        case a22 => kernel_rfl
        case b22 => kernel_rfl
        case c22 => kernel_rfl
        case q22 => exact fun _ _ _ h => h
        case g22 => rfl
        case y22 => (intro wS hSw; obtain ⟨s0, s1, s2, s3⟩ := HF.out _ hSw; go_simp; (try with_reducible rfl))
        case s22 => assumption
        (try simp only [Act.put, List.setIfInBounds_toArray, List.set_cons_zero, List.set_cons_succ])
        refine wpAnyH_take (i := 11) (oi := ?o23) (v := ?v23) ?h23 ?a23 ?b23 ?c23 ?q23 (Or.inl ⟨?g23, ?y23⟩) ?s23 ?r23
        case h23 => (simp only [List.getElem?_toArray, List.getElem?_cons_zero, List.getElem?_cons_succ]; rfl)
        case a23 => kernel_rfl
        case b23 => kernel_rfl
        case c23 => kernel_rfl
        case q23 => exact fun _ _ _ h => h
        case g23 => rfl
        case y23 => (intro wS hSw; obtain ⟨s0, s1, s2, s3⟩ := HF.out _ hSw; go_simp; (try with_reducible rfl))
        case s23 => assumption
        (try simp only [Act.put, List.setIfInBounds_toArray, List.set_cons_zero, List.set_cons_succ])
        refine wpAnyH_take (i := 12) (oi := ?o24) (v := ?v24) ?h24 ?a24 ?b24 ?c24 ?q24 (Or.inl ⟨?g24, ?y24⟩) ?s24 ?r24
        case h24 => (simp only [List.getElem?_toArray, List.getElem?_cons_zero, List.getElem?_cons_succ]; rfl)
        case a24 => kernel_rfl
        case b24 => kernel_rfl
        case c24 => kernel_rfl
        case q24 => exact fun _ _ _ h => h
        case g24 => rfl
        case y24 => (intro wS hSw; obtain ⟨s0, s1, s2, s3⟩ := HF.out _ hSw; go_simp; (try with_reducible rfl))
        case s24 => assumption
        (try simp only [Act.put, List.setIfInBounds_toArray, List.set_cons_zero, List.set_cons_succ])
        refine wpAnyH_take (i := 13) (oi := ?o25) (v := ?v25) ?h25 ?a25 ?b25 ?c25 ?q25 (Or.inl ⟨?g25, ?y25⟩) ?s25 ?r25
        case h25 => (simp only [List.getElem?_toArray, List.getElem?_cons_zero, List.getElem?_cons_succ]; rfl)
        case a25 => kernel_rfl
        case b25 => kernel_rfl
        case c25 => kernel_rfl
        case q25 => exact fun _ _ _ h => h
        case g25 => rfl
        case y25 => (intro wS hSw; obtain ⟨s0, s1, s2, s3⟩ := HF.out _ hSw; go_simp; (try with_reducible rfl))
        case s25 => assumption
        (try simp only [Act.put, List.setIfInBounds_toArray, List.set_cons_zero, List.set_cons_succ])
        refine wpAnyH_take (i := 14) (oi := ?o26) (v := ?v26) ?h26 ?a26 ?b26 ?c26 ?q26 (Or.inl ⟨?g26, ?y26⟩) ?s26 ?r26
        case h26 => (simp only [List.getElem?_toArray, List.getElem?_cons_zero, List.getElem?_cons_succ]; rfl)
        case a26 => kernel_rfl
        case b26 => kernel_rfl
        case c26 => kernel_rfl
        case q26 => exact fun _ _ _ h => h
        case g26 => rfl
        case y26 => (intro wS hSw; obtain ⟨s0, s1, s2, s3⟩ := HF.out _ hSw; go_simp; (try with_reducible rfl))
        case s26 => assumption
        (try simp only [Act.put, List.setIfInBounds_toArray, List.set_cons_zero, List.set_cons_succ])
        refine wpAnyH_take (i := 15) (oi := ?o27) (v := ?v27) ?h27 ?a27 ?b27 ?c27 ?q27 (Or.inl ⟨?g27, ?y27⟩) ?s27 ?r27
        case h27 => (simp only [List.getElem?_toArray, List.getElem?_cons_zero, List.getElem?_cons_succ]; rfl)
        case a27 => kernel_rfl
        case b27 => kernel_rfl
        case c27 => kernel_rfl
        case q27 => exact fun _ _ _ h => h
        case g27 => rfl
        case y27 => (intro wS hSw; obtain ⟨s0, s1, s2, s3⟩ := HF.out _ hSw; go_simp; (try with_reducible rfl))
        case s27 => assumption
        (try simp only [Act.put, List.setIfInBounds_toArray, List.set_cons_zero, List.set_cons_succ])
        refine wpAnyH_take (i := 16) (oi := ?o28) (v := ?v28) ?h28 ?a28 ?b28 ?c28 ?q28 (Or.inl ⟨?g28, ?y28⟩) ?s28 ?r28
        case h28 => (simp only [List.getElem?_toArray, List.getElem?_cons_zero, List.getElem?_cons_succ]; rfl)
        case a28 => kernel_rfl
        case b28 => kernel_rfl
        case c28 => kernel_rfl
        case q28 => exact fun _ _ _ h => h
        case g28 => rfl
        case y28 => (intro wS hSw; obtain ⟨s0, s1, s2, s3⟩ := HF.out _ hSw; go_simp; (try with_reducible rfl))
        case s28 => assumption
        (try simp only [Act.put, List.setIfInBounds_toArray, List.set_cons_zero, List.set_cons_succ])
        refine wpAnyH_take (i := 17) (oi := ?o29) (v := ?v29) ?h29 ?a29 ?b29 ?c29 ?q29 (Or.inl ⟨?g29, ?y29⟩) ?s29 ?r29
        case h29 => (simp only [List.getElem?_toArray, List.getElem?_cons_zero, List.getElem?_cons_succ]; rfl)
        case a29 => kernel_rfl
        case b29 => kernel_rfl
        case c29 => kernel_rfl
        case q29 => exact fun _ _ _ h => h
        case g29 => rfl
        case y29 => (intro wS hSw; obtain ⟨s0, s1, s2, s3⟩ := HF.out _ hSw; go_simp; (try with_reducible rfl))
        case s29 => assumption
        (try simp only [Act.put, List.setIfInBounds_toArray, List.set_cons_zero, List.set_cons_succ])
        refine wpAnyH_take (i := 18) (oi := ?o30) (v := ?v30) ?h30 ?a30 ?b30 ?c30 ?q30 (Or.inl ⟨?g30, ?y30⟩) ?s30 ?r30
        case h30 => (simp only [List.getElem?_toArray, List.getElem?_cons_zero, List.getElem?_cons_succ]; rfl)
        case a30 => kernel_rfl
        case b30 => kernel_rfl
        case c30 => kernel_rfl
        case q30 => exact fun _ _ _ h => h
        case g30 => rfl
        case y30 => (intro wS hSw; obtain ⟨s0, s1, s2, s3⟩ := HF.out _ hSw; go_simp; (try with_reducible rfl))
        case s30 => assumption
        (try simp only [Act.put, List.setIfInBounds_toArray, List.set_cons_zero, List.set_cons_succ])
        refine wpAnyH_take (i := 21) (oi := ?o31) (v := ?v31) ?h31 ?a31 ?b31 ?c31 ?q31 (Or.inl ⟨?g31, ?y31⟩) ?s31 ?r31
        case h31 => (simp only [List.getElem?_toArray, List.getElem?_cons_zero, List.getElem?_cons_succ]; rfl)
        case a31 => kernel_rfl
        case b31 => kernel_rfl
        case c31 => kernel_rfl
        case q31 => exact fun _ _ _ h => h
        case g31 => rfl
        case y31 => (intro wS hSw; obtain ⟨s0, s1, s2, s3⟩ := HF.out _ hSw; go_simp; (try with_reducible rfl))
        case s31 => assumption
        (try simp only [Act.put, List.setIfInBounds_toArray, List.set_cons_zero, List.set_cons_succ])
        refine wpAnyH_take (i := 22) (oi := ?o32) (v := ?v32) ?h32 ?a32 ?b32 ?c32 ?q32 (Or.inl ⟨?g32, ?y32⟩) ?s32 ?r32
        case h32 => (simp only [List.getElem?_toArray, List.getElem?_cons_zero, List.getElem?_cons_succ]; rfl)
        case a32 => kernel_rfl
        case b32 => kernel_rfl
        case c32 => kernel_rfl
        case q32 => exact fun _ _ _ h => h
        case g32 => rfl
        case y32 => (intro wS hSw; obtain ⟨s0, s1, s2, s3⟩ := HF.out _ hSw; go_simp; (try with_reducible rfl))
        case s32 => assumption
        (try simp only [Act.put, List.setIfInBounds_toArray, List.set_cons_zero, List.set_cons_succ])
        refine wpAnyH_ready (rs := [10]) (by kernel_rfl) (by simp) ?_
        refine AllReadyH.cons (o := ?oB33) ?hB33 ?kB33 AllReadyH.nil
        case hB33 => (simp only [List.getElem?_toArray, List.getElem?_cons_zero, List.getElem?_cons_succ]; rfl)
        case kB33 =>
          intro K hK
          go_simp
          refine (rsum_any a hHeld.2 HQ.out.1).mono ?_
          rintro e w6 ⟨rfl, hk6, hr6⟩
          rw [HQ.out.2.2.1]
          refine hK.out _ _ ⟨hHeld.1.trans hk6, hr6⟩ (fun hH6 => ?_)
          clear hK K
          (try simp only [Act.put, List.setIfInBounds_toArray, List.set_cons_zero, List.set_cons_succ])
          refine wpAnyH_ready (rs := [19]) (by kernel_rfl) (by simp) ?_
          refine AllReadyH.cons (o := ?oB34) ?hB34 ?kB34 AllReadyH.nil
          case hB34 => (simp only [List.getElem?_toArray, List.getElem?_cons_zero, List.getElem?_cons_succ]; rfl)
          case kB34 =>
            intro K hK
            go_simp
            refine (rsum_any st hH6.2 HQ.out.2.1).mono ?_
            rintro e w7 ⟨rfl, hk7, hr7⟩
            rw [HQ.out.2.2.2.1]
            refine hK.out _ _ ⟨hH6.1.trans hk7, hr7⟩ (fun hH7 => ?_)
            clear hK K
            (try simp only [Act.put, List.setIfInBounds_toArray, List.set_cons_zero, List.set_cons_succ])
            refine wpAnyH_take (i := 20) (oi := ?o35) (v := ?v35) ?h35 ?a35 ?b35 ?c35 ?q35 (Or.inl ⟨?g35, ?y35⟩) ?s35 ?r35
            case h35 => (simp only [List.getElem?_toArray, List.getElem?_cons_zero, List.getElem?_cons_succ]; rfl)
            case a35 => kernel_rfl
            case b35 => kernel_rfl
            case c35 => kernel_rfl
            case q35 => exact fun _ _ _ h => h
            case g35 => rfl
            case y35 => (intro wS hSw; obtain ⟨s0, s1, s2, s3⟩ := HF.out _ hSw; go_simp; (try with_reducible rfl))
            case s35 => assumption
            (try simp only [Act.put, List.setIfInBounds_toArray, List.set_cons_zero, List.set_cons_succ])
            refine wpAnyH_ready (rs := [23]) (by kernel_rfl) (by simp) ?_
            refine AllReadyH.cons (o := ?oB36) ?hB36 ?kB36 AllReadyH.nil
            case hB36 => (simp only [List.getElem?_toArray, List.getElem?_cons_zero, List.getElem?_cons_succ]; rfl)
            case kB36 =>
              intro K hK
              go_simp
              refine (power_any n w7 f1 f3).mono ?_
              rintro e w8 ⟨rfl, rfl⟩
              rw [HQ.out.2.2.2.2]
              refine hK.out _ _ hH7 (fun _ => ?_)
              clear hK K
              (try simp only [Act.put, List.setIfInBounds_toArray, List.set_cons_zero, List.set_cons_succ])
              refine wpAnyH_take (i := 24) (oi := ?o37) (v := ?v37) ?h37 ?a37 ?b37 ?c37 ?q37 (Or.inl ⟨?g37, ?y37⟩) ?s37 ?r37
              case h37 => (simp only [List.getElem?_toArray, List.getElem?_cons_zero, List.getElem?_cons_succ]; rfl)
              case a37 => kernel_rfl
              case b37 => kernel_rfl
              case c37 => kernel_rfl
              case q37 => exact fun _ _ _ h => h
              case g37 => rfl
              case y37 => (intro wS hSw; obtain ⟨s0, s1, s2, s3⟩ := HF.out _ hSw; go_simp; (try with_reducible rfl))
              case s37 => assumption
              (try simp only [Act.put, List.setIfInBounds_toArray, List.set_cons_zero, List.set_cons_succ])
              refine wpAnyH_take (i := 25) (oi := ?o38) (v := ?v38) ?h38 ?a38 ?b38 ?c38 ?q38 (Or.inl ⟨?g38, ?y38⟩) ?s38 ?r38
              case h38 => (simp only [List.getElem?_toArray, List.getElem?_cons_zero, List.getElem?_cons_succ]; rfl)
              case a38 => kernel_rfl
              case b38 => kernel_rfl
              case c38 => kernel_rfl
              case q38 => exact fun _ _ _ h => h
              case g38 => rfl
              case y38 => (intro wS hSw; obtain ⟨s0, s1, s2, s3⟩ := HF.out _ hSw; go_simp; (try with_reducible rfl))
              case s38 => assumption
              (try simp only [Act.put, List.setIfInBounds_toArray, List.set_cons_zero, List.set_cons_succ])
              refine wpAnyH_ready (rs := [26]) (by kernel_rfl) (by simp) ?_
              refine AllReadyH.cons (o := ?oB39) ?hB39 ?kB39 AllReadyH.nil
              case hB39 => (simp only [List.getElem?_toArray, List.getElem?_cons_zero, List.getElem?_cons_succ]; rfl)
              case kB39 =>
                intro K hK
                go_simp
                refine (vrequire_yes _ _ _).mono ?_
                rintro e w9 ⟨rfl, rfl⟩
                refine hK.out _ _ hH7 (fun _ => ?_)
                clear hK K
                (try simp only [Act.put, List.setIfInBounds_toArray, List.set_cons_zero, List.set_cons_succ])
                refine wpAnyH_done (by kernel_rfl) ?_ _
                have HY := Lib.hid (HYES.out _ hH7)
                go_wp2
                go_ret2
                exact HY.out
    · have hq : (N == R) = false := by rw [beq_eq_false_iff_ne]; exact hNR
      have HNO : Hid (∀ (W : World) (m : Nat), (Kept (fun k => P k ∨ k = bl) w5 W ∧ Rd W (fun k => P k ∨ k = bl) o rb L s ps) → _) := Lib.hid fun W m hS => (HYN.out W hS).2 hNR m
      clear hNR
      go_wp2_with fail
      refine wp_region_held_drew (S := (fun w' : World => ∃ n : Nat, w' = w5.drewN n)) (by kernel_rfl) ⟨1, rfl⟩ (fun hHeld => ?_)
      refine wpAnyH_take (i := 0) (oi := ?o40) (v := ?v40) ?h40 ?a40 ?b40 ?c40 ?q40 (Or.inl ⟨?g40, ?y40⟩) ?s40 ?r40
      case h40 => (simp only [List.getElem?_toArray, List.getElem?_cons_zero]; rfl)
      case a40 => kernel_rfl
      case b40 => kernel_rfl
      case c40 => kernel_rfl
      case q40 => exact fun _ _ _ h => h
      case g40 => rfl
      case y40 => (intro wS hSw; obtain ⟨nS, rfl⟩ := hSw; go_simp; (try with_reducible rfl))
      case s40 => assumption
      (try simp only [Act.put, List.setIfInBounds_toArray, List.set_cons_zero, List.set_cons_succ])
      refine wpAnyH_take (i := 1) (oi := ?o41) (v := ?v41) ?h41 ?a41 ?b41 ?c41 ?q41 (Or.inl ⟨?g41, ?y41⟩) ?s41 ?r41
      case h41 => (simp only [List.getElem?_toArray, List.getElem?_cons_zero, List.getElem?_cons_succ]; rfl)
      case a41 => kernel_rfl
      case b41 => kernel_rfl
      case c41 => kernel_rfl
      case q41 => exact fun _ _ _ h => h
      case g41 => rfl
      case y41 => (intro wS hSw; obtain ⟨nS, rfl⟩ := hSw; go_simp; (try with_reducible rfl))
      case s41 => assumption
      (try simp only [Act.put, List.setIfInBounds_toArray, List.set_cons_zero, List.set_cons_succ])
      refine wpAnyH_take (i := 2) (oi := ?o42) (v := ?v42) ?h42 ?a42 ?b42 ?c42 ?q42 (Or.inl ⟨?g42, ?y42⟩) ?s42 ?r42
      case h42 => (simp only [List.getElem?_toArray, List.getElem?_cons_zero, List.getElem?_cons_succ]; rfl)
      case a42 => kernel_rfl
      case b42 => kernel_rfl
      case c42 => kernel_rfl
      case q42 => exact fun _ _ _ h => h
      case g42 => rfl
      case y42 => (intro wS hSw; obtain ⟨nS, rfl⟩ := hSw; go_simp; (try with_reducible rfl))
      case s42 => assumption
      (try simp only [Act.put, List.setIfInBounds_toArray, List.set_cons_zero, List.set_cons_succ])
      refine wpAnyH_take (i := 3) (oi := ?o43) (v := ?v43) ?h43 ?a43 ?b43 ?c43 ?q43 (Or.inl ⟨?g43, ?y43⟩) ?s43 ?r43
      case h43 => (simp only [List.getElem?_toArray, List.getElem?_cons_zero, List.getElem?_cons_succ]; rfl)
      case a43 => kernel_rfl
      case b43 => kernel_rfl
      case c43 => kernel_rfl
      case q43 => exact fun _ _ _ h => h
      case g43 => rfl
      case y43 => (intro wS hSw; obtain ⟨nS, rfl⟩ := hSw; go_simp; (try with_reducible rfl))
      case s43 => assumption
      (try simp only [Act.put, List.setIfInBounds_toArray, List.set_cons_zero, List.set_cons_succ])
      refine wpAnyH_take (i := 4) (oi := ?o44) (v := ?v44) ?h44 ?a44 ?b44 ?c44 ?q44 (Or.inl ⟨?g44, ?y44⟩) ?s44 ?r44
      case h44 => (simp only [List.getElem?_toArray, List.getElem?_cons_zero, List.getElem?_cons_succ]; rfl)
      case a44 => kernel_rfl
      case b44 => kernel_rfl
      case c44 => kernel_rfl
      case q44 => exact fun _ _ _ h => h
      case g44 => rfl
      case y44 => (intro wS hSw; obtain ⟨nS, rfl⟩ := hSw; go_simp; (try with_reducible rfl))
      case s44 => assumption
      (try simp only [Act.put, List.setIfInBounds_toArray, List.set_cons_zero, List.set_cons_succ])
      refine wpAnyH_take (i := 5) (oi := ?o45) (v := ?v45) ?h45 ?a45 ?b45 ?c45 ?q45 (Or.inl ⟨?g45, ?y45⟩) ?s45 ?r45
      case h45 => (simp only [List.getElem?_toArray, List.getElem?_cons_zero, List.getElem?_cons_succ]; rfl)
      case a45 => kernel_rfl
      case b45 => kernel_rfl
      case c45 => kernel_rfl
      case q45 => exact fun _ _ _ h => h
      case g45 => rfl
      case y45 => (intro wS hSw; obtain ⟨nS, rfl⟩ := hSw; go_simp; (try with_reducible rfl))
      case s45 => assumption
      (try simp only [Act.put, List.setIfInBounds_toArray, List.set_cons_zero, List.set_cons_succ])
      refine wpAnyH_take (i := 6) (oi := ?o46) (v := ?v46) ?h46 ?a46 ?b46 ?c46 ?q46 (Or.inl ⟨?g46, ?y46⟩) ?s46 ?r46
      case h46 => (simp only [List.getElem?_toArray, List.getElem?_cons_zero, List.getElem?_cons_succ]; rfl)
      case a46 => kernel_rfl
      case b46 => kernel_rfl
      case c46 => kernel_rfl
      case q46 => exact fun _ _ _ h => h
      case g46 => rfl
      case y46 => (intro wS hSw; obtain ⟨nS, rfl⟩ := hSw; go_simp; (try with_reducible rfl))
      case s46 => assumption
      (try simp only [Act.put, List.setIfInBounds_toArray, List.set_cons_zero, List.set_cons_succ])
      refine wpAnyH_take (i := 7) (oi := ?o47) (v := ?v47) ?h47 ?a47 ?b47 ?c47 ?q47 (Or.inl ⟨?g47, ?y47⟩) ?s47 ?r47
      case h47 => (simp only [List.getElem?_toArray, List.getElem?_cons_zero, List.getElem?_cons_succ]; rfl)
      case a47 => kernel_rfl
      case b47 => kernel_rfl
      case c47 => kernel_rfl
      case q47 => exact fun _ _ _ h => h
      case g47 => rfl
      case y47 => (intro wS hSw; obtain ⟨nS, rfl⟩ := hSw; go_simp; (try with_reducible rfl))
      case s47 => assumption
      (try simp only [Act.put, List.setIfInBounds_toArray, List.set_cons_zero, List.set_cons_succ])
      refine wpAnyH_take (i := 8) (oi := ?o48) (v := ?v48) ?h48 ?a48 ?b48 ?c48 ?q48 (Or.inl ⟨?g48, ?y48⟩) ?s48 ?r48
      case h48 => (simp only [List.getElem?_toArray, List.getElem?_cons_zero, List.getElem?_cons_succ]; rfl)
      case a48 => kernel_rfl
      case b48 => kernel_rfl
      case c48 => kernel_rfl
      case q48 => exact fun _ _ _ h => h
      case g48 => rfl
      case y48 => (intro wS hSw; obtain ⟨nS, rfl⟩ := hSw; go_simp; (try with_reducible rfl))
      case s48 => assumption
      (try simp only [Act.put, List.setIfInBounds_toArray, List.set_cons_zero, List.set_cons_succ])
      refine wpAnyH_take (i := 9) (oi := ?o49) (v := ?v49) ?h49 ?a49 ?b49 ?c49 ?q49 (Or.inl ⟨?g49, ?y49⟩) ?s49 ?r49
      case h49 => (simp only [List.getElem?_toArray, List.getElem?_cons_zero, List.getElem?_cons_succ]; rfl)
      case a49 => kernel_rfl
      case b49 => kernel_rfl
      case c49 => kernel_rfl
      case q49 => exact fun _ _ _ h => h
      case g49 => rfl
      case y49 => (intro wS hSw; obtain ⟨nS, rfl⟩ := hSw; go_simp; (try with_reducible rfl))
      case s49 => assumption
      (try simp only [Act.put, List.setIfInBounds_toArray, List.set_cons_zero, List.set_cons_succ])
      refine wpAnyH_ready (rs := [10]) (by kernel_rfl) (by simp) ?_
      refine AllReadyH.cons (o := ?oB50) ?hB50 ?kB50 AllReadyH.nil
      case hB50 => (simp only [List.getElem?_toArray, List.getElem?_cons_zero, List.getElem?_cons_succ]; rfl)
      case kB50 =>
        intro K hK
        go_simp
        refine (number_any X w5.drew hxs).mono ?_
        rintro e w6 ⟨rfl, rfl⟩
        rw [← HX.out.2]
        refine hK.out _ _ ⟨1, rfl⟩ (fun _ => ?_)
        clear hK K
        (try simp only [Act.put, List.setIfInBounds_toArray, List.set_cons_zero, List.set_cons_succ])
        refine wpAnyH_take (i := 11) (oi := ?o51) (v := ?v51) ?h51 ?a51 ?b51 ?c51 ?q51 (Or.inl ⟨?g51, ?y51⟩) ?s51 ?r51
        case h51 => (simp only [List.getElem?_toArray, List.getElem?_cons_zero, List.getElem?_cons_succ]; rfl)
        case a51 => kernel_rfl
        case b51 => kernel_rfl
        case c51 => kernel_rfl
        case q51 => exact fun _ _ _ h => h
        case g51 => rfl
        case y51 => (intro wS hSw; obtain ⟨nS, rfl⟩ := hSw; go_simp; (try with_reducible rfl))
        case s51 => assumption
        (try simp only [Act.put, List.setIfInBounds_toArray, List.set_cons_zero, List.set_cons_succ])
        refine wpAnyH_done (by kernel_rfl) ?_ _
        go_wp2_with fail
        refine wp_region_held_drew (S := (fun w' : World => Kept (fun k => P k ∨ k = bl) w5 w' ∧ Rd w' (fun k => P k ∨ k = bl) o rb L s ps)) (by kernel_rfl) HS1.out (fun hHeld => ?_)
        refine wpAnyH_take (i := 0) (oi := ?o52) (v := ?v52) ?h52 ?a52 ?b52 ?c52 ?q52 (Or.inl ⟨?g52, ?y52⟩) ?s52 ?r52
        case h52 => (simp only [List.getElem?_toArray, List.getElem?_cons_zero]; rfl)
        case a52 => kernel_rfl
        case b52 => kernel_rfl
        case c52 => kernel_rfl
        case q52 => exact fun _ _ _ h => h
        case g52 => rfl
        case y52 => (intro wS hSw; obtain ⟨s0, s1, s2, s3⟩ := HF.out _ hSw; go_simp; (try with_reducible rfl))
        case s52 => assumption
        (try simp only [Act.put, List.setIfInBounds_toArray, List.set_cons_zero, List.set_cons_succ])
        refine wpAnyH_take (i := 1) (oi := ?o53) (v := ?v53) ?h53 ?a53 ?b53 ?c53 ?q53 (Or.inl ⟨?g53, ?y53⟩) ?s53 ?r53
        case h53 => (simp only [List.getElem?_toArray, List.getElem?_cons_zero, List.getElem?_cons_succ]; rfl)
        case a53 => kernel_rfl
        case b53 => kernel_rfl
        case c53 => kernel_rfl
        case q53 => exact fun _ _ _ h => h
        case g53 => rfl
        case y53 => (intro wS hSw; obtain ⟨s0, s1, s2, s3⟩ := HF.out _ hSw; go_simp; (try with_reducible rfl))
        case s53 => assumption
        (try simp only [Act.put, List.setIfInBounds_toArray, List.set_cons_zero, List.set_cons_succ])
        refine wpAnyH_take (i := 2) (oi := ?o54) (v := ?v54) ?h54 ?a54 ?b54 ?c54 ?q54 (Or.inl ⟨?g54, ?y54⟩) ?s54 ?r54
        case h54 => (simp only [List.getElem?_toArray, List.getElem?_cons_zero, List.getElem?_cons_succ]; rfl)
        case a54 => kernel_rfl
        case b54 => kernel_rfl
        case c54 => kernel_rfl
        case q54 => exact fun _ _ _ h => h
        case g54 => rfl
        case y54 => (intro wS hSw; obtain ⟨s0, s1, s2, s3⟩ := HF.out _ hSw; go_simp; (try with_reducible rfl))
        case s54 => assumption
        (try simp only [Act.put, List.setIfInBounds_toArray, List.set_cons_zero, List.set_cons_succ])
        refine wpAnyH_take (i := 3) (oi := ?o55) (v := ?v55) ?h55 ?a55 ?b55 ?c55 ?q55 (Or.inl ⟨?g55, ?y55⟩) ?s55 ?r55
        case h55 => (simp only [List.getElem?_toArray, List.getElem?_cons_zero, List.getElem?_cons_succ]; rfl)
        case a55 => kernel_rfl
        case b55 => kernel_rfl
        case c55 => kernel_rfl
        case q55 => exact fun _ _ _ h => h
        case g55 => rfl
        case y55 => (intro wS hSw; obtain ⟨s0, s1, s2, s3⟩ := HF.out _ hSw; go_simp; (try with_reducible rfl))
        case s55 => assumption
        (try simp only [Act.put, List.setIfInBounds_toArray, List.set_cons_zero, List.set_cons_succ])
        refine wpAnyH_take (i := 4) (oi := ?o56) (v := ?v56) ?h56 ?a56 ?b56 ?c56 ?q56 (Or.inl ⟨?g56, ?y56⟩) ?s56 ?r56
        case h56 => (simp only [List.getElem?_toArray, List.getElem?_cons_zero, List.getElem?_cons_succ]; rfl)
        case a56 => kernel_rfl
        case b56 => kernel_rfl
        case c56 => kernel_rfl
        case q56 => exact fun _ _ _ h => h
        case g56 => rfl
        case y56 => (intro wS hSw; obtain ⟨s0, s1, s2, s3⟩ := HF.out _ hSw; go_simp; (try with_reducible rfl))
        case s56 => assumption
        (try simp only [Act.put, List.setIfInBounds_toArray, List.set_cons_zero, List.set_cons_succ])
        refine wpAnyH_take (i := 5) (oi := ?o57) (v := ?v57) ?h57 ?a57 ?b57 ?c57 ?q57 (Or.inl ⟨?g57, ?y57⟩) ?s57 ?r57
        case h57 => (simp only [List.getElem?_toArray, List.getElem?_cons_zero, List.getElem?_cons_succ]; rfl)
        case a57 => kernel_rfl
        case b57 => kernel_rfl
        case c57 => kernel_rfl
        case q57 => exact fun _ _ _ h => h
        case g57 => rfl
        case y57 => (intro wS hSw; obtain ⟨s0, s1, s2, s3⟩ := HF.out _ hSw; go_simp; (try with_reducible rfl))
        case s57 => assumption
        (try simp only [Act.put, List.setIfInBounds_toArray, List.set_cons_zero, List.set_cons_succ])
        refine wpAnyH_take (i := 6) (oi := ?o58) (v := ?v58) ?h58 ?a58 ?b58 ?c58 ?q58 (Or.inl ⟨?g58, ?y58⟩) ?s58 ?r58
        case h58 => (simp only [List.getElem?_toArray, List.getElem?_cons_zero, List.getElem?_cons_succ]; rfl)
        case a58 => kernel_rfl
        case b58 => kernel_rfl
        case c58 => kernel_rfl
        case q58 => exact fun _ _ _ h => h
        case g58 => rfl
        case y58 => (intro wS hSw; obtain ⟨s0, s1, s2, s3⟩ := HF.out _ hSw; go_simp; (try with_reducible rfl))
        case s58 => assumption
        (try simp only [Act.put, List.setIfInBounds_toArray, List.set_cons_zero, List.set_cons_succ])
        refine wpAnyH_take (i := 7) (oi := ?o59) (v := ?v59) ?h59 ?a59 ?b59 ?c59 ?q59 (Or.inl ⟨?g59, ?y59⟩) ?s59 ?r59
        case h59 => (simp only [List.getElem?_toArray, List.getElem?_cons_zero, List.getElem?_cons_succ]; rfl)
        case a59 => kernel_rfl
        case b59 => kernel_rfl
        case c59 => kernel_rfl
        case q59 => exact fun _ _ _ h => h
        case g59 => rfl
        case y59 => (intro wS hSw; obtain ⟨s0, s1, s2, s3⟩ := HF.out _ hSw; go_simp; (try with_reducible rfl))
        case s59 => assumption
        (try simp only [Act.put, List.setIfInBounds_toArray, List.set_cons_zero, List.set_cons_succ])
        refine wpAnyH_take (i := 8) (oi := ?o60) (v := ?v60) ?h60 ?a60 ?b60 ?c60 ?q60 (Or.inl ⟨?g60, ?y60⟩) ?s60 ?r60
        case h60 => (simp only [List.getElem?_toArray, List.getElem?_cons_zero, List.getElem?_cons_succ]; rfl)
        case a60 => kernel_rfl
        case b60 => kernel_rfl
        case c60 => kernel_rfl
        case q60 => exact fun _ _ _ h => h
        case g60 => rfl
        case y60 => (intro wS hSw; obtain ⟨s0, s1, s2, s3⟩ := HF.out _ hSw; go_simp; (try with_reducible rfl))
        case s60 => assumption
        (try simp only [Act.put, List.setIfInBounds_toArray, List.set_cons_zero, List.set_cons_succ])
        refine wpAnyH_take (i := 9) (oi := ?o61) (v := ?v61) ?h61 ?a61 ?b61 ?c61 ?q61 (Or.inl ⟨?g61, ?y61⟩) ?s61 ?r61
        case h61 => (simp only [List.getElem?_toArray, List.getElem?_cons_zero, List.getElem?_cons_succ]; rfl)
        case a61 => kernel_rfl
        case b61 => kernel_rfl
        case c61 => kernel_rfl
        case q61 => exact fun _ _ _ h => h
        case g61 => rfl
        case y61 => (intro wS hSw; obtain ⟨s0, s1, s2, s3⟩ := HF.out _ hSw; go_simp; (try with_reducible rfl))
        case s61 => assumption
        (try simp only [Act.put, List.setIfInBounds_toArray, List.set_cons_zero, List.set_cons_succ])
        refine wpAnyH_take (i := 11) (oi := ?o62) (v := ?v62) ?h62 ?a62 ?b62 ?c62 ?q62 (Or.inl ⟨?g62, ?y62⟩) ?s62 ?r62
        case h62 => (simp only [List.getElem?_toArray, List.getElem?_cons_zero, List.getElem?_cons_succ]; rfl)
        case a62 => kernel_rfl
        case b62 => kernel_rfl
        case c62 => kernel_rfl
        case q62 => exact fun _ _ _ h => h
        case g62 => rfl
        case y62 => (intro wS hSw; obtain ⟨s0, s1, s2, s3⟩ := HF.out _ hSw; go_simp; (try with_reducible rfl))
        case s62 => assumption
        (try simp only [Act.put, List.setIfInBounds_toArray, List.set_cons_zero, List.set_cons_succ])
        refine wpAnyH_take (i := 12) (oi := ?o63) (v := ?v63) ?h63 ?a63 ?b63 ?c63 ?q63 (Or.inl ⟨?g63, ?y63⟩) ?s63 ?r63
        case h63 => (simp only [List.getElem?_toArray, List.getElem?_cons_zero, List.getElem?_cons_succ]; rfl)
        case a63 => kernel_rfl
        case b63 => kernel_rfl
        case c63 => kernel_rfl
        case q63 => exact fun _ _ _ h => h
        case g63 => rfl
        case y63 => (intro wS hSw; obtain ⟨s0, s1, s2, s3⟩ := HF.out _ hSw; go_simp; (try with_reducible rfl))
        case s63 => assumption
        (try simp only [Act.put, List.setIfInBounds_toArray, List.set_cons_zero, List.set_cons_succ])
        refine wpAnyH_take (i := 13) (oi := ?o64) (v := ?v64) ?h64 ?a64 ?b64 ?c64 ?q64 (Or.inl ⟨?g64, ?y64⟩) ?s64 ?r64
        case h64 => (simp only [List.getElem?_toArray, List.getElem?_cons_zero, List.getElem?_cons_succ]; rfl)
        case a64 => kernel_rfl
        case b64 => kernel_rfl
        case c64 => kernel_rfl
        case q64 => exact fun _ _ _ h => h
        case g64 => rfl
        case y64 => (intro wS hSw; obtain ⟨s0, s1, s2, s3⟩ := HF.out _ hSw; go_simp; (try with_reducible rfl))
        case s64 => assumption
        (try simp only [Act.put, List.setIfInBounds_toArray, List.set_cons_zero, List.set_cons_succ])
        refine wpAnyH_take (i := 14) (oi := ?o65) (v := ?v65) ?h65 ?a65 ?b65 ?c65 ?q65 (Or.inl ⟨?g65, ?y65⟩) ?s65 ?r65
        case h65 => (simp only [List.getElem?_toArray, List.getElem?_cons_zero, List.getElem?_cons_succ]; rfl)
        case a65 => kernel_rfl
        case b65 => kernel_rfl
        case c65 => kernel_rfl
        case q65 => exact fun _ _ _ h => h
        case g65 => rfl
        case y65 => (intro wS hSw; obtain ⟨s0, s1, s2, s3⟩ := HF.out _ hSw; go_simp; (try with_reducible rfl))
        case s65 => assumption
        (try simp only [Act.put, List.setIfInBounds_toArray, List.set_cons_zero, List.set_cons_succ])
        refine wpAnyH_take (i := 15) (oi := ?o66) (v := ?v66) ?h66 ?a66 ?b66 ?c66 ?q66 (Or.inl ⟨?g66, ?y66⟩) ?s66 ?r66
        case h66 => (simp only [List.getElem?_toArray, List.getElem?_cons_zero, List.getElem?_cons_succ]; rfl)
        case a66 => kernel_rfl
        case b66 => kernel_rfl
        case c66 => kernel_rfl
        case q66 => exact fun _ _ _ h => h
        case g66 => rfl
        case y66 => (intro wS hSw; obtain ⟨s0, s1, s2, s3⟩ := HF.out _ hSw; go_simp; (try with_reducible rfl))
        case s66 => assumption
        (try simp only [Act.put, List.setIfInBounds_toArray, List.set_cons_zero, List.set_cons_succ])
        refine wpAnyH_take (i := 16) (oi := ?o67) (v := ?v67) ?h67 ?a67 ?b67 ?c67 ?q67 (Or.inl ⟨?g67, ?y67⟩) ?s67 ?r67
        case h67 => (simp only [List.getElem?_toArray, List.getElem?_cons_zero, List.getElem?_cons_succ]; rfl)
        case a67 => kernel_rfl
        case b67 => kernel_rfl
        case c67 => kernel_rfl
        case q67 => exact fun _ _ _ h => h
        case g67 => rfl
        case y67 => (intro wS hSw; obtain ⟨s0, s1, s2, s3⟩ := HF.out _ hSw; go_simp; (try with_reducible rfl))
        case s67 => assumption
        (try simp only [Act.put, List.setIfInBounds_toArray, List.set_cons_zero, List.set_cons_succ])
        refine wpAnyH_take (i := 17) (oi := ?o68) (v := ?v68) ?h68 ?a68 ?b68 ?c68 ?q68 (Or.inl ⟨?g68, ?y68⟩) ?s68 ?r68
        case h68 => (simp only [List.getElem?_toArray, List.getElem?_cons_zero, List.getElem?_cons_succ]; rfl)
        case a68 => kernel_rfl
        case b68 => kernel_rfl
        case c68 => kernel_rfl
        case q68 => exact fun _ _ _ h => h
        case g68 => rfl
        case y68 => (intro wS hSw; obtain ⟨s0, s1, s2, s3⟩ := HF.out _ hSw; go_simp; (try with_reducible rfl))
        case s68 => assumption
        (try simp only [Act.put, List.setIfInBounds_toArray, List.set_cons_zero, List.set_cons_succ])
        refine wpAnyH_take (i := 18) (oi := ?o69) (v := ?v69) ?h69 ?a69 ?b69 ?c69 ?q69 (Or.inl ⟨?g69, ?y69⟩) ?s69 ?r69
        case h69 => (simp only [List.getElem?_toArray, List.getElem?_cons_zero, List.getElem?_cons_succ]; rfl)
        case a69 => kernel_rfl
        case b69 => kernel_rfl
        case c69 => kernel_rfl
        case q69 => exact fun _ _ _ h => h
        case g69 => rfl
        case y69 => (intro wS hSw; obtain ⟨s0, s1, s2, s3⟩ := HF.out _ hSw; go_simp; (try with_reducible rfl))
        case s69 => assumption
        (try simp only [Act.put, List.setIfInBounds_toArray, List.set_cons_zero, List.set_cons_succ])
        refine wpAnyH_take (i := 21) (oi := ?o70) (v := ?v70) ?h70 ?a70 ?b70 ?c70 ?q70 (Or.inl ⟨?g70, ?y70⟩) ?s70 ?r70
        case h70 => (simp only [List.getElem?_toArray, List.getElem?_cons_zero, List.getElem?_cons_succ]; rfl)
        case a70 => kernel_rfl
        case b70 => kernel_rfl
        case c70 => kernel_rfl
        case q70 => exact fun _ _ _ h => h
        case g70 => rfl
        case y70 => (intro wS hSw; obtain ⟨s0, s1, s2, s3⟩ := HF.out _ hSw; go_simp; (try with_reducible rfl))
        case s70 => assumption
        (try simp only [Act.put, List.setIfInBounds_toArray, List.set_cons_zero, List.set_cons_succ])
        refine wpAnyH_take (i := 22) (oi := ?o71) (v := ?v71) ?h71 ?a71 ?b71 ?c71 ?q71 (Or.inl ⟨?g71, ?y71⟩) ?s71 ?r71
        case h71 => (simp only [List.getElem?_toArray, List.getElem?_cons_zero, List.getElem?_cons_succ]; rfl)
        case a71 => kernel_rfl
        case b71 => kernel_rfl
        case c71 => kernel_rfl
        case q71 => exact fun _ _ _ h => h
        case g71 => rfl
        case y71 => (intro wS hSw; obtain ⟨s0, s1, s2, s3⟩ := HF.out _ hSw; go_simp; (try with_reducible rfl))
        case s71 => assumption
        (try simp only [Act.put, List.setIfInBounds_toArray, List.set_cons_zero, List.set_cons_succ])
        refine wpAnyH_ready (rs := [10]) (by kernel_rfl) (by simp) ?_
        refine AllReadyH.cons (o := ?oB72) ?hB72 ?kB72 AllReadyH.nil
        case hB72 => (simp only [List.getElem?_toArray, List.getElem?_cons_zero, List.getElem?_cons_succ]; rfl)
        case kB72 =>
          intro K hK
          go_simp
          refine (rsum_any a hHeld.2 HQ.out.1).mono ?_
          rintro e w6 ⟨rfl, hk6, hr6⟩
          rw [HQ.out.2.2.1]
          refine hK.out _ _ ⟨hHeld.1.trans hk6, hr6⟩ (fun hH6 => ?_)
          clear hK K
          (try simp only [Act.put, List.setIfInBounds_toArray, List.set_cons_zero, List.set_cons_succ])
          refine wpAnyH_ready (rs := [19]) (by kernel_rfl) (by simp) ?_
          refine AllReadyH.cons (o := ?oB73) ?hB73 ?kB73 AllReadyH.nil
          case hB73 => (simp only [List.getElem?_toArray, List.getElem?_cons_zero, List.getElem?_cons_succ]; rfl)
          case kB73 =>
            intro K hK
            go_simp
            refine (rsum_any st hH6.2 HQ.out.2.1).mono ?_
            rintro e w7 ⟨rfl, hk7, hr7⟩
            rw [HQ.out.2.2.2.1]
            refine hK.out _ _ ⟨hH6.1.trans hk7, hr7⟩ (fun hH7 => ?_)
            clear hK K
            (try simp only [Act.put, List.setIfInBounds_toArray, List.set_cons_zero, List.set_cons_succ])
            refine wpAnyH_take (i := 20) (oi := ?o74) (v := ?v74) ?h74 ?a74 ?b74 ?c74 ?q74 (Or.inl ⟨?g74, ?y74⟩) ?s74 ?r74
            case h74 => (simp only [List.getElem?_toArray, List.getElem?_cons_zero, List.getElem?_cons_succ]; rfl)
            case a74 => kernel_rfl
            case b74 => kernel_rfl
            case c74 => kernel_rfl
            case q74 => exact fun _ _ _ h => h
            case g74 => rfl
            case y74 => (intro wS hSw; obtain ⟨s0, s1, s2, s3⟩ := HF.out _ hSw; go_simp; (try with_reducible rfl))
            case s74 => assumption
            (try simp only [Act.put, List.setIfInBounds_toArray, List.set_cons_zero, List.set_cons_succ])
            refine wpAnyH_ready (rs := [23]) (by kernel_rfl) (by simp) ?_
            refine AllReadyH.cons (o := ?oB75) ?hB75 ?kB75 AllReadyH.nil
            case hB75 => (simp only [List.getElem?_toArray, List.getElem?_cons_zero, List.getElem?_cons_succ]; rfl)
            case kB75 =>
              intro K hK
              go_simp
              refine (power_any n w7 f1 f3).mono ?_
              rintro e w8 ⟨rfl, rfl⟩
              rw [HQ.out.2.2.2.2]
              refine hK.out _ _ hH7 (fun _ => ?_)
              clear hK K
              (try simp only [Act.put, List.setIfInBounds_toArray, List.set_cons_zero, List.set_cons_succ])
              refine wpAnyH_take (i := 24) (oi := ?o76) (v := ?v76) ?h76 ?a76 ?b76 ?c76 ?q76 (Or.inl ⟨?g76, ?y76⟩) ?s76 ?r76
              case h76 => (simp only [List.getElem?_toArray, List.getElem?_cons_zero, List.getElem?_cons_succ]; rfl)
              case a76 => kernel_rfl
              case b76 => kernel_rfl
              case c76 => kernel_rfl
              case q76 => exact fun _ _ _ h => h
              case g76 => rfl
              case y76 => (intro wS hSw; obtain ⟨s0, s1, s2, s3⟩ := HF.out _ hSw; go_simp; (try with_reducible rfl))
              case s76 => assumption
              (try simp only [Act.put, List.setIfInBounds_toArray, List.set_cons_zero, List.set_cons_succ])
              refine wpAnyH_take (i := 25) (oi := ?o77) (v := ?v77) ?h77 ?a77 ?b77 ?c77 ?q77 (Or.inl ⟨?g77, ?y77⟩) ?s77 ?r77
              case h77 => (simp only [List.getElem?_toArray, List.getElem?_cons_zero, List.getElem?_cons_succ]; rfl)
              case a77 => kernel_rfl
              case b77 => kernel_rfl
              case c77 => kernel_rfl
              case q77 => exact fun _ _ _ h => h
              case g77 => rfl
              case y77 => (intro wS hSw; obtain ⟨s0, s1, s2, s3⟩ := HF.out _ hSw; go_simp; (try with_reducible rfl))
              case s77 => assumption
              (try simp only [Act.put, List.setIfInBounds_toArray, List.set_cons_zero, List.set_cons_succ])
              refine wpAnyH_ready (rs := [26]) (by kernel_rfl) (by simp) ?_
              refine AllReadyH.cons (o := ?oB78) ?hB78 ?kB78 AllReadyH.nil
              case hB78 => (simp only [List.getElem?_toArray, List.getElem?_cons_zero, List.getElem?_cons_succ]; rfl)
              case kB78 =>
                intro K hK
                go_simp
                refine (vrequire_no vb v 3 _ (HV5.out _ hH7.1)).mono ?_
                rintro e w9 ⟨rfl, n9, rfl⟩
                exact ⟨rfl, HNO.out _ _ hH7⟩

  · refine (after_no vb v n _ (HV2.out _ (bx _)) HH.out.2.2.1 hfit).mono ?_
    rintro e w5 ⟨rfl, m5, hw⟩
    have hB : Below w.heap.size w w5 := by rw [hw]; exact (bx _).trans ((drewN_below _ _).mono (by simp))
    refine ⟨rfl, ?_⟩
    rw [HH.out.2.2.2.1.a, HH.out.2.2.2.1.k]
    exact KPost.no (short_no (by omega)) HH.out.1 hB
end
end Go.Proofs.YtlhobhfmombjjaaGreatDoor
