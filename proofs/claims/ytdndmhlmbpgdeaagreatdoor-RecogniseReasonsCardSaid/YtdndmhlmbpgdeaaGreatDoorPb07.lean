/- The recogniser of checksums. Conditions: the reader and the value lie in memory, the value's numbers are small and it is protected, the field is a right one. The recogniser of a value in a field with a limit. Conditions: as for the others; values of the formats before are recognised. The recogniser of a list of values. Conditions: as for the others; values of the formats before are recognised. A part is put behind the others, and completed later. No condition of its own. -/
import Derived.Test.YtdndmhlmbpgdeaaGreatDoorPb01
import Derived.Test.YtdndmhlmbpgdeaaGreatDoorPb06
namespace Go.Proofs.YtdndmhlmbpgdeaaGreatDoor
section RecI
open Go.RowKit Fx Rec

theorem KPost.ok_ {w w' : World} {P : Nat → Prop} {o : Ro} {rb : Nat} {L : List Fm} {s : ByteArray} {ps qs : List Pt} {E : Int} {n : Int} {en : Nat} {r : Except Rf (Nat × Int × List Pt)} (hr : r = .ok (en, n, qs)) (he : E = en) (hk : Kept P w w') (h : Rd w' P o rb L s (ps ++ qs)) :
    KPost w P o rb L s ps r (.returned (.tuple #[.int .i64 E, .int .i64 n])) w' := by
  subst hr he
  exact ⟨hk, rfl, h⟩
theorem KPost.no_ {w w' : World} {P : Nat → Prop} {o : Ro} {rb : Nat} {L : List Fm} {s : ByteArray} {ps ps' : List Pt} {f : Rf} {r : Except Rf (Nat × Int × List Pt)} (hr : r = .error f) (hk : Kept P w w') (h : Rd w' P o rb L s ps') : KPost w P o rb L s ps r (Stops f) w' := by
  subst hr
  exact ⟨hk, rfl, ps', h⟩
theorem Rd.sumF_ {w : World} {P : Nat → Prop} {o : Ro} {rb : Nat} {L : List Fm} {s : ByteArray} {ps : List Pt} (h : Rd w P o rb L s ps) : w.cell? ⟨rb, 3, none⟩ = some (sumF o) := by
  obtain ⟨_, vp, k, vs, hm⟩ := h
  rw [hm.blk.cell]; rfl
theorem pow_pos {n : Int} (h1 : 1 ≤ n) (h3 : n ≤ 3) : 0 < pow n ∧ pow n ≤ 16777216 := by
  obtain rfl | rfl | rfl : n = 1 ∨ n = 2 ∨ n = 3 := by omega
  all_goals exact ⟨by decide, by decide⟩
theorem Rd.keptN {w : World} {P : Nat → Prop} {o : Ro} {rb : Nat} {L : List Fm} {s : ByteArray} {ps : List Pt} (h : Rd w P o rb L s ps) (n : Nat) : Rd (w.drewN n) P o rb L s ps := h.below (drewN_below w n)

section
variable {w : World} {P : Nat → Prop} {o : Ro} {rb vb : Nat} {L : List Fm} {s : ByteArray} {ps : List Pt} {v : Vl} {f : Fld} {a l st k : Nat}
set_option maxRecDepth 20000 in
set_option maxHeartbeats 4000000 in
theorem rd_check (h : Rd w P o rb L s ps) (hv : VAt w vb v) (pv : P vb) (ok : VOk v) (hN : VNat v a l st k) (hl : l ≤ s.size) (f1 : 1 ≤ f.n) (f3 : f.n ≤ 3) :
    Calls Tryz.prog 72 #[ptr rb, ptr vb, fldV f] w fun e w' =>
      KPost w P o rb L s ps (short v.format k a l f.n.toNat (unlessB (decide (num (s.extract a (a + f.n.toNat)) = (sumTo s a - sumTo s st) % pow f.n)) ⟨a, v.format, k, 3⟩ (.ok (a + f.n.toNat, num (s.extract a (a + f.n.toNat)), [])))) e w' := by
  have na := hN.a
  have nl := hN.l
  have b0 := ok.at0
  have b1 := ok.lim
  have b2 := ok.max
  have b3 := ok.st1
  have b4 := hN.st
  have hbd := bx (w := w) (.cells #[.int .i64 f.kind, .int .i64 f.n, .int .i64 f.frm, .string f.text] 56)
  have hblk := Blk.new w 56 #[.int .i64 f.kind, .int .i64 f.n, .int .i64 f.frm, .string f.text]
  have hr1 := h.below hbd
  have HH := Lib.hid (And.intro h (And.intro hv (And.intro ok (And.intro hN pv))))
  have HV2 : Hid (∀ W, Below w.heap.size w W → VAt W vb v) := Lib.hid fun W hb => hv.keep (hb.block vb hv.blk.lt)
  obtain ⟨n, hn⟩ : ∃ n : Int, f.n = n := ⟨_, rfl⟩
  obtain ⟨bl, hbl⟩ : ∃ bl, bl = w.heap.size := ⟨_, rfl⟩
  rw [← hbl] at hblk
  have HB1 := Lib.hid (And.intro hbd (And.intro hr1 hblk))
  rw [hn] at HB1 f1 f3
  clear h hv ok hN pv hbd hblk hr1
  go_enter Tryz.func72, Tryz.ntmps72
  go_wp2_with fail
  by_cases hfit : n ≤ v.limit - v.at_
  · refine (after_yes vb v n _ (HV2.out _ (bx _)) HH.out.2.2.1 (by omega) (by omega) hfit).mono ?_
    rintro e w5 ⟨rfl, m5, hw⟩
    have hB : Below w.heap.size w w5 := by rw [hw]; exact (bx _).trans ((drewN_below _ _).mono (by simp))
    obtain ⟨-, -, -, -, c4, -⟩ := (HV2.out _ hB).cells
    have hr5 : Rd w5 P o rb L s ps := by rw [hw]; exact HB1.out.2.1.keptN m5
    have cs := hr5.stream
    have hb5 : Blk w5 bl 56 #[.int .i64 f.kind, .int .i64 n, .int .i64 f.frm, .string f.text] := by rw [hw]; exact HB1.out.2.2
    obtain ⟨X, hX⟩ : ∃ X, X = s.extract a (a + f.n.toNat) := ⟨_, rfl⟩
    have hsl : ∀ W, (Instr.slice 9 (.string s) (some (.int .i64 (a : Int))) (some (.int .i64 ((a : Int) + n))) none).run Tryz.prog W = .ok (.string X) W := by rw [hX]; exact str_slice rfl (by omega) (by omega)
    have hxs : X.size ≤ 3 := by rw [hX, ByteArray.size_extract]; omega
    have hr5' := hr5.add_ hb5 (by decide) (by decide) (by decide) (by decide)
    have HS0 : Hid (Kept (fun k => P k ∨ k = bl) w5 w5.drew ∧ Rd w5.drew (fun k => P k ∨ k = bl) o rb L s ps) := Lib.hid ⟨(Kept.refl _ _).drew, hr5'.keptN 1⟩
    have hv5 := HV2.out _ hB
    have pvb := HH.out.2.2.2.2
    have HV5 : Hid (∀ W, Kept (fun k => P k ∨ k = bl) w5 W → VAt W vb v) := Lib.hid fun W hk => hv5.keep (hk.block vb (.inl pvb))
    have HF : Hid (∀ W, (Kept (fun k => P k ∨ k = bl) w5 W ∧ Rd W (fun k => P k ∨ k = bl) o rb L s ps) → W.cell? ⟨rb, 3, none⟩ = some (sumF o) ∧ W.cell? ⟨vb, 4, none⟩ = some (.int .i64 (a : Int)) ∧ W.cell? ⟨vb, 3, none⟩ = some (.int .i64 (st : Int)) ∧ W.cell? ⟨w.heap.size, 1, none⟩ = some (.int .i64 n)) := Lib.hid fun W hS => by
      obtain ⟨-, -, -, d3, d4, -⟩ := (HV5.out _ hS.1).cells
      refine ⟨hS.2.sumF_, by rw [d4, na], by rw [d3, b4], ?_⟩
      have h1 : Blk W bl 56 #[.int .i64 f.kind, .int .i64 n, .int .i64 f.frm, .string f.text] := (hS.1.block bl (.inr rfl)).trans hb5
      rw [← hbl, h1.cell]; rfl
    have hSa : st ≤ a := by omega
    obtain ⟨A, hA⟩ : ∃ A, A = sumTo s a := ⟨_, rfl⟩
    obtain ⟨B, hBB⟩ : ∃ B, B = sumTo s st := ⟨_, rfl⟩
    obtain ⟨M, hM⟩ : ∃ M, M = pow n := ⟨_, rfl⟩
    obtain ⟨N, hNN⟩ : ∃ N, N = num X := ⟨_, rfl⟩
    have hmo := sumTo_mono s hSa
    have hba := sumTo_bound s a
    have hbb := sumTo_bound s st
    have hpp := pow_pos f1 f3
    rw [← hA] at hmo hba
    rw [← hBB] at hmo hbb
    rw [← hM] at hpp
    obtain ⟨D, hD⟩ : ∃ D, D = A - B := ⟨_, rfl⟩
    obtain ⟨R, hR⟩ : ∃ R, R = D % M := ⟨_, rfl⟩
    have hw1 : IntKind.i64.wrap (A - B) = D := by rw [wr64 (by omega) (by omega)]; exact hD.symm
    have hM0 : ¬ M = 0 := by omega
    have hRb : 0 ≤ R ∧ R < M := by rw [hR]; exact ⟨Int.emod_nonneg _ hM0, Int.emod_lt_of_pos _ hpp.1⟩
    have HRD : Hid (R = (A - B) % M) := Lib.hid (by rw [hR, hD])
    have hw2 : D.tmod M = R := by rw [Int.tmod_eq_emod_of_nonneg (by omega), hR]
    have hw3 : IntKind.i64.wrap R = R := wr64 (by omega) (by omega)
    have HQ := Lib.hid (And.intro (show a ≤ s.size by omega) (And.intro (show st ≤ s.size by omega) (And.intro hA.symm (And.intro hBB.symm hM.symm))))
    have HX := Lib.hid (And.intro hX hNN)
    have HB := Lib.hid hB
    have HEND : Hid (∀ W, (Kept (fun k => P k ∨ k = bl) w5 W ∧ Rd W (fun k => P k ∨ k = bl) o rb L s ps) → Kept P w W ∧ Rd W P o rb L s ps) := Lib.hid fun W hS =>
      ⟨(Kept.of_below hB HH.out.1.1.pin).trans (hS.1.mono fun k hk => .inl hk), hr5.weak hS.2 hS.1.size fun k hk => .inl hk⟩
    clear hw hB hbl hr5 hr5' hv5 hb5 hD hR hmo hba hbb hRb hA hBB hM hX hNN
    have hdrew : ∀ W : World, W.drew = W.drewN 1 := fun _ => rfl
    have HS1 : Hid (Kept (fun k => P k ∨ k = bl) w5 w5.drew.drew ∧ Rd w5.drew.drew (fun k => P k ∨ k = bl) o rb L s ps) := Lib.hid ⟨HS0.out.1.drew, HS0.out.2.keptN 1⟩
    have HYN : Hid (∀ W, (Kept (fun k => P k ∨ k = bl) w5 W ∧ Rd W (fun k => P k ∨ k = bl) o rb L s ps) → (N = R → KPost w P o rb L s ps (short v.format k a l f.n.toNat (unlessB (decide (num (s.extract a (a + f.n.toNat)) = (sumTo s a - sumTo s st) % pow f.n)) ⟨a, v.format, k, 3⟩ (.ok (a + f.n.toNat, num (s.extract a (a + f.n.toNat)), [])))) (.returned (.tuple #[.int .i64 ((a : Int) + n), .int .i64 N])) W) ∧
        (N ≠ R → ∀ m, KPost w P o rb L s ps (short v.format k a l f.n.toNat (unlessB (decide (num (s.extract a (a + f.n.toNat)) = (sumTo s a - sumTo s st) % pow f.n)) ⟨a, v.format, k, 3⟩ (.ok (a + f.n.toNat, num (s.extract a (a + f.n.toNat)), [])))) (Stops ⟨v.at_, v.format, v.field, 3⟩) (W.drewN m))) := Lib.hid fun W hS => by
      have e1 : num (s.extract a (a + f.n.toNat)) = N := by rw [HX.out.2, HX.out.1]
      have e2 : (sumTo s a - sumTo s st) % pow f.n = R := by rw [HRD.out, hn, HQ.out.2.2.1, HQ.out.2.2.2.1, HQ.out.2.2.2.2]
      obtain ⟨h1, h2⟩ := HEND.out W hS
      rw [e1, e2]
      refine ⟨fun hNR => KPost.ok_ (en := a + f.n.toNat) ?_ (by omega) h1 (by rw [List.append_nil]; exact h2), fun hNR m => ?_⟩
      · rw [short_yes (by omega), decide_eq_true hNR]; rfl
      · rw [HH.out.2.2.2.1.a, HH.out.2.2.2.1.k]
        refine KPost.no_ ?_ (h1.trans (Kept.of_below (drewN_below W m) h2.1.pin)) (h2.keptN m)
        rw [short_yes (by omega), decide_eq_false hNR]; rfl
    by_cases hNR : N = R
    · have hq : (N == R) = true := by rw [beq_iff_eq]; exact hNR
      have HYES : Hid (∀ W, (Kept (fun k => P k ∨ k = bl) w5 W ∧ Rd W (fun k => P k ∨ k = bl) o rb L s ps) → _) := Lib.hid fun W hS => (HYN.out W hS).1 hNR
      clear hNR
      go_wp2_with fail
      refine wp_region_held_drew (S := (fun w' : World => ∃ n : Nat, w' = w5.drewN n)) (by kernel_rfl) ⟨1, rfl⟩ (fun hHeld => ?_)
      refine takeHn 0 (h := ?_)
      (try simp only [pA, pB, pC, pD])
      refine takeHn 1 (h := ?_)
      (try simp only [pA, pB, pC, pD])
      refine takeHn 2 (h := ?_)
      (try simp only [pA, pB, pC, pD])
      refine takeHn 3 (h := ?_)
      (try simp only [pA, pB, pC, pD])
      refine takeHn 4 (h := ?_)
      (try simp only [pA, pB, pC, pD])
      refine takeHn 5 (h := ?_)
      (try simp only [pA, pB, pC, pD])
      refine takeHn 6 (h := ?_)
      (try simp only [pA, pB, pC, pD])
      refine takeHn 7 (h := ?_)
      (try simp only [pA, pB, pC, pD])
      refine takeHn 8 (h := ?_)
      (try simp only [pA, pB, pC, pD])
      refine takeHn 9 (h := ?_)
      (try simp only [pA, pB, pC, pD])
      refine wpAnyH_ready (rs := [10]) (by kernel_rfl) (by simp) ?_
      refine AllReadyH.cons (o := ?oB11) ?hB11 ?kB11 AllReadyH.nil
      case hB11 => (simp only [List.getElem?_toArray, List.getElem?_cons_zero, List.getElem?_cons_succ]; rfl)
      case kB11 =>
        intro K hK
        go_simp
        refine (number_any X w5.drew hxs).mono ?_
        rintro e w6 ⟨rfl, rfl⟩
        rw [← HX.out.2]
        refine hK.out _ _ ⟨1, rfl⟩ (fun _ => ?_)
        clear hK K
        (try simp only [pA, pB, pC, pD])
        refine takeHn 11 (h := ?_)
        (try simp only [pA, pB, pC, pD])
        refine wpAnyH_done (by kernel_rfl) ?_ _
        go_wp2_with fail
        refine wp_region_held_drew (S := (fun w' : World => Kept (fun k => P k ∨ k = bl) w5 w' ∧ Rd w' (fun k => P k ∨ k = bl) o rb L s ps)) (by kernel_rfl) HS1.out (fun hHeld => ?_)
        refine takeH 0 (y := by intro wS hSw; obtain ⟨s0, s1, s2, s3⟩ := HF.out _ hSw; go_simp; (try with_reducible rfl)) (h := ?_)
        (try simp only [pA, pB, pC, pD])
        refine takeH 1 (y := by intro wS hSw; obtain ⟨s0, s1, s2, s3⟩ := HF.out _ hSw; go_simp; (try with_reducible rfl)) (h := ?_)
        (try simp only [pA, pB, pC, pD])
        refine takeH 2 (y := by intro wS hSw; obtain ⟨s0, s1, s2, s3⟩ := HF.out _ hSw; go_simp; (try with_reducible rfl)) (h := ?_)
        (try simp only [pA, pB, pC, pD])
        refine takeH 3 (y := by intro wS hSw; obtain ⟨s0, s1, s2, s3⟩ := HF.out _ hSw; go_simp; (try with_reducible rfl)) (h := ?_)
        (try simp only [pA, pB, pC, pD])
        refine takeH 4 (y := by intro wS hSw; obtain ⟨s0, s1, s2, s3⟩ := HF.out _ hSw; go_simp; (try with_reducible rfl)) (h := ?_)
        (try simp only [pA, pB, pC, pD])
        refine takeH 5 (y := by intro wS hSw; obtain ⟨s0, s1, s2, s3⟩ := HF.out _ hSw; go_simp; (try with_reducible rfl)) (h := ?_)
        (try simp only [pA, pB, pC, pD])
        refine takeH 6 (y := by intro wS hSw; obtain ⟨s0, s1, s2, s3⟩ := HF.out _ hSw; go_simp; (try with_reducible rfl)) (h := ?_)
        (try simp only [pA, pB, pC, pD])
        refine takeH 7 (y := by intro wS hSw; obtain ⟨s0, s1, s2, s3⟩ := HF.out _ hSw; go_simp; (try with_reducible rfl)) (h := ?_)
        (try simp only [pA, pB, pC, pD])
        refine takeH 8 (y := by intro wS hSw; obtain ⟨s0, s1, s2, s3⟩ := HF.out _ hSw; go_simp; (try with_reducible rfl)) (h := ?_)
        (try simp only [pA, pB, pC, pD])
        refine takeH 9 (y := by intro wS hSw; obtain ⟨s0, s1, s2, s3⟩ := HF.out _ hSw; go_simp; (try with_reducible rfl)) (h := ?_)
        (try simp only [pA, pB, pC, pD])
        refine takeH 11 (y := by intro wS hSw; obtain ⟨s0, s1, s2, s3⟩ := HF.out _ hSw; go_simp; (try with_reducible rfl)) (h := ?_)
        (try simp only [pA, pB, pC, pD])
        refine takeH 12 (y := by intro wS hSw; obtain ⟨s0, s1, s2, s3⟩ := HF.out _ hSw; go_simp; (try with_reducible rfl)) (h := ?_)
        (try simp only [pA, pB, pC, pD])
        refine takeH 13 (y := by intro wS hSw; obtain ⟨s0, s1, s2, s3⟩ := HF.out _ hSw; go_simp; (try with_reducible rfl)) (h := ?_)
        (try simp only [pA, pB, pC, pD])
        refine takeH 14 (y := by intro wS hSw; obtain ⟨s0, s1, s2, s3⟩ := HF.out _ hSw; go_simp; (try with_reducible rfl)) (h := ?_)
        (try simp only [pA, pB, pC, pD])
        refine takeH 15 (y := by intro wS hSw; obtain ⟨s0, s1, s2, s3⟩ := HF.out _ hSw; go_simp; (try with_reducible rfl)) (h := ?_)
        (try simp only [pA, pB, pC, pD])
        refine takeH 16 (y := by intro wS hSw; obtain ⟨s0, s1, s2, s3⟩ := HF.out _ hSw; go_simp; (try with_reducible rfl)) (h := ?_)
        (try simp only [pA, pB, pC, pD])
        refine takeH 17 (y := by intro wS hSw; obtain ⟨s0, s1, s2, s3⟩ := HF.out _ hSw; go_simp; (try with_reducible rfl)) (h := ?_)
        (try simp only [pA, pB, pC, pD])
        refine takeH 18 (y := by intro wS hSw; obtain ⟨s0, s1, s2, s3⟩ := HF.out _ hSw; go_simp; (try with_reducible rfl)) (h := ?_)
        (try simp only [pA, pB, pC, pD])
        refine takeH 21 (y := by intro wS hSw; obtain ⟨s0, s1, s2, s3⟩ := HF.out _ hSw; go_simp; (try with_reducible rfl)) (h := ?_)
        (try simp only [pA, pB, pC, pD])
        refine takeH 22 (y := by intro wS hSw; obtain ⟨s0, s1, s2, s3⟩ := HF.out _ hSw; go_simp; (try with_reducible rfl)) (h := ?_)
        (try simp only [pA, pB, pC, pD])
        refine wpAnyH_ready (rs := [10]) (by kernel_rfl) (by simp) ?_
        refine AllReadyH.cons (o := ?oB33) ?hB33 ?kB33 AllReadyH.nil
        case hB33 => (simp only [List.getElem?_toArray, List.getElem?_cons_zero, List.getElem?_cons_succ]; rfl)
        case kB33 =>
          intro K hK
          go_simp
          refine (rsum_any a hHeld.2 HQ.out.1).mono ?_
          rintro e w6 ⟨rfl, hk6, hr6⟩
          rw [HQ.out.2.2.1]
          refine hK.out _ _ ⟨hHeld.1.trans hk6, hr6⟩ (fun hH6 => ?_)
          clear hK K
          (try simp only [pA, pB, pC, pD])
          refine wpAnyH_ready (rs := [19]) (by kernel_rfl) (by simp) ?_
          refine AllReadyH.cons (o := ?oB34) ?hB34 ?kB34 AllReadyH.nil
          case hB34 => (simp only [List.getElem?_toArray, List.getElem?_cons_zero, List.getElem?_cons_succ]; rfl)
          case kB34 =>
            intro K hK
            go_simp
            refine (rsum_any st hH6.2 HQ.out.2.1).mono ?_
            rintro e w7 ⟨rfl, hk7, hr7⟩
            rw [HQ.out.2.2.2.1]
            refine hK.out _ _ ⟨hH6.1.trans hk7, hr7⟩ (fun hH7 => ?_)
            clear hK K
            (try simp only [pA, pB, pC, pD])
            refine takeH 20 (y := by intro wS hSw; obtain ⟨s0, s1, s2, s3⟩ := HF.out _ hSw; go_simp; (try with_reducible rfl)) (h := ?_)
            (try simp only [pA, pB, pC, pD])
            refine wpAnyH_ready (rs := [23]) (by kernel_rfl) (by simp) ?_
            refine AllReadyH.cons (o := ?oB36) ?hB36 ?kB36 AllReadyH.nil
            case hB36 => (simp only [List.getElem?_toArray, List.getElem?_cons_zero, List.getElem?_cons_succ]; rfl)
            case kB36 =>
              intro K hK
              go_simp
              refine (power_any n w7 f1 f3).mono ?_
              rintro e w8 ⟨rfl, rfl⟩
              rw [HQ.out.2.2.2.2]
              refine hK.out _ _ hH7 (fun _ => ?_)
              clear hK K
              (try simp only [pA, pB, pC, pD])
              refine takeH 24 (y := by intro wS hSw; obtain ⟨s0, s1, s2, s3⟩ := HF.out _ hSw; go_simp; (try with_reducible rfl)) (h := ?_)
              (try simp only [pA, pB, pC, pD])
              refine takeH 25 (y := by intro wS hSw; obtain ⟨s0, s1, s2, s3⟩ := HF.out _ hSw; go_simp; (try with_reducible rfl)) (h := ?_)
              (try simp only [pA, pB, pC, pD])
              refine wpAnyH_ready (rs := [26]) (by kernel_rfl) (by simp) ?_
              refine AllReadyH.cons (o := ?oB39) ?hB39 ?kB39 AllReadyH.nil
              case hB39 => (simp only [List.getElem?_toArray, List.getElem?_cons_zero, List.getElem?_cons_succ]; rfl)
              case kB39 =>
                intro K hK
                go_simp
                refine (vrequire_yes _ _ _).mono ?_
                rintro e w9 ⟨rfl, rfl⟩
                refine hK.out _ _ hH7 (fun _ => ?_)
                clear hK K
                (try simp only [pA, pB, pC, pD])
                refine wpAnyH_done (by kernel_rfl) ?_ _
                have HY := Lib.hid (HYES.out _ hH7)
                go_wp2
                go_ret2
                exact HY.out
    · have hq : (N == R) = false := by rw [beq_eq_false_iff_ne]; exact hNR
      have HNO : Hid (∀ (W : World) (m : Nat), (Kept (fun k => P k ∨ k = bl) w5 W ∧ Rd W (fun k => P k ∨ k = bl) o rb L s ps) → _) := Lib.hid fun W m hS => (HYN.out W hS).2 hNR m
      clear hNR
      go_wp2_with fail
      refine wp_region_held_drew (S := (fun w' : World => ∃ n : Nat, w' = w5.drewN n)) (by kernel_rfl) ⟨1, rfl⟩ (fun hHeld => ?_)
      refine takeHn 0 (h := ?_)
      (try simp only [pA, pB, pC, pD])
      refine takeHn 1 (h := ?_)
      (try simp only [pA, pB, pC, pD])
      refine takeHn 2 (h := ?_)
      (try simp only [pA, pB, pC, pD])
      refine takeHn 3 (h := ?_)
      (try simp only [pA, pB, pC, pD])
      refine takeHn 4 (h := ?_)
      (try simp only [pA, pB, pC, pD])
      refine takeHn 5 (h := ?_)
      (try simp only [pA, pB, pC, pD])
      refine takeHn 6 (h := ?_)
      (try simp only [pA, pB, pC, pD])
      refine takeHn 7 (h := ?_)
      (try simp only [pA, pB, pC, pD])
      refine takeHn 8 (h := ?_)
      (try simp only [pA, pB, pC, pD])
      refine takeHn 9 (h := ?_)
      (try simp only [pA, pB, pC, pD])
      refine wpAnyH_ready (rs := [10]) (by kernel_rfl) (by simp) ?_
      refine AllReadyH.cons (o := ?oB50) ?hB50 ?kB50 AllReadyH.nil
      case hB50 => (simp only [List.getElem?_toArray, List.getElem?_cons_zero, List.getElem?_cons_succ]; rfl)
      case kB50 =>
        intro K hK
        go_simp
        refine (number_any X w5.drew hxs).mono ?_
        rintro e w6 ⟨rfl, rfl⟩
        rw [← HX.out.2]
        refine hK.out _ _ ⟨1, rfl⟩ (fun _ => ?_)
        clear hK K
        (try simp only [pA, pB, pC, pD])
        refine takeHn 11 (h := ?_)
        (try simp only [pA, pB, pC, pD])
        refine wpAnyH_done (by kernel_rfl) ?_ _
        go_wp2_with fail
        refine wp_region_held_drew (S := (fun w' : World => Kept (fun k => P k ∨ k = bl) w5 w' ∧ Rd w' (fun k => P k ∨ k = bl) o rb L s ps)) (by kernel_rfl) HS1.out (fun hHeld => ?_)
        refine takeH 0 (y := by intro wS hSw; obtain ⟨s0, s1, s2, s3⟩ := HF.out _ hSw; go_simp; (try with_reducible rfl)) (h := ?_)
        (try simp only [pA, pB, pC, pD])
        refine takeH 1 (y := by intro wS hSw; obtain ⟨s0, s1, s2, s3⟩ := HF.out _ hSw; go_simp; (try with_reducible rfl)) (h := ?_)
        (try simp only [pA, pB, pC, pD])
        refine takeH 2 (y := by intro wS hSw; obtain ⟨s0, s1, s2, s3⟩ := HF.out _ hSw; go_simp; (try with_reducible rfl)) (h := ?_)
        (try simp only [pA, pB, pC, pD])
        refine takeH 3 (y := by intro wS hSw; obtain ⟨s0, s1, s2, s3⟩ := HF.out _ hSw; go_simp; (try with_reducible rfl)) (h := ?_)
        (try simp only [pA, pB, pC, pD])
        refine takeH 4 (y := by intro wS hSw; obtain ⟨s0, s1, s2, s3⟩ := HF.out _ hSw; go_simp; (try with_reducible rfl)) (h := ?_)
        (try simp only [pA, pB, pC, pD])
        refine takeH 5 (y := by intro wS hSw; obtain ⟨s0, s1, s2, s3⟩ := HF.out _ hSw; go_simp; (try with_reducible rfl)) (h := ?_)
        (try simp only [pA, pB, pC, pD])
        refine takeH 6 (y := by intro wS hSw; obtain ⟨s0, s1, s2, s3⟩ := HF.out _ hSw; go_simp; (try with_reducible rfl)) (h := ?_)
        (try simp only [pA, pB, pC, pD])
        refine takeH 7 (y := by intro wS hSw; obtain ⟨s0, s1, s2, s3⟩ := HF.out _ hSw; go_simp; (try with_reducible rfl)) (h := ?_)
        (try simp only [pA, pB, pC, pD])
        refine takeH 8 (y := by intro wS hSw; obtain ⟨s0, s1, s2, s3⟩ := HF.out _ hSw; go_simp; (try with_reducible rfl)) (h := ?_)
        (try simp only [pA, pB, pC, pD])
        refine takeH 9 (y := by intro wS hSw; obtain ⟨s0, s1, s2, s3⟩ := HF.out _ hSw; go_simp; (try with_reducible rfl)) (h := ?_)
        (try simp only [pA, pB, pC, pD])
        refine takeH 11 (y := by intro wS hSw; obtain ⟨s0, s1, s2, s3⟩ := HF.out _ hSw; go_simp; (try with_reducible rfl)) (h := ?_)
        (try simp only [pA, pB, pC, pD])
        refine takeH 12 (y := by intro wS hSw; obtain ⟨s0, s1, s2, s3⟩ := HF.out _ hSw; go_simp; (try with_reducible rfl)) (h := ?_)
        (try simp only [pA, pB, pC, pD])
        refine takeH 13 (y := by intro wS hSw; obtain ⟨s0, s1, s2, s3⟩ := HF.out _ hSw; go_simp; (try with_reducible rfl)) (h := ?_)
        (try simp only [pA, pB, pC, pD])
        refine takeH 14 (y := by intro wS hSw; obtain ⟨s0, s1, s2, s3⟩ := HF.out _ hSw; go_simp; (try with_reducible rfl)) (h := ?_)
        (try simp only [pA, pB, pC, pD])
        refine takeH 15 (y := by intro wS hSw; obtain ⟨s0, s1, s2, s3⟩ := HF.out _ hSw; go_simp; (try with_reducible rfl)) (h := ?_)
        (try simp only [pA, pB, pC, pD])
        refine takeH 16 (y := by intro wS hSw; obtain ⟨s0, s1, s2, s3⟩ := HF.out _ hSw; go_simp; (try with_reducible rfl)) (h := ?_)
        (try simp only [pA, pB, pC, pD])
        refine takeH 17 (y := by intro wS hSw; obtain ⟨s0, s1, s2, s3⟩ := HF.out _ hSw; go_simp; (try with_reducible rfl)) (h := ?_)
        (try simp only [pA, pB, pC, pD])
        refine takeH 18 (y := by intro wS hSw; obtain ⟨s0, s1, s2, s3⟩ := HF.out _ hSw; go_simp; (try with_reducible rfl)) (h := ?_)
        (try simp only [pA, pB, pC, pD])
        refine takeH 21 (y := by intro wS hSw; obtain ⟨s0, s1, s2, s3⟩ := HF.out _ hSw; go_simp; (try with_reducible rfl)) (h := ?_)
        (try simp only [pA, pB, pC, pD])
        refine takeH 22 (y := by intro wS hSw; obtain ⟨s0, s1, s2, s3⟩ := HF.out _ hSw; go_simp; (try with_reducible rfl)) (h := ?_)
        (try simp only [pA, pB, pC, pD])
        refine wpAnyH_ready (rs := [10]) (by kernel_rfl) (by simp) ?_
        refine AllReadyH.cons (o := ?oB72) ?hB72 ?kB72 AllReadyH.nil
        case hB72 => (simp only [List.getElem?_toArray, List.getElem?_cons_zero, List.getElem?_cons_succ]; rfl)
        case kB72 =>
          intro K hK
          go_simp
          refine (rsum_any a hHeld.2 HQ.out.1).mono ?_
          rintro e w6 ⟨rfl, hk6, hr6⟩
          rw [HQ.out.2.2.1]
          refine hK.out _ _ ⟨hHeld.1.trans hk6, hr6⟩ (fun hH6 => ?_)
          clear hK K
          (try simp only [pA, pB, pC, pD])
          refine wpAnyH_ready (rs := [19]) (by kernel_rfl) (by simp) ?_
          refine AllReadyH.cons (o := ?oB73) ?hB73 ?kB73 AllReadyH.nil
          case hB73 => (simp only [List.getElem?_toArray, List.getElem?_cons_zero, List.getElem?_cons_succ]; rfl)
          case kB73 =>
            intro K hK
            go_simp
            refine (rsum_any st hH6.2 HQ.out.2.1).mono ?_
            rintro e w7 ⟨rfl, hk7, hr7⟩
            rw [HQ.out.2.2.2.1]
            refine hK.out _ _ ⟨hH6.1.trans hk7, hr7⟩ (fun hH7 => ?_)
            clear hK K
            (try simp only [pA, pB, pC, pD])
            refine takeH 20 (y := by intro wS hSw; obtain ⟨s0, s1, s2, s3⟩ := HF.out _ hSw; go_simp; (try with_reducible rfl)) (h := ?_)
            (try simp only [pA, pB, pC, pD])
            refine wpAnyH_ready (rs := [23]) (by kernel_rfl) (by simp) ?_
            refine AllReadyH.cons (o := ?oB75) ?hB75 ?kB75 AllReadyH.nil
            case hB75 => (simp only [List.getElem?_toArray, List.getElem?_cons_zero, List.getElem?_cons_succ]; rfl)
            case kB75 =>
              intro K hK
              go_simp
              refine (power_any n w7 f1 f3).mono ?_
              rintro e w8 ⟨rfl, rfl⟩
              rw [HQ.out.2.2.2.2]
              refine hK.out _ _ hH7 (fun _ => ?_)
              clear hK K
              (try simp only [pA, pB, pC, pD])
              refine takeH 24 (y := by intro wS hSw; obtain ⟨s0, s1, s2, s3⟩ := HF.out _ hSw; go_simp; (try with_reducible rfl)) (h := ?_)
              (try simp only [pA, pB, pC, pD])
              refine takeH 25 (y := by intro wS hSw; obtain ⟨s0, s1, s2, s3⟩ := HF.out _ hSw; go_simp; (try with_reducible rfl)) (h := ?_)
              (try simp only [pA, pB, pC, pD])
              refine wpAnyH_ready (rs := [26]) (by kernel_rfl) (by simp) ?_
              refine AllReadyH.cons (o := ?oB78) ?hB78 ?kB78 AllReadyH.nil
              case hB78 => (simp only [List.getElem?_toArray, List.getElem?_cons_zero, List.getElem?_cons_succ]; rfl)
              case kB78 =>
                intro K hK
                go_simp
                refine (vrequire_no vb v 3 _ (HV5.out _ hH7.1)).mono ?_
                rintro e w9 ⟨rfl, n9, rfl⟩
                exact ⟨rfl, HNO.out _ _ hH7⟩

  · refine (after_no vb v n _ (HV2.out _ (bx _)) HH.out.2.2.1 hfit).mono ?_
    rintro e w5 ⟨rfl, m5, hw⟩
    have hB : Below w.heap.size w w5 := by rw [hw]; exact (bx _).trans ((drewN_below _ _).mono (by simp))
    refine ⟨rfl, ?_⟩
    rw [HH.out.2.2.2.1.a, HH.out.2.2.2.1.k]
    exact KPost.no (short_no (by omega)) HH.out.1 hB
end
end RecI
section RecJ
open Go.RowKit Fx Rec

/-- What comes of a value. -/
def VPost (w : World) (P : Nat → Prop) (o : Ro) (rb : Nat) (L : List Fm) (s : ByteArray) (ps : List Pt) (r : Except Rf (Nat × List Pt)) (e : Ending) (w' : World) : Prop :=
  Kept P w w' ∧ match r with
  | .ok x => e = .returned (.int .i64 (x.1 : Nat)) ∧ Rd w' P o rb L s (ps ++ x.2)
  | .error f => e = Stops f ∧ ∃ ps', Rd w' P o rb L s ps'
/-- Values of the first n formats are recognised. -/
def ValC (o : Ro) (rb : Nat) (L : List Fm) (s : ByteArray) (n : Nat) : Prop := ∀ (w : World) (P : Nat → Prop) (ps : List Pt) (id depth : Int) (i st l : Nat), Rd w P o rb L s ps → At L id i → i < n → 0 ≤ depth → depth + n ≤ 100 → st ≤ l → l ≤ s.size →
  Calls Tryz.prog 73 #[ptr rb, .int .i64 id, .int .i64 depth, .int .i64 st, .int .i64 l] w fun e w' => VPost w P o rb L s ps (val L s n id depth st l ps.length) e w'

section
variable {w : World} {P : Nat → Prop} {o : Ro} {rb vb : Nat} {L : List Fm} {s : ByteArray} {ps : List Pt} {v : Vl} {f : Fld} {a l st k : Nat}
set_option maxRecDepth 20000 in
set_option maxHeartbeats 4000000 in
theorem rd_inside (h : Rd w P o rb L s ps) (hv : VAt w vb v) (pv : P vb) (ok : VOk v) (hN : VNat v a l st k) (hl : l ≤ s.size) (q : Nat) (hq : f.frm = q) (hq16 : q < 16) (N : Nat) (hC : ValC o rb L s N) (i : Nat) (hi : At L f.n i) (hiN : i < N) (hdp : v.depth + 1 + N ≤ 100) :
    Calls Tryz.prog 71 #[ptr rb, ptr vb, fldV f] w fun e w' =>
      KPost w P o rb L s ps (short v.format k a l (told f v.nums) (boxed v.format k (a + told f v.nums) (val L s N f.n (v.depth + 1) a (a + told f v.nums) ps.length))) e w' := by
  have na := hN.a
  have nl := hN.l
  have b0 := ok.at0
  have b1 := ok.lim
  have b2 := ok.max
  have bd := ok.dep
  have bq := ok.num q hq16
  obtain ⟨n, hn⟩ : ∃ n : Int, v.nums.getD q 0 = n := ⟨_, rfl⟩
  rw [hn] at bq
  obtain ⟨T, hT⟩ : ∃ T, T = told f v.nums := ⟨_, rfl⟩
  have htl : (T : Int) = n := by rw [hT]; unfold told; rw [hq, show ((q : Int)).toNat = q from rfl, hn]; omega
  have lv := hv.blk.lt
  have cq : w.cell? ⟨vb, 6 + q, none⟩ = some (.int .i64 n) := by rw [hv.num hq16, hn]
  have HC : Hid (∀ W, Below w.heap.size w W → W.cell? ⟨vb, 6 + q, none⟩ = some (.int .i64 n)) := Lib.hid fun W hb => (hb.cell (p := ⟨vb, 6 + q, none⟩) lv).trans cq
  have HH := Lib.hid (And.intro h (And.intro hv (And.intro ok (And.intro hN pv))))
  have HV2 : Hid (∀ W, Below w.heap.size w W → VAt W vb v) := Lib.hid fun W hb => hv.keep (hb.block vb hv.blk.lt)
  have hin : (0 : Int) ≤ (q : Int) ∧ (q : Int) < 16 := by omega
  have hw1 : IntKind.i64.wrap (v.depth + 1) = v.depth + 1 := wr64 (by omega) (by omega)
  have HVC := Lib.hid (And.intro hC (And.intro hi (And.intro hiN hdp)))
  rw [← hT]
  obtain ⟨RR, hRR⟩ : ∃ RR, RR = short v.format k a l T (boxed v.format k (a + T) (val L s N f.n (v.depth + 1) a (a + T) ps.length)) := ⟨_, rfl⟩
  rw [← hRR]
  have HRR := Lib.hid hRR
  clear h hv ok hN cq hn hT hC hi hiN hdp pv hRR
  go_enter Tryz.func71, Tryz.ntmps71
  go_wp2_with fail
  have hB0 := bx (w := w) (.cells #[.int .i64 f.kind, .int .i64 f.n, .int .i64 (q : Int), .string f.text] 56)
  have c2 : (w.alloc (.cells #[.int .i64 f.kind, .int .i64 f.n, .int .i64 (q : Int), .string f.text] 56)).cell? ⟨w.heap.size, 2, none⟩ = some (.int .i64 (q : Int)) := cell_of_row _ _ 2 _ _ _ (heap_alloc_new w _)
  have c1 : (w.alloc (.cells #[.int .i64 f.kind, .int .i64 f.n, .int .i64 (q : Int), .string f.text] 56)).cell? ⟨w.heap.size, 1, none⟩ = some (.int .i64 f.n) := cell_of_row _ _ 1 _ _ _ (heap_alloc_new w _)
  have cq := HC.out _ hB0
  have HB0 := Lib.hid hB0
  clear hB0
  generalize w.alloc (.cells #[.int .i64 f.kind, .int .i64 f.n, .int .i64 (q : Int), .string f.text] 56) = W at *
  by_cases hfit : n ≤ v.limit - v.at_
  · have HCL : Hid (Calls Tryz.prog 94 #[ptr vb, .int .i64 n] W.drew fun e w' => e = .returned (.int .i64 (v.at_ + n)) ∧ ∃ m, w' = W.drew.drewN m) := Lib.hid (after_yes vb v n _ (HV2.out _ HB0.out.drew) HH.out.2.2.1 bq.1 bq.2 hfit)
    have hs : ¬ l < a + T := by omega
    have hTl : a + T ≤ s.size := by omega
    have HR1 : Hid (RR = boxed v.format k (a + T) (val L s N f.n (v.depth + 1) a (a + T) ps.length)) := Lib.hid (HRR.out.trans (short_yes hs))
    refine wp_region_T 8 (fun w' : World => ∃ n : Nat, w' = W.drewN n) (by kernel_rfl) ⟨1, rfl⟩ (fun hHeld => ?_)
    refine takeTn 0 (h := ?_)
    (try simp only [pA, pB, pC, pD])
    refine takeTn 1 (h := ?_)
    (try simp only [pA, pB, pC, pD])
    refine takeTn 2 (h := ?_)
    (try simp only [pA, pB, pC, pD])
    refine takeTn 3 (h := ?_)
    (try simp only [pA, pB, pC, pD])
    refine takeTn 4 (h := ?_)
    (try simp only [pA, pB, pC, pD])
    refine takeTn 5 (h := ?_)
    (try simp only [pA, pB, pC, pD])
    refine takeTn 6 (h := ?_)
    (try simp only [pA, pB, pC, pD])
    refine takeTn 7 (h := ?_)
    (try simp only [pA, pB, pC, pD])
    refine wpAnyT_ready (rs := [8]) (by kernel_rfl) (by simp) ?_
    refine AllReadyT.cons (o := ?oB9) ?hB9 ?kB9 AllReadyT.nil
    case hB9 => (simp only [List.getElem?_toArray, List.getElem?_cons_zero, List.getElem?_cons_succ]; rfl)
    case kB9 =>
      intro K hK
      go_simp
      refine HCL.out.mono ?_
      rintro e w6 ⟨rfl, m6, hw6⟩
      refine hK.out _ _ (no_more (by kernel_rfl)) ?_
      clear hK K
      (try simp only [pA, pB, pC, pD])
      refine anyT 9 (S := by exact no_more (by kernel_rfl)) (h := ?_)
      (try simp only [pA, pB, pC, pD])
      refine wpAnyT_done (by kernel_rfl) ?_ _
      go_wp2_with fail
      have hB6 : Below w.heap.size w w6 := by rw [hw6]; exact HB0.out.trans ((drew2_below W m6).mono HB0.out.size)
      have c1' : w6.cell? ⟨w.heap.size, 1, none⟩ = some (.int .i64 f.n) := by rw [hw6]; exact c1
      obtain ⟨d0, d1, d2, -, d4, -⟩ := (HV2.out _ hB6).cells
      have hr6 := HH.out.1.below hB6
      have HVC6 : Hid (Calls Tryz.prog 73 #[ptr rb, .int .i64 f.n, .int .i64 (v.depth + 1), .int .i64 (a : Int), .int .i64 ((a : Int) + n)] w6.drew fun e w' => VPost w6.drew P o rb L s ps (val L s N f.n (v.depth + 1) a (a + T) ps.length) e w') := Lib.hid (by
        have := HVC.out.1 w6.drew P ps f.n (v.depth + 1) i a (a + T) (hr6.keptN 1) HVC.out.2.1 HVC.out.2.2.1 (by omega) HVC.out.2.2.2 (by omega) hTl
        rwa [show (((a + T : Nat)) : Int) = (a : Int) + n by omega] at this)
      have HB6 := Lib.hid hB6
      clear hw6 hB6 cq c1 c2 hr6
      cases hsub : val L s N f.n (v.depth + 1) a (a + T) ps.length with
      | error rf =>
        have HV : Hid (Calls Tryz.prog 73 #[ptr rb, .int .i64 f.n, .int .i64 (v.depth + 1), .int .i64 (a : Int), .int .i64 ((a : Int) + n)] w6.drew fun e w' => Kept P w6.drew w' ∧ e = Stops rf ∧ ∃ ps', Rd w' P o rb L s ps') := Lib.hid (by have := HVC6.out; rw [hsub] at this; exact this)
        have HNO : Hid (∀ w', Kept P w6.drew w' → (∃ ps', Rd w' P o rb L s ps') → KPost w P o rb L s ps RR (Stops rf) w') := Lib.hid fun w' hk hr => by
          obtain ⟨ps', hr⟩ := hr
          exact KPost.no_ (by rw [HR1.out, hsub]; rfl) ((Kept.of_below HB6.out.drew HH.out.1.1.pin).trans hk) hr
        clear hsub HVC6
        refine wp_region_T 13 (fun w' : World => ∃ n : Nat, w' = w6.drewN n) (by kernel_rfl) ⟨1, rfl⟩ (fun hHeld => ?_)
        refine takeTn 0 (h := ?_)
        (try simp only [pA, pB, pC, pD])
        refine takeTn 1 (h := ?_)
        (try simp only [pA, pB, pC, pD])
        refine takeTn 2 (h := ?_)
        (try simp only [pA, pB, pC, pD])
        refine takeTn 3 (h := ?_)
        (try simp only [pA, pB, pC, pD])
        refine takeTn 4 (h := ?_)
        (try simp only [pA, pB, pC, pD])
        refine takeTn 5 (h := ?_)
        (try simp only [pA, pB, pC, pD])
        refine takeTn 6 (h := ?_)
        (try simp only [pA, pB, pC, pD])
        refine takeTn 7 (h := ?_)
        (try simp only [pA, pB, pC, pD])
        refine takeTn 8 (h := ?_)
        (try simp only [pA, pB, pC, pD])
        refine takeTn 9 (h := ?_)
        (try simp only [pA, pB, pC, pD])
        refine takeTn 10 (h := ?_)
        (try simp only [pA, pB, pC, pD])
        refine takeTn 11 (h := ?_)
        (try simp only [pA, pB, pC, pD])
        refine takeTn 12 (h := ?_)
        (try simp only [pA, pB, pC, pD])
        refine wpAnyT_ready (rs := [13]) (by kernel_rfl) (by simp) ?_
        refine AllReadyT.cons (o := ?oB24) ?hB24 ?kB24 AllReadyT.nil
        case hB24 => (simp only [List.getElem?_toArray, List.getElem?_cons_zero, List.getElem?_cons_succ]; rfl)
        case kB24 =>
          intro K hK
          go_simp
          refine HV.out.mono ?_
          rintro e w7 ⟨hk7, rfl, hr7⟩
          exact ⟨rfl, HNO.out _ hk7 hr7⟩
      | ok x =>
        obtain ⟨E, qs⟩ := x
        have HV : Hid (Calls Tryz.prog 73 #[ptr rb, .int .i64 f.n, .int .i64 (v.depth + 1), .int .i64 (a : Int), .int .i64 ((a : Int) + n)] w6.drew fun e w' => Kept P w6.drew w' ∧ e = .returned (.int .i64 (E : Nat)) ∧ Rd w' P o rb L s (ps ++ qs)) := Lib.hid (by have := HVC6.out; rw [hsub] at this; exact this)
        have hE := val_in L s N _ _ _ _ _ _ _ hsub (by omega)
        have HR2 : Hid (RR = boxed v.format k (a + T) (.ok (E, qs))) := Lib.hid (by rw [HR1.out, hsub])
        clear hsub HVC6
        refine wp_region_T 13 (fun w' : World => ∃ n : Nat, w' = w6.drewN n) (by kernel_rfl) ⟨1, rfl⟩ (fun hHeld => ?_)
        refine takeTn 0 (h := ?_)
        (try simp only [pA, pB, pC, pD])
        refine takeTn 1 (h := ?_)
        (try simp only [pA, pB, pC, pD])
        refine takeTn 2 (h := ?_)
        (try simp only [pA, pB, pC, pD])
        refine takeTn 3 (h := ?_)
        (try simp only [pA, pB, pC, pD])
        refine takeTn 4 (h := ?_)
        (try simp only [pA, pB, pC, pD])
        refine takeTn 5 (h := ?_)
        (try simp only [pA, pB, pC, pD])
        refine takeTn 6 (h := ?_)
        (try simp only [pA, pB, pC, pD])
        refine takeTn 7 (h := ?_)
        (try simp only [pA, pB, pC, pD])
        refine takeTn 8 (h := ?_)
        (try simp only [pA, pB, pC, pD])
        refine takeTn 9 (h := ?_)
        (try simp only [pA, pB, pC, pD])
        refine takeTn 10 (h := ?_)
        (try simp only [pA, pB, pC, pD])
        refine takeTn 11 (h := ?_)
        (try simp only [pA, pB, pC, pD])
        refine takeTn 12 (h := ?_)
        (try simp only [pA, pB, pC, pD])
        refine wpAnyT_ready (rs := [13]) (by kernel_rfl) (by simp) ?_
        refine AllReadyT.cons (o := ?oB38) ?hB38 ?kB38 AllReadyT.nil
        case hB38 => (simp only [List.getElem?_toArray, List.getElem?_cons_zero, List.getElem?_cons_succ]; rfl)
        case kB38 =>
          intro K hK
          go_simp
          refine HV.out.mono ?_
          rintro e w7 ⟨hk7, rfl, hr7⟩
          refine hK.out _ _ (no_more (by kernel_rfl)) ?_
          clear hK K
          (try simp only [pA, pB, pC, pD])
          refine anyT 14 (S := by exact no_more (by kernel_rfl)) (h := ?_)
          (try simp only [pA, pB, pC, pD])
          refine wpAnyT_done (by kernel_rfl) ?_ _
          have hk : Kept P w w7 := (Kept.of_below HB6.out.drew HH.out.1.1.pin).trans hk7
          have hv7 : VAt w7 vb v := HH.out.2.1.keep (hk.block vb HH.out.2.2.2.2)
          obtain ⟨-, e1, e2, -, -, -⟩ := hv7.cells
          have HR := Lib.hid (And.intro hk hr7)
          clear hk7 hr7 hk hv7 d0 d1 d2 d4 c1'
          by_cases hlt : E < a + T
          · have h1 : (E : Int) < (a : Int) + n := by omega
            have HNO : Hid (∀ w', Below w7.heap.size w7 w' → KPost w P o rb L s ps RR (Stops ⟨(E : Int), v.format, v.field, 4⟩) w') := Lib.hid fun w' hb => by
              rw [HH.out.2.2.2.1.k]
              exact KPost.no_ (by rw [HR2.out]; exact if_pos hlt) (HR.out.1.trans (Kept.of_below hb HR.out.2.1.pin)) (HR.out.2.below hb)
            clear hlt
            go_wp2_with fail
            refine wp_region_T 9 (fun w' : World => ∃ n : Nat, w' = w7.drewN n) (by kernel_rfl) ⟨1, rfl⟩ (fun hHeld => ?_)
            refine takeTn 0 (h := ?_)
            (try simp only [pA, pB, pC, pD])
            refine takeTn 1 (h := ?_)
            (try simp only [pA, pB, pC, pD])
            refine takeTn 2 (h := ?_)
            (try simp only [pA, pB, pC, pD])
            refine takeTn 3 (h := ?_)
            (try simp only [pA, pB, pC, pD])
            refine takeTn 4 (h := ?_)
            (try simp only [pA, pB, pC, pD])
            refine takeTn 5 (h := ?_)
            (try simp only [pA, pB, pC, pD])
            refine takeTn 6 (h := ?_)
            (try simp only [pA, pB, pC, pD])
            refine takeTn 7 (h := ?_)
            (try simp only [pA, pB, pC, pD])
            refine takeTn 8 (h := ?_)
            (try simp only [pA, pB, pC, pD])
            refine wpAnyT_ready (rs := [9]) (by kernel_rfl) (by simp) ?_
            refine AllReadyT.cons (o := ?oB49) ?hB49 ?kB49 AllReadyT.nil
            case hB49 => (simp only [List.getElem?_toArray, List.getElem?_cons_zero, List.getElem?_cons_succ]; rfl)
            case kB49 =>
              intro K hK
              go_simp
              refine (refuse_any _ _ _ _ _).mono ?_
              rintro e w8 ⟨rfl, n8, rfl⟩
              exact ⟨rfl, HNO.out _ (drew2_below w7 n8)⟩
          · have h1 : ¬ (E : Int) < (a : Int) + n := by omega
            go_wp2
            go_ret2
            exact KPost.ok_ (by rw [HR2.out]; exact if_neg hlt) rfl HR.out.1 HR.out.2
  · have HNO : Hid (∀ W', Below W.heap.size W W' → KPost w P o rb L s ps RR (Stops ⟨v.at_, v.format, v.field, 1⟩) W') := Lib.hid fun W' hb => by
      rw [HH.out.2.2.2.1.a, HH.out.2.2.2.1.k]
      exact KPost.no (HRR.out.trans (short_no (by omega))) HH.out.1 (HB0.out.trans (hb.mono HB0.out.size))
    have HCL : Hid (Calls Tryz.prog 94 #[ptr vb, .int .i64 n] W.drew fun e w' => e = Stops ⟨v.at_, v.format, v.field, 1⟩ ∧ ∃ m, w' = W.drew.drewN m) := Lib.hid (after_no vb v n _ (HV2.out _ HB0.out.drew) HH.out.2.2.1 hfit)
    clear hfit
    refine wp_region_T 8 (fun w' : World => ∃ n : Nat, w' = W.drewN n) (by kernel_rfl) ⟨1, rfl⟩ (fun hHeld => ?_)
    refine takeTn 0 (h := ?_)
    (try simp only [pA, pB, pC, pD])
    refine takeTn 1 (h := ?_)
    (try simp only [pA, pB, pC, pD])
    refine takeTn 2 (h := ?_)
    (try simp only [pA, pB, pC, pD])
    refine takeTn 3 (h := ?_)
    (try simp only [pA, pB, pC, pD])
    refine takeTn 4 (h := ?_)
    (try simp only [pA, pB, pC, pD])
    refine takeTn 5 (h := ?_)
    (try simp only [pA, pB, pC, pD])
    refine takeTn 6 (h := ?_)
    (try simp only [pA, pB, pC, pD])
    refine takeTn 7 (h := ?_)
    (try simp only [pA, pB, pC, pD])
    refine wpAnyT_ready (rs := [8]) (by kernel_rfl) (by simp) ?_
    refine AllReadyT.cons (o := ?oB58) ?hB58 ?kB58 AllReadyT.nil
    case hB58 => (simp only [List.getElem?_toArray, List.getElem?_cons_zero, List.getElem?_cons_succ]; rfl)
    case kB58 =>
      intro K hK
      go_simp
      refine HCL.out.mono ?_
      rintro e w6 ⟨rfl, m6, rfl⟩
      exact ⟨rfl, HNO.out _ (drew2_below W m6)⟩

end
end RecJ
section RecK
open Go.RowKit Fx Rec

section
variable {w : World} {P : Nat → Prop} {o : Ro} {rb vb : Nat} {L : List Fm} {s : ByteArray} {ps : List Pt} {v : Vl} {f : Fld} {a l st k : Nat}
set_option maxRecDepth 20000 in
set_option maxHeartbeats 4000000 in
theorem rd_list (h : Rd w P o rb L s ps) (hv : VAt w vb v) (pv : P vb) (ok : VOk v) (hN : VNat v a l st k) (hl : l ≤ s.size) (q : Nat) (hq : f.frm = q) (hq16 : q < 16) (N : Nat) (hC : ValC o rb L s N) (i : Nat) (hi : At L f.n i) (hiN : i < N) (hdp : v.depth + 1 + N ≤ 100) :
    Calls Tryz.prog 70 #[ptr rb, ptr vb, fldV f] w fun e w' =>
      KPost w P o rb L s ps (listed (told f v.nums) (reps (val L s N) f.n (v.depth + 1) l a ps.length (told f v.nums))) e w' := by
  have na := hN.a
  have nl := hN.l
  have b0 := ok.at0
  have b1 := ok.lim
  have b2 := ok.max
  have bd := ok.dep
  have bq := ok.num q hq16
  obtain ⟨n, hn⟩ : ∃ n : Int, v.nums.getD q 0 = n := ⟨_, rfl⟩
  rw [hn] at bq
  obtain ⟨T, hT⟩ : ∃ T, T = told f v.nums := ⟨_, rfl⟩
  have htl : (T : Int) = n := by rw [hT]; unfold told; rw [hq, show ((q : Int)).toNat = q from rfl, hn]; omega
  have lv := hv.blk.lt
  have cq : w.cell? ⟨vb, 6 + q, none⟩ = some (.int .i64 n) := by rw [hv.num hq16, hn]
  have HC : Hid (∀ W, Below w.heap.size w W → W.cell? ⟨vb, 6 + q, none⟩ = some (.int .i64 n)) := Lib.hid fun W hb => (hb.cell (p := ⟨vb, 6 + q, none⟩) lv).trans cq
  have HH := Lib.hid (And.intro h (And.intro hv (And.intro ok (And.intro hN pv))))
  have HV2 : Hid (∀ W, Below w.heap.size w W → VAt W vb v) := Lib.hid fun W hb => hv.keep (hb.block vb hv.blk.lt)
  have hin : (0 : Int) ≤ (q : Int) ∧ (q : Int) < 16 := by omega
  have hw1 : IntKind.i64.wrap (v.depth + 1) = v.depth + 1 := wr64 (by omega) (by omega)
  have HVC := Lib.hid (And.intro hC (And.intro hi (And.intro hiN hdp)))
  rw [← hT]
  obtain ⟨RR, hRR⟩ : ∃ RR, RR = listed T (reps (val L s N) f.n (v.depth + 1) l a ps.length T) := ⟨_, rfl⟩
  rw [← hRR]
  have HRR := Lib.hid hRR
  clear h hv ok hN cq hn hT hC hi hiN hdp pv hRR
  go_enter Tryz.func70, Tryz.ntmps70
  go_wp2_with fail
  have hB0 := bx (w := w) (.cells #[.int .i64 f.kind, .int .i64 f.n, .int .i64 (q : Int), .string f.text] 56)
  have hbk := Blk.new w 56 #[.int .i64 f.kind, .int .i64 f.n, .int .i64 (q : Int), .string f.text]
  have c2 : (w.alloc (.cells #[.int .i64 f.kind, .int .i64 f.n, .int .i64 (q : Int), .string f.text] 56)).cell? ⟨w.heap.size, 2, none⟩ = some (.int .i64 (q : Int)) := cell_of_row _ _ 2 _ _ _ (heap_alloc_new w _)
  have cq := HC.out _ hB0
  have hr0 := (HH.out.1.below hB0).add_ hbk (by decide) (by decide) (by decide) (by decide)
  have HB0 := Lib.hid (And.intro hB0 (And.intro hbk hr0))
  obtain ⟨-, -, -, -, c4, -⟩ := (HV2.out _ hB0).cells
  clear hB0 hbk hr0
  generalize w.alloc (.cells #[.int .i64 f.kind, .int .i64 f.n, .int .i64 (q : Int), .string f.text] 56) = W at *
  refine wp_region_held_drew (S := (fun w' : World => ∃ n : Nat, w' = W.drewN n)) (by kernel_rfl) ⟨1, rfl⟩ (fun hHeld => ?_)
  refine takeHn 0 (h := ?_)
  (try simp only [pA, pB, pC, pD])
  refine takeHn 1 (h := ?_)
  (try simp only [pA, pB, pC, pD])
  refine takeHn 2 (h := ?_)
  (try simp only [pA, pB, pC, pD])
  refine takeHn 3 (h := ?_)
  (try simp only [pA, pB, pC, pD])
  refine takeHn 4 (h := ?_)
  (try simp only [pA, pB, pC, pD])
  refine takeHn 5 (h := ?_)
  (try simp only [pA, pB, pC, pD])
  refine takeHn 6 (h := ?_)
  (try simp only [pA, pB, pC, pD])
  refine takeHn 7 (h := ?_)
  (try simp only [pA, pB, pC, pD])
  refine takeHn 8 (h := ?_)
  (try simp only [pA, pB, pC, pD])
  refine takeHn 9 (h := ?_)
  (try simp only [pA, pB, pC, pD])
  refine takeHn 10 (h := ?_)
  (try simp only [pA, pB, pC, pD])
  refine takeHn 11 (h := ?_)
  (try simp only [pA, pB, pC, pD])
  refine takeHn 12 (h := ?_)
  (try simp only [pA, pB, pC, pD])
  refine wpAnyH_done (by kernel_rfl) ?_ _
  go_wp2_with fail
  have HI0 : Hid (Kept (fun k => P k ∨ k = w.heap.size) W W.drew ∧ Rd W.drew (fun k => P k ∨ k = w.heap.size) o rb L s (ps ++ []) ∧ reps (val L s N) f.n (v.depth + 1) l a ps.length 0 = .ok (a, []) ∧ (a ≤ a ∧ a ≤ l) ∧ (a : Int) = a) := Lib.hid ⟨(Kept.refl _ _).drew, by rw [List.append_nil]; exact HB0.out.2.2.keptN 1, rfl, ⟨Nat.le_refl _, by omega⟩, rfl⟩
  clear cq c2 c4
  go_loopw [9, 22] (fun e i wr => ∃ (j E : Nat) (EI : Int) (qs : List Pt), j ≤ T ∧ e = .int .i64 EI ∧ i = .int .i64 j ∧ Hid (Kept (fun k => P k ∨ k = w.heap.size) W wr ∧ Rd wr (fun k => P k ∨ k = w.heap.size) o rb L s (ps ++ qs) ∧ reps (val L s N) f.n (v.depth + 1) l a ps.length j = .ok (E, qs) ∧ (a ≤ E ∧ E ≤ l) ∧ EI = E)) (fun _ i _ => T - (intOf i).toNat)
  case atStart => exact ⟨0, a, a, [], Nat.zero_le _, rfl, rfl, HI0⟩
  case round =>
    obtain ⟨j, E, EI, qs, hj, rfl, rfl, HJ⟩ := hrel
    obtain ⟨wq, rfl⟩ : ∃ wq, wq = wr := ⟨_, rfl⟩
    have HEND : Hid (Kept P w wq ∧ VAt wq vb v) := Lib.hid ⟨(Kept.of_below HB0.out.1 HH.out.1.1.pin).trans (HJ.out.1.mono fun k hk => .inl hk), HH.out.2.1.keep ((HJ.out.1.block vb (.inl HH.out.2.2.2.2)).trans (HB0.out.1.block vb lv))⟩
    by_cases hlt : j < T
    · have hlt' : (j : Int) < n := by omega
      obtain ⟨d0, -, -, -, -, d5⟩ := HEND.out.2.cells
      have hbq : Blk wq w.heap.size 56 #[.int .i64 f.kind, .int .i64 f.n, .int .i64 (q : Int), .string f.text] := (HJ.out.1.block _ (.inr rfl)).trans HB0.out.2.1
      have c1 := hbq.cell 1
      simp only [List.getElem?_toArray, List.getElem?_cons_zero, List.getElem?_cons_succ] at c1
      have HVC6 : Hid (Calls Tryz.prog 73 #[ptr rb, .int .i64 f.n, .int .i64 (v.depth + 1), .int .i64 EI, .int .i64 (l : Int)] wq.drew fun e w' => VPost wq.drew (fun k => P k ∨ k = w.heap.size) o rb L s (ps ++ qs) (val L s N f.n (v.depth + 1) E l (ps.length + qs.length)) e w') := Lib.hid (by
        have := HVC.out.1 wq.drew (fun k => P k ∨ k = w.heap.size) (ps ++ qs) f.n (v.depth + 1) i E l (HJ.out.2.1.keptN 1) HVC.out.2.1 HVC.out.2.2.1 (by omega) HVC.out.2.2.2 HJ.out.2.2.2.1.2 hl
        rwa [List.length_append, ← HJ.out.2.2.2.2] at this)
      clear hbq
      cases hsub : val L s N f.n (v.depth + 1) E l (ps.length + qs.length) with
      | error rf =>
        have HR1 : Hid (RR = .error rf) := Lib.hid (by
          rw [HRR.out, reps_le (k := j + 1) (r := rf) (by rw [reps, HJ.out.2.2.1]; show (match val L s N f.n (v.depth + 1) E l (ps.length + qs.length) with | .error r => _ | .ok (e', qs') => _) = _; rw [hsub]) (by omega)]; rfl)
        have HV : Hid (Calls Tryz.prog 73 #[ptr rb, .int .i64 f.n, .int .i64 (v.depth + 1), .int .i64 EI, .int .i64 (l : Int)] wq.drew fun e w' => Kept (fun k => P k ∨ k = w.heap.size) wq.drew w' ∧ e = Stops rf ∧ ∃ ps', Rd w' (fun k => P k ∨ k = w.heap.size) o rb L s ps') := Lib.hid (by have := HVC6.out; rw [hsub] at this; exact this)
        have HNO : Hid (∀ w', Kept (fun k => P k ∨ k = w.heap.size) wq.drew w' → (∃ ps', Rd w' (fun k => P k ∨ k = w.heap.size) o rb L s ps') → KPost w P o rb L s ps RR (Stops rf) w') := Lib.hid fun w' hk hr => by
          obtain ⟨ps', hr⟩ := hr
          have hk2 : Kept P w w' := HEND.out.1.trans ((Kept.refl P wq).drew.trans (hk.mono fun k hk => .inl hk))
          exact KPost.no_ HR1.out hk2 (HH.out.1.weak hr hk2.size fun k hk => .inl hk)
        clear hsub HVC6
        go_wp2_with fail
        refine wp_region_T 13 (fun w' : World => ∃ n : Nat, w' = wq.drewN n) (by kernel_rfl) ⟨1, rfl⟩ (fun hHeld => ?_)
        refine takeTn 0 (h := ?_)
        (try simp only [pA, pB, pC, pD])
        refine takeTn 1 (h := ?_)
        (try simp only [pA, pB, pC, pD])
        refine takeTn 2 (h := ?_)
        (try simp only [pA, pB, pC, pD])
        refine takeTn 3 (h := ?_)
        (try simp only [pA, pB, pC, pD])
        refine takeTn 4 (h := ?_)
        (try simp only [pA, pB, pC, pD])
        refine takeTn 5 (h := ?_)
        (try simp only [pA, pB, pC, pD])
        refine takeTn 6 (h := ?_)
        (try simp only [pA, pB, pC, pD])
        refine takeTn 7 (h := ?_)
        (try simp only [pA, pB, pC, pD])
        refine takeTn 8 (h := ?_)
        (try simp only [pA, pB, pC, pD])
        refine takeTn 9 (h := ?_)
        (try simp only [pA, pB, pC, pD])
        refine takeTn 10 (h := ?_)
        (try simp only [pA, pB, pC, pD])
        refine takeTn 11 (h := ?_)
        (try simp only [pA, pB, pC, pD])
        refine takeTn 12 (h := ?_)
        (try simp only [pA, pB, pC, pD])
        refine wpAnyT_ready (rs := [13]) (by kernel_rfl) (by simp) ?_
        refine AllReadyT.cons (o := ?oB27) ?hB27 ?kB27 AllReadyT.nil
        case hB27 => (simp only [List.getElem?_toArray, List.getElem?_cons_zero, List.getElem?_cons_succ]; rfl)
        case kB27 =>
          intro K hK
          go_simp
          refine HV.out.mono ?_
          rintro e w7 ⟨hk7, rfl, hr7⟩
          exact ⟨rfl, HNO.out _ hk7 hr7⟩
      | ok x =>
        obtain ⟨E2, qs2⟩ := x
        have hE := val_in L s N _ _ _ _ _ _ _ hsub HJ.out.2.2.2.1.2
        have HR2 : Hid (reps (val L s N) f.n (v.depth + 1) l a ps.length (j + 1) = .ok (E2, qs ++ qs2)) := Lib.hid (by
          rw [reps, HJ.out.2.2.1]; show (match val L s N f.n (v.depth + 1) E l (ps.length + qs.length) with | .error r => _ | .ok (e', qs') => _) = _; rw [hsub])
        have HV : Hid (Calls Tryz.prog 73 #[ptr rb, .int .i64 f.n, .int .i64 (v.depth + 1), .int .i64 EI, .int .i64 (l : Int)] wq.drew fun e w' => Kept (fun k => P k ∨ k = w.heap.size) wq.drew w' ∧ e = .returned (.int .i64 (E2 : Nat)) ∧ Rd w' (fun k => P k ∨ k = w.heap.size) o rb L s ((ps ++ qs) ++ qs2)) := Lib.hid (by have := HVC6.out; rw [hsub] at this; exact this)
        obtain ⟨E3, hE3⟩ : ∃ E3 : Int, (E2 : Int) = E3 := ⟨_, rfl⟩
        rw [hE3] at HV
        have HE3 := Lib.hid hE3
        clear hsub HVC6 hE3
        go_wp2_with fail
        refine wp_region_T 13 (fun w' : World => ∃ n : Nat, w' = wq.drewN n) (by kernel_rfl) ⟨1, rfl⟩ (fun hHeld => ?_)
        refine takeTn 0 (h := ?_)
        (try simp only [pA, pB, pC, pD])
        refine takeTn 1 (h := ?_)
        (try simp only [pA, pB, pC, pD])
        refine takeTn 2 (h := ?_)
        (try simp only [pA, pB, pC, pD])
        refine takeTn 3 (h := ?_)
        (try simp only [pA, pB, pC, pD])
        refine takeTn 4 (h := ?_)
        (try simp only [pA, pB, pC, pD])
        refine takeTn 5 (h := ?_)
        (try simp only [pA, pB, pC, pD])
        refine takeTn 6 (h := ?_)
        (try simp only [pA, pB, pC, pD])
        refine takeTn 7 (h := ?_)
        (try simp only [pA, pB, pC, pD])
        refine takeTn 8 (h := ?_)
        (try simp only [pA, pB, pC, pD])
        refine takeTn 9 (h := ?_)
        (try simp only [pA, pB, pC, pD])
        refine takeTn 10 (h := ?_)
        (try simp only [pA, pB, pC, pD])
        refine takeTn 11 (h := ?_)
        (try simp only [pA, pB, pC, pD])
        refine takeTn 12 (h := ?_)
        (try simp only [pA, pB, pC, pD])
        refine wpAnyT_ready (rs := [13]) (by kernel_rfl) (by simp) ?_
        refine AllReadyT.cons (o := ?oB41) ?hB41 ?kB41 AllReadyT.nil
        case hB41 => (simp only [List.getElem?_toArray, List.getElem?_cons_zero, List.getElem?_cons_succ]; rfl)
        case kB41 =>
          intro K hK
          go_simp
          refine HV.out.mono ?_
          rintro e w7 ⟨hk7, rfl, hr7⟩
          refine hK.out _ _ (no_more (by kernel_rfl)) ?_
          clear hK K
          (try simp only [pA, pB, pC, pD])
          refine anyT 14 (S := by exact no_more (by kernel_rfl)) (h := ?_)
          (try simp only [pA, pB, pC, pD])
          refine wpAnyT_done (by kernel_rfl) ?_ _
          have hk : Kept (fun k => P k ∨ k = w.heap.size) W w7 := HJ.out.1.trans ((Kept.refl _ wq).drew.trans hk7)
          have HR := Lib.hid (And.intro hk hr7)
          clear hk7 hr7 hk d0 d5 c1
          go_wp2_with fail
          exact ⟨⟨j + 1, E2, E3, qs ++ qs2, by omega, rfl, by go_num, Lib.hid ⟨HR.out.1, by rw [← List.append_assoc]; exact HR.out.2, HR2.out, ⟨by have := HJ.out.2.2.2.1.1; omega, hE.2⟩, HE3.out.symm⟩⟩, by simp [intOf]; omega⟩
    · obtain rfl : j = T := by omega
      have hlt' : ¬ (j : Int) < n := by omega
      go_wp2_with fail
      go_ret2
      refine KPost.ok_ (en := E) (by rw [HRR.out, HJ.out.2.2.1, ← htl]; rfl) HJ.out.2.2.2.2 HEND.out.1 (HH.out.1.weak HJ.out.2.1 HEND.out.1.size fun k hk => .inl hk)
end
end RecK
section RecL
open Go.RowKit Fx Rec

theorem infoPart : (Tryz.prog.info? 26).map (fun i => (i.zero, i.size, i.bytes)) = some (some (.agg #[.int .i64 0, .int .i64 0, .int .i64 0, .int .i64 0, .int .i64 0, .int .i64 0]), 6, 48) := by kernel_rfl
theorem run_append_part (w : World) (ty : TypeId) (v : Value) (n : Nat) (xs : List Value) (hown : w.ownsRow 0 26 6 v n xs) (hn : n ≤ 100000) (g : Nat) (p : Pt) (hg : w.heap[g]? = some (.cells (ptC p).toArray 26 (0, 0))) :
    ∃ v' w', (Builtin.append_ #[38, 38] ty #[v, .slice (some ⟨g, 0, none⟩) 1 1]).run Tryz.prog w = .ok v' w' ∧ Grew w w' 0 26 6 v v' (n + 1) (xs ++ ptC p) := by
  obtain ⟨i0, hi, hz0, hz1, hz2⟩ := info_parts infoPart
  obtain ⟨v', w', h1, h2, h3, _, h5⟩ := run_append_own_at (P := Tryz.prog) w 0 38 ty 26 i0 _ 6 48 Tryz.underlying38 hi hz0 hz1 hz2 rfl (by decide) v n xs hown ⟨g, 0, none⟩ 1 1 (ptC p) rfl
    (fun j u hu => by
      have hadd : (⟨g, 0, none⟩ : Addr).add j = ⟨g, j, none⟩ := by unfold Addr.add; split <;> simp_all
      rw [hadd, cell_of_row w g j _ _ _ hg]; simpa using hu)
    (fun u hu => by simp [ptC] at hu; rcases hu with rfl | rfl | rfl | rfl | rfl | rfl <;> rfl) (by unfold maxLen; omega) (by omega) (Nat.zero_le _)
  exact ⟨v', w', h1, h2, h3, h5⟩
theorem step_append_part {ops : Array Oper} {o : Oper} {a : Act} {w : World} {K : Act → World → Prop} {Q : Exit → Act → World → Prop} {E : Prop}
    (hg : o.guard = none) (s x : Operand) (hop : o.op = Op.call { callee := Callee.builtin Builtin.append, args := #[s, x], argTypes := #[38, 38] })
    (v : Value) (n : Nat) (xs : List Value) (hs : a.eval s = v) (hown : w.ownsRow 0 26 6 v n xs) (hn : n ≤ 100000) (g : Nat) (p : Pt) (hx : a.eval x = .slice (some ⟨g, 0, none⟩) 1 1)
    (hb : w.heap[g]? = some (.cells (ptC p).toArray 26 (0, 0)))
    (hK : ∀ v' w', Grew w w' 0 26 6 v v' (n + 1) (xs ++ ptC p) → K (a.put o.dst v') w') :
    if Region.wanted o (yielded ops a.tmps) = true then Oper.wp Tryz.prog o a w K Q else E := by
  have hw : Region.wanted o (yielded ops a.tmps) = true := by simp [Region.wanted, hg]
  rw [if_pos hw]
  obtain ⟨v', w', hr, h2⟩ := run_append_part w o.type v n xs hown hn g p hb
  unfold Oper.wp
  simp [execOp, hop, resolve, invoke, builtin, hs, hx, hr, Result.andThen]
  exact hK _ _ h2

theorem own_set {w : World} {B : Nat} {e : TypeId} {sz : Nat} {v : Value} {n : Nat} {xs : List Value} (h : w.ownsRow B e sz v n xs) {g : Nat} (hg : v.ownBlock = some g) {i : Nat} (_hi : i < n * sz) (u : Value) :
    (w.setCell ⟨g, i, none⟩ u).ownsRow B e sz v n (xs.set i u) := by
  obtain ⟨h0, h⟩ := h
  refine ⟨by rw [List.length_set]; exact h0, ?_⟩
  rcases h with ⟨rfl, _⟩ | ⟨g', cap, cur, rfl, hg', hh, h1, h2, h3, h4⟩
  · simp [Value.ownBlock] at hg
  · have : g' = g := by simpa [Value.ownBlock] using hg
    subst this
    refine .inr ⟨g', cap, cur.setIfInBounds i u, rfl, hg', ?_, h1, h2, by simp [h3], ?_⟩
    · exact (show Blk w g' e cur from hh).set_ i u
    · rw [Array.toList_setIfInBounds, List.take_set, h4]
theorem own_cell {w : World} {B : Nat} {e : TypeId} {sz : Nat} {v : Value} {n : Nat} {xs : List Value} (h : w.ownsRow B e sz v n xs) {g : Nat} (hg : v.ownBlock = some g) {i : Nat} (hi : i < n * sz) :
    w.cell? ⟨g, i, none⟩ = xs[i]? ∧ w.frozen? ⟨g, i, none⟩ = false := by
  rcases h.2 with ⟨rfl, _⟩ | ⟨g', cap, cur, rfl, hg', hh, h1, h2, h3, h4⟩
  · simp [Value.ownBlock] at hg
  · have : g' = g := by simpa [Value.ownBlock] using hg
    subst this
    refine ⟨?_, (show Blk w g' e cur from hh).frozen i⟩
    rw [cell_of_row w g' i cur _ (0, 0) hh, ← h4, List.getElem?_take, if_pos hi]
    simp
theorem flatP_app (a b : List Pt) : flatP (a ++ b) = flatP a ++ flatP b := by unfold flatP; simp
theorem flatP_cons (p : Pt) (b : List Pt) : flatP (p :: b) = ptC p ++ flatP b := by unfold flatP; simp
theorem flatP_stop (ps qs : List Pt) (p : Pt) (E : Int) : (flatP (ps ++ p :: qs)).set (ps.length * 6 + 4) (.int .i64 E) = flatP (ps ++ { p with stop := E } :: qs) := by
  rw [flatP_app, flatP_app, flatP_cons, flatP_cons, List.set_append_right _ _ (by rw [flatP_len]; omega), flatP_len, show ps.length * 6 + 4 - ps.length * 6 = 4 by omega]
  rfl
theorem flatP_number (ps qs : List Pt) (p : Pt) (E : Int) : (flatP (ps ++ p :: qs)).set (ps.length * 6 + 5) (.int .i64 E) = flatP (ps ++ { p with number := E } :: qs) := by
  rw [flatP_app, flatP_app, flatP_cons, flatP_cons, List.set_append_right _ _ (by rw [flatP_len]; omega), flatP_len, show ps.length * 6 + 5 - ps.length * 6 = 5 by omega]
  rfl

/-- Where the parts lie. -/
structure PartsAt (w : World) (P : Nat → Prop) (rb : Nat) (ps : List Pt) (vp : Value) : Prop where
  cell : w.cell? ⟨rb, 4, none⟩ = some vp
  froz : w.frozen? ⟨rb, 4, none⟩ = false
  row : w.ownsRow 0 26 6 vp ps.length (flatP ps)
  shape : ∃ a c, vp = .slice a ps.length c ∧ ps.length ≤ 9223372036854775807 ∧ c ≤ 9223372036854775807 ∧ ps.length ≤ c
theorem Rd.parts {w : World} {P : Nat → Prop} {o : Ro} {rb : Nat} {L : List Fm} {s : ByteArray} {ps : List Pt} (h : Rd w P o rb L s ps) : ∃ vp, PartsAt w P rb ps vp := by
  obtain ⟨_, vp, k, vs, hm⟩ := h
  refine ⟨vp, by rw [hm.blk.cell]; rfl, hm.blk.frozen 4, hm.row, ?_⟩
  rcases hm.row.2 with ⟨rfl, h0⟩ | ⟨g, cap, cur, rfl, _, _, h1, h2, _⟩
  · exact ⟨none, 0, by rw [h0], by omega, by omega, by omega⟩
  · unfold maxLen at h2
    exact ⟨_, cap, rfl, by omega, by omega, h1⟩
/-- A part has been put behind. -/
theorem Rd.grow {w W w1 : World} {P : Nat → Prop} {o : Ro} {rb : Nat} {L : List Fm} {s : ByteArray} {ps : List Pt} (h : Rd w P o rb L s ps) (hl : ps.length < 5000) {vp v1 : Value} (hp : PartsAt w P rb ps vp) (p : Pt) (hb : Below w.heap.size w W)
    (hG : Grew W w1 0 26 6 vp v1 (ps.length + 1) (flatP ps ++ ptC p)) :
    (w1.cell? ⟨rb, 4, none⟩ = some vp ∧ w1.frozen? ⟨rb, 4, none⟩ = false) ∧ Kept P w (w1.setCell ⟨rb, 4, none⟩ v1) ∧ Rd (w1.setCell ⟨rb, 4, none⟩ v1) P o rb L s (ps ++ [p]) ∧ ∃ g c, v1 = .slice (some ⟨g, 0, none⟩) (ps.length + 1) c := by
  obtain ⟨hf, vp', k, vs, hm⟩ := h
  have evp : vp' = vp := by
    have h1 := hm.blk.cell 4
    rw [hp.cell] at h1
    simp only [List.getElem?_toArray, List.getElem?_cons_zero, List.getElem?_cons_succ, Option.some.injEq] at h1
    exact h1.symm
  subst evp
  have hrow := ownsRow_below hm.row hb
  have hblk : Blk W rb 112 _ := (hb.block _ hm.blk.lt).trans hm.blk
  have hblk1 := hG.blkOther hrow hblk (by decide)
  have hsb : Blk W o.sb 24 _ := (hb.block _ hm.sums.sb.lt).trans hm.sums.sb
  have hsb1 := hG.blkOther hrow hsb (by decide)
  have hab : Blk W o.ab 114 _ := (hb.block _ hf.ab.lt).trans hf.ab
  have hab1 := hG.blkOther hrow hab (by decide)
  have pin' : ∀ q, P q → q < W.heap.size := fun q hq => Nat.lt_of_lt_of_le (hf.pin q hq) hb.size
  have hk1 : Kept P w w1 := (Kept.of_below hb hf.pin).grown hG.grown pin' (fun q hq => hm.nP q hq)
  have hk2 : Kept P w (w1.setCell ⟨rb, 4, none⟩ v1) := hk1.setCell hf.nr _
  have hsr : w1.ownsRow 0 3 1 vs (k + 1) ((List.range (k + 1)).map fun i => Value.int .i64 (sumTo s i)) := by
    have h1 := ownsRow_below hm.sums.row hb
    refine own_keep h1 fun g cur hg hh => hG.heapOther hrow (lt_of_heap hh) fun cur' fr' e => ?_
    rw [hh] at e
    injection e with e
    injection e with _ e
    exact absurd e (by decide)
  have nv : ∀ q, v1.ownBlock = some q → ¬ P q := fun q hq hP => by
    rcases hG.blk with h | h
    · exact hm.nP q (h ▸ hq) hP
    · rw [h] at hq
      cases hq
      exact absurd (pin' _ hP) (by omega)
  have shape : ∃ g c, v1 = .slice (some ⟨g, 0, none⟩) (ps.length + 1) c := by
    rcases hG.own.2 with ⟨_, h0⟩ | ⟨g, cap, cur, rfl, _⟩
    · omega
    · exact ⟨g, cap, rfl⟩
  have ne : ∀ {q : Nat} {t : TypeId} {cs : Array Value}, Blk w1 q t cs → t ≠ 112 → q ≠ rb := fun hq ht e => Blk.ne_ hq hblk1 ht e
  refine ⟨⟨by rw [hblk1.cell]; rfl, hblk1.frozen 4⟩, hk2, ⟨hf.kept hk2, v1, k, vs, ⟨?_, ?_, hm.kle, ?_, by simp; omega, hm.nS, nv⟩⟩, shape⟩
  · exact hblk1.set_ 4 v1
  · refine ⟨(Below.heap_setCell _ _ _ _ (ne hsb1 (by decide))).trans hsb1, (Below.heap_setCell _ _ _ _ (ne hab1 (by decide))).trans hab1, own_keep hsr fun g cur hg hh => Below.heap_setCell _ _ _ _ (ne (t := 3) hh (by decide))⟩
  · rw [flatP_snoc, List.length_append, List.length_singleton]
    exact own_keep hG.own fun g cur hg hh => Below.heap_setCell _ _ _ _ (ne (t := 26) hh (by decide))
/-- A part has been completed. -/
theorem Rd.put {w : World} {P : Nat → Prop} {o : Ro} {rb : Nat} {L : List Fm} {s : ByteArray} {ps qs : List Pt} {p : Pt} (h : Rd w P o rb L s (ps ++ p :: qs)) {vp : Value} (hp : PartsAt w P rb (ps ++ p :: qs) vp) {g : Nat} (hg : vp.ownBlock = some g) (E n : Int) :
    (w.frozen? ⟨g, ps.length * 6 + 4, none⟩ = false ∧ w.frozen? ⟨g, ps.length * 6 + 5, none⟩ = false ∧ (w.cell? ⟨g, ps.length * 6 + 4, none⟩).isSome = true ∧ (w.cell? ⟨g, ps.length * 6 + 5, none⟩).isSome = true) ∧
    Kept P w ((w.setCell ⟨g, ps.length * 6 + 4, none⟩ (.int .i64 E)).setCell ⟨g, ps.length * 6 + 5, none⟩ (.int .i64 n)) ∧ Rd ((w.setCell ⟨g, ps.length * 6 + 4, none⟩ (.int .i64 E)).setCell ⟨g, ps.length * 6 + 5, none⟩ (.int .i64 n)) P o rb L s (ps ++ { p with stop := E, number := n } :: qs) := by
  obtain ⟨hf, vp', k, vs, hm⟩ := h
  have evp : vp' = vp := by
    have h1 := hm.blk.cell 4
    rw [hp.cell] at h1
    simp only [List.getElem?_toArray, List.getElem?_cons_zero, List.getElem?_cons_succ, Option.some.injEq] at h1
    exact h1.symm
  subst evp
  have hlen : (ps ++ p :: qs).length = ps.length + (qs.length + 1) := by simp
  have i4 : ps.length * 6 + 4 < (ps ++ p :: qs).length * 6 := by omega
  have i5 : ps.length * 6 + 5 < (ps ++ p :: qs).length * 6 := by omega
  have c4 := own_cell hm.row hg i4
  have c5 := own_cell hm.row hg i5
  have hPg := hm.nP g hg
  have hk : Kept P w ((w.setCell ⟨g, ps.length * 6 + 4, none⟩ (.int .i64 E)).setCell ⟨g, ps.length * 6 + 5, none⟩ (.int .i64 n)) := ((Kept.refl _ _).setCell hPg _).setCell hPg _
  have oth : ∀ q, q ≠ g → ((w.setCell ⟨g, ps.length * 6 + 4, none⟩ (.int .i64 E)).setCell ⟨g, ps.length * 6 + 5, none⟩ (.int .i64 n)).heap[q]? = w.heap[q]? := fun q hq =>
    (Below.heap_setCell _ _ _ _ hq).trans (Below.heap_setCell _ _ _ _ hq)
  have row := own_set (own_set hm.row hg i4 (.int .i64 E)) hg i5 (.int .i64 n)
  rw [flatP_stop, flatP_number] at row
  refine ⟨⟨c4.2, c5.2, ?_, ?_⟩, hk, hf.kept hk, vp', k, vs, ⟨(oth _ ?_).trans hm.blk, hm.sums.keep (oth _ ?_) (oth _ ?_) (fun q hq => oth q ?_), hm.kle, by simpa using row, by have := hm.len; simp at this ⊢; omega, hm.nS, hm.nP⟩⟩
  · rw [c4.1]; rw [List.getElem?_eq_getElem (by rw [flatP_len]; exact i4)]; rfl
  · rw [c5.1]; rw [List.getElem?_eq_getElem (by rw [flatP_len]; exact i5)]; rfl
  · exact fun e => own_ne hm.row hm.blk (by decide) hg e.symm
  · exact fun e => own_ne hm.row hm.sums.sb (by decide) hg e.symm
  · exact fun e => own_ne hm.row hm.sums.ab (by decide) hg e.symm
  · exact fun e => own_own_ne hm.sums.row hm.row (by decide) hq hg e
end RecL
end Go.Proofs.YtdndmhlmbpgdeaaGreatDoor
