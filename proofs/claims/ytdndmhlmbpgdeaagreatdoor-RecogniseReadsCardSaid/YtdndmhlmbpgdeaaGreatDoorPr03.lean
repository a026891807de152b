/- The law RecogniseReads: it returns true. Conditions: rows of four numbers, two numbers, a byte, a list of numbers and a string that can be read; the variables of the errors are laid. -/
import Derived.Test.YtdndmhlmbpgdeaaGreatDoorPb01
import Derived.Test.YtdndmhlmbpgdeaaGreatDoorPr02
import Derived.Test.YtdndmhlmbpgdeaaGreatDoorPb20
namespace Go.Proofs.YtdndmhlmbpgdeaaGreatDoor
open Go.RowKit Go.Sort Fx Rec Rt

theorem qs_below {w w' : World} {v : Value} {n : Nat} (h : QsAt w v n) (hb : Below w.heap.size w w') : QsAt w' v n := by
  rcases h with h | ⟨b, off, cap, rfl, h1, h2, h3, h4, h5⟩
  · exact .inl h
  · refine .inr ⟨b, off, cap, rfl, h1, h2, h3, Nat.lt_of_lt_of_le h4 hb.size, fun i j hi hj => ?_⟩
    obtain ⟨z, e, h6⟩ := h5 i j hi hj
    exact ⟨z, (hb.cell (p := ⟨b, off + i * 4 + j, none⟩) h4).trans e, h6⟩
theorem nice_fs {L : List Fm} (h : Nice L) : ∀ j, j < L.length → (L.getD j zm).fs.length ≤ 1000 := fun j hj => by have := h.fs j hj; omega
theorem wres_size {L : List Fm} {id : Int} {l : List ByteArray} {S : ByteArray} {E : Int} (h : wres (writ L id l) = (S, E)) (hs : Short l) : S.size ≤ 65536 := by
  rcases wres_code h with rfl | ⟨-, rfl, -⟩
  · obtain ⟨ps, hm, -⟩ := wrote (wres_ok h) hs
    exact (mtch_ok hm).2.1
  · decide
theorem one_of_three {a b c : Value} {j : Nat} (hj : j < 3) (ha : ∃ s, a = .string s) (hb : ∃ s, b = .string s) (hc : ∃ s, c = .string s) : ∃ s : ByteArray, (#[a, b, c] : Array Value)[j]? = some (.string s) := by
  obtain ⟨x, rfl⟩ := ha
  obtain ⟨y, rfl⟩ := hb
  obtain ⟨z, rfl⟩ := hc
  obtain rfl | rfl | rfl : j = 0 ∨ j = 1 ∨ j = 2 := by omega
  · exact ⟨x, rfl⟩
  · exact ⟨y, rfl⟩
  · exact ⟨z, rfl⟩
set_option maxRecDepth 100000 in
set_option maxHeartbeats 4000000 in
theorem reads_law (xv vv : Value) (xn : Nat) (b a c : Int) (s : ByteArray) (er : Addr) (w : World) (hQ : QsAt w xv xn) (hV : IntsR w vv) (b1 : -9223372036854775808 ≤ b) (b2 : b ≤ 9223372036854775807) (a1 : -9223372036854775808 ≤ a) (a2 : a ≤ 9223372036854775807) (hR : Ready w er) :
    Calls Tryz.prog 7 #[xv, .int .i64 b, vv, .string s, .int .i64 a, .int .u8 c] w fun e w' => e = .returned (.bool true) ∧ Below w.heap.size w w' := by
  obtain ⟨xa, xc, rfl, -⟩ := hQ.slice_
  have hV' := hV
  obtain ⟨va, vn, vc, rfl, -⟩ := hV'
  have HA := Lib.hid (And.intro (And.intro b1 b2) (And.intro a1 a2))
  have Q1 : Hid (Below w.heap.size w w ∧ Ready w er ∧ IntsR w (.slice va vn vc) ∧ QsAt w (.slice xa xn xc) xn) := Lib.hid ⟨Below.refl _ _, hR, hV, hQ⟩
  clear hR hV hQ b1 b2 a1 a2
  go_enter Tryz.func7, Tryz.ntmps7
  go_wp2_with fail
  refine (sane_any er w Q1.out.2.1).mono ?_
  rintro e w1 ⟨rfl, hB⟩
  have Q2 : Hid (Below w.heap.size w w1 ∧ Ready w1 er ∧ IntsR w1 (.slice va vn vc) ∧ QsAt w1 (.slice xa xn xc) xn) := Lib.hid ⟨below_more Q1.out.1 (Nat.le_refl _) hB, Q1.out.2.1.below hB, Q1.out.2.2.1.below hB, qs_below Q1.out.2.2.2 hB⟩
  clear hB
  go_wp2_with fail
  refine (formats_any _ xn b w1 Q2.out.2.2.2 HA.out.1.1 HA.out.1.2).mono ?_
  rintro e w2 ⟨u, L, id, i, rfl, hF⟩
  obtain ⟨bb, off, lc, rfl⟩ := hF.sl
  obtain ⟨m, hm⟩ : ∃ m, m = L.length := ⟨_, rfl⟩
  have m6 : m ≤ 6 := by rw [hm]; exact hF.nice.few
  have hT := hF.tab
  rw [← hm] at hT ⊢
  have Q3 : Hid (Below w.heap.size w w2 ∧ Ready w2 er ∧ IntsR w2 (.slice va vn vc) ∧ TabW w2 (.slice (some ⟨bb, off, none⟩) m lc) L ∧ Nice L ∧ m = L.length) := Lib.hid ⟨Q2.out.1.trans (hF.b.mono Q2.out.1.size), Q2.out.2.1.below hF.b, Q2.out.2.2.1.below hF.b, hT, hF.nice, hm⟩
  clear hF hT hm
  go_wp2_with fail
  refine (chosen_use Q3.out.2.2.2.2.1 Q3.out.2.2.2.1 Q3.out.2.2.1).mono ?_
  rintro e w3 ⟨l, n, x, y, rfl, hB, hn, hn9, hs, hA⟩
  obtain ⟨⟨S, E⟩, hw⟩ : ∃ r, wres (writ L id l) = r := ⟨_, rfl⟩
  have Q4 : Hid (Below w.heap.size w w3 ∧ Ready w3 er ∧ TabW w3 (.slice (some ⟨bb, off, none⟩) m lc) L ∧ Nice L ∧ m = L.length ∧ RowA w3 1 (.slice x n y) n (strG l) ∧ n = l.length ∧ Short l ∧ wres (writ L id l) = (S, E)) := Lib.hid ⟨Q3.out.1.trans (hB.mono Q3.out.1.size), Q3.out.2.1.below hB, Q3.out.2.2.2.1.below hB, Q3.out.2.2.2.2.1, Q3.out.2.2.2.2.2, hA, hn, hs, hw⟩
  clear hB hA hn hs hw
  go_wp2_with fail
  refine (write_use (S := S) (E := E) Q4.out.2.1 Q4.out.2.2.1 Q4.out.2.2.2.2.2.2.1 Q4.out.2.2.2.2.2.1 Q4.out.2.2.2.2.2.2.2.1 Q4.out.2.2.2.2.2.2.2.2).mono ?_
  rintro e w4 ⟨rfl, hB⟩
  have hS6 := wres_size Q4.out.2.2.2.2.2.2.2.2 Q4.out.2.2.2.2.2.2.2.1
  have Q5 : Hid (Below w.heap.size w w4 ∧ Ready w4 er ∧ TabW w4 (.slice (some ⟨bb, off, none⟩) m lc) L ∧ Nice L ∧ m = L.length) := Lib.hid ⟨Q4.out.1.trans (hB.mono Q4.out.1.size), Q4.out.2.1.below hB, Q4.out.2.2.1.below hB, Q4.out.2.2.2.1, Q4.out.2.2.2.2.1⟩
  clear hB
  obtain ⟨c3, hc3⟩ : ∃ c3 : Nat, c3 = min s.size 300 := ⟨_, rfl⟩
  have hmn : ∀ t ts W, (Builtin.min_ ts t #[.int .i64 (s.size : Nat), .int .i64 300]).run Tryz.prog W = .ok (.int .i64 (c3 : Nat)) W := fun t ts W => by
    subst hc3
    simp [Builtin.min_, Builtin.min2]
    first | omega | (split <;> simp <;> omega) | skip
  have hc4 : (0 : Int) ≤ (c3 : Int) ∧ (c3 : Int) ≤ (s.size : Int) := by omega
  clear hc3
  go_upto_region 4 with fail
  refine wp_region_held_drew (S := (fun W : World => Below w4.heap.size w4 W)) (by kernel_rfl) ((Below.refl _ _).drew) (fun hHeld => ?_)
  refine takeH 0 (y := by intro wS hSw; have s0 := hSw; clear hSw; go_simp; (try with_reducible rfl)) (h := ?_)
  (try simp only [pA, pB, pC, pD])
  refine takeH 1 (y := by intro wS hSw; have s0 := hSw; clear hSw; go_simp; (try with_reducible rfl)) (h := ?_)
  (try simp only [pA, pB, pC, pD])
  refine takeH 2 (y := by intro wS hSw; have s0 := hSw; clear hSw; go_simp; (try with_reducible rfl)) (h := ?_)
  (try simp only [pA, pB, pC, pD])
  refine takeH 3 (y := by intro wS hSw; have s0 := hSw; clear hSw; go_simp; (try with_reducible rfl)) (h := ?_)
  (try simp only [pA, pB, pC, pD])
  refine takeH 4 (y := by intro wS hSw; have s0 := hSw; clear hSw; go_simp; (try with_reducible rfl)) (h := ?_)
  (try simp only [pA, pB, pC, pD])
  refine takeH 5 (y := by intro wS hSw; have s0 := hSw; clear hSw; go_simp; (try with_reducible rfl)) (h := ?_)
  (try simp only [pA, pB, pC, pD])
  refine takeH 6 (y := by intro wS hSw; have s0 := hSw; clear hSw; go_simp; (try with_reducible rfl)) (h := ?_)
  (try simp only [pA, pB, pC, pD])
  refine takeH 7 (y := by intro wS hSw; have s0 := hSw; clear hSw; go_simp; (try with_reducible rfl)) (h := ?_)
  (try simp only [pA, pB, pC, pD])
  refine takeH 8 (y := by intro wS hSw; have s0 := hSw; clear hSw; go_simp; (try with_reducible rfl)) (h := ?_)
  (try simp only [pA, pB, pC, pD])
  refine takeH 12 (y := by intro wS hSw; have s0 := hSw; clear hSw; go_simp; (try with_reducible rfl)) (h := ?_)
  (try simp only [pA, pB, pC, pD])
  refine wpAnyH_ready (rs := [9]) (by kernel_rfl) (by simp) ?_
  refine AllReadyH.cons (o := ?oB11) ?hB11 ?kB11 AllReadyH.nil
  case hB11 => (simp only [List.getElem?_toArray, List.getElem?_cons_zero, List.getElem?_cons_succ]; rfl)
  case kB11 =>
    intro K hK
    go_simp
    refine (changed_any S a c _ (by omega) HA.out.2.1 HA.out.2.2).mono ?_
    rintro e w5 ⟨t5, rfl, ht5, hB5⟩
    have hB6 : Below w4.heap.size w4 w5 := (Below.refl _ _).drew.trans hB5
    clear hB5
    refine hK.out _ _ hB6 (fun _ => ?_)
    clear hK K
    (try simp only [pA, pB, pC, pD])
    refine wpAnyH_ready (rs := [10]) (by kernel_rfl) (by simp) ?_
    refine AllReadyH.cons (o := ?oB12) ?hB12 ?kB12 AllReadyH.nil
    case hB12 => (simp only [List.getElem?_toArray, List.getElem?_cons_zero, List.getElem?_cons_succ]; rfl)
    case kB12 =>
      intro K hK
      go_simp
      refine hK.out _ _ (hB6.trans ((bx _).mono hB6.size)) (fun _ => ?_)
      clear hK K
      (try simp only [pA, pB, pC, pD])
      refine takeH 11 (y := by intro wS hSw; have s0 := hSw; clear hSw; go_simp; (try with_reducible rfl)) (h := ?_)
      (try simp only [pA, pB, pC, pD])
      refine wpAnyH_done (by kernel_rfl) ?_ _
      obtain ⟨Y0, hY0⟩ : ∃ Y0, Y0 = s.extract 0 c3 := ⟨_, rfl⟩
      rw [← hY0]
      clear hY0 hmn hc4 hHeld ht5
      have Q6 : Hid (Below w.heap.size w w5 ∧ Ready w5 er ∧ TabW w5 (.slice (some ⟨bb, off, none⟩) m lc) L ∧ Nice L ∧ m = L.length) := Lib.hid ⟨Q5.out.1.trans (hB6.mono Q5.out.1.size), Q5.out.2.1.below hB6, Q5.out.2.2.1.below hB6, Q5.out.2.2.2.1, Q5.out.2.2.2.2⟩
      clear hB6
      have hn := Blk.new w5 9 #[.string Y0, .string S, .string t5]
      have hb := bx (w := w5) (.cells #[.string Y0, .string S, .string t5] 9)
      generalize w5.alloc (.cells #[.string Y0, .string S, .string t5] 9) = w6 at *
      obtain ⟨rb, hrb⟩ : ∃ r, r = w5.heap.size := ⟨_, rfl⟩
      rw [← hrb] at hn ⊢
      have Q7 : Hid (Below w.heap.size w w6 ∧ Ready w6 er ∧ TabW w6 (.slice (some ⟨bb, off, none⟩) m lc) L ∧ Nice L ∧ m = L.length ∧ Blk w6 rb 9 #[.string Y0, .string S, .string t5]) := Lib.hid ⟨Q6.out.1.trans (hb.mono Q6.out.1.size), Q6.out.2.1.below hb, Q6.out.2.2.1.below hb, Q6.out.2.2.2.1, Q6.out.2.2.2.2, hn⟩
      clear hn hb hrb
      go_wp2_with fail
      go_loopw [55] (fun c wr => ∃ j : Nat, j ≤ 3 ∧ c = .int .i64 j ∧ Hid (Below w.heap.size w wr ∧ Ready wr er ∧ TabW wr (.slice (some ⟨bb, off, none⟩) m lc) L ∧ Nice L ∧ m = L.length ∧ Blk wr rb 9 #[.string Y0, .string S, .string t5])) (fun c _ => 3 - (intOf c).toNat)
      case atStart => exact ⟨0, by omega, rfl, Q7⟩
      case round =>
        obtain ⟨j, hj, rfl, HJ⟩ := hrel
        obtain ⟨wq, rfl⟩ : ∃ wq, wq = wr := ⟨_, rfl⟩
        by_cases hlt : j < 3
        · obtain ⟨Y, hY⟩ := one_of_three hlt (a := .string Y0) (b := .string S) (c := .string t5) ⟨_, rfl⟩ ⟨_, rfl⟩ ⟨_, rfl⟩
          have cy : wq.cell? ⟨rb, j, none⟩ = some (.string Y) := by rw [HJ.out.2.2.2.2.2.cell]; exact hY
          have ly := HJ.out.2.2.2.2.2.lt
          have t9 : decide ((j : Int) < 3) = true := by simp; omega
          clear hY
          go_wp2_with fail
          clear cy ly
          go_loopw [20] (fun c wr => ∃ k : Nat, k ≤ m ∧ c = .int .i64 k ∧ Hid (Below w.heap.size w wr ∧ Ready wr er ∧ TabW wr (.slice (some ⟨bb, off, none⟩) m lc) L ∧ Nice L ∧ m = L.length ∧ Blk wr rb 9 #[.string Y0, .string S, .string t5])) (fun c _ => m - (intOf c).toNat)
          case atStart => exact ⟨0, by omega, rfl, HJ⟩
          case round =>
            obtain ⟨k, hk, rfl, HK⟩ := hrel
            obtain ⟨wp, rfl⟩ : ∃ wp, wp = wr := ⟨_, rfl⟩
            by_cases hkm : k < m
            · obtain ⟨ik, hik⟩ : ∃ z, z = (L.getD k zm).id := ⟨_, rfl⟩
              have hkL : k < L.length := by rw [← HK.out.2.2.2.2.1]; exact hkm
              have ck : wp.cell? ⟨bb, off + k * 2, none⟩ = some (.int .i64 ik) := by rw [hik]; exact HK.out.2.2.1.id_ hkL
              have lb := World.block_lt_of_cell? (h := ck)
              have e0 : (0 : Int) ≤ (k : Int) ∧ (k : Int) < (m : Int) := by omega
              obtain ⟨⟨ps, ⟨r0, r1, r2, r3⟩, E1⟩, hm⟩ : ∃ r, mres (mtch L ik Y) = r := ⟨_, rfl⟩
              obtain ⟨np, hnp⟩ : ∃ np, np = ps.length := ⟨_, rfl⟩
              have HM := Lib.hid (And.intro hm hnp)
              clear hm hnp hik hkL
              go_wp2_with fail
              refine (match_use HK.out.2.1 HK.out.2.2.1 HM.out.1 HM.out.2).mono ?_
              rintro e w7 ⟨pa, pc, rfl, hB, hA⟩
              have Q8 : Hid (Below w.heap.size w w7 ∧ Ready w7 er ∧ TabW w7 (.slice (some ⟨bb, off, none⟩) m lc) L ∧ Nice L ∧ m = L.length ∧ Blk w7 rb 9 #[.string Y0, .string S, .string t5] ∧ RowA w7 6 (.slice pa np pc) np (ptsG ps) ∧ w7.cell? ⟨bb, off + k * 2, none⟩ = some (.int .i64 ik)) := Lib.hid ⟨HK.out.1.trans (hB.mono HK.out.1.size), HK.out.2.1.below hB, HK.out.2.2.1.below hB, HK.out.2.2.2.1, HK.out.2.2.2.2.1, HK.out.2.2.2.2.2.stays hB, hA, (hB.cell (p := ⟨bb, off + k * 2, none⟩) lb).trans ck⟩
              clear hB hA ck
              have hb8 := bx (w := w7) (.cells #[.int .i64 r0, .int .i64 r1, .int .i64 r2, .int .i64 r3] 40)
              obtain ⟨W8, hW8⟩ : ∃ W8, W8 = w7.alloc (.cells #[.int .i64 r0, .int .i64 r1, .int .i64 r2, .int .i64 r3] 40) := ⟨_, rfl⟩
              rw [← hW8] at hb8
              have Q9 : Hid (Below w.heap.size w W8 ∧ Ready W8 er ∧ TabW W8 (.slice (some ⟨bb, off, none⟩) m lc) L ∧ Nice L ∧ m = L.length ∧ Blk W8 rb 9 #[.string Y0, .string S, .string t5] ∧ RowA W8 6 (.slice pa np pc) np (ptsG ps) ∧ W8.cell? ⟨bb, off + k * 2, none⟩ = some (.int .i64 ik)) := Lib.hid ⟨Q8.out.1.trans (hb8.mono Q8.out.1.size), Q8.out.2.1.below hb8, Q8.out.2.2.1.below hb8, Q8.out.2.2.2.1, Q8.out.2.2.2.2.1, Q8.out.2.2.2.2.2.1.stays hb8, Q8.out.2.2.2.2.2.2.1.below hb8, (hb8.cell (p := ⟨bb, off + k * 2, none⟩) (World.block_lt_of_cell? (h := Q8.out.2.2.2.2.2.2.2))).trans Q8.out.2.2.2.2.2.2.2⟩
              clear hb8 lb
              rcases mres_code HM.out.1 with hE | ⟨hE, -, -⟩
              · subst hE
                obtain ⟨hmt, -⟩ := mres_ok HM.out.1
                obtain ⟨hpp, hp5⟩ := mtch_parts hmt
                have hwr := reads hmt
                have hsh := vals_short (L := L) (ps := ps) (mtch_ok hmt).2.1
                obtain ⟨nv, hnv⟩ : ∃ nv, nv = (valsOf L Y ps).length := ⟨_, rfl⟩
                have HM2 := Lib.hid (And.intro hpp (And.intro hp5 (And.intro (show wres (writ L ik (valsOf L Y ps)) = (Y, 0) by rw [hwr]; rfl) (And.intro hsh hnv))))
                have hYY : (Y.toList == Y.toList) = true := by simp
                clear hmt hpp hp5 hwr hsh hnv
                go_wp2_with fail
                rw [← hW8]
                clear hW8
                have ckk := Q9.out.2.2.2.2.2.2.2
                have lbk := World.block_lt_of_cell? (h := ckk)
                have hVA : ∀ W, Below W8.heap.size W8 W → Calls Tryz.prog 30 #[.slice (some ⟨bb, off, none⟩) m lc, .slice pa np pc, .string Y] W fun e w' => ∃ x y, e = .returned (.slice x nv y) ∧ Below W.heap.size W w' ∧ RowA w' 1 (.slice x nv y) nv (strG (valsOf L Y ps)) := fun W hB => by
                  have hpa := Q9.out.2.2.2.2.2.2.1.below hB
                  rw [HM.out.2] at hpa
                  have h := values_any _ _ L Y ps W Q9.out.2.2.2.1.ok (Q9.out.2.2.1.below hB).at_ (nice_fs Q9.out.2.2.2.1) hpa HM2.out.1 HM2.out.2.1
                  rw [← HM.out.2, ← HM2.out.2.2.2.2] at h
                  refine h.mono ?_
                  rintro e w' ⟨ov, rfl, hB, hrow⟩
                  have hA := RowA.of_own hrow
                  obtain ⟨oa, oc, rfl, -⟩ := hA.slice_
                  exact ⟨oa, oc, rfl, hB, hA⟩
                have HVA := Lib.hid hVA
                have hst : ∀ W, Below W8.heap.size W8 W → W.cell? ⟨bb, off + k * 2, none⟩ = some (.int .i64 ik) := fun W hB => (hB.cell (p := ⟨bb, off + k * 2, none⟩) lbk).trans ckk
                have HST := Lib.hid hst
                clear hVA hst ckk lbk
                refine wp_region_held_drew (S := (fun W : World => Below W8.heap.size W8 W)) (by kernel_rfl) ((Below.refl _ _).drew) (fun hHeld => ?_)
                refine takeH 0 (y := by intro wS hSw; have s0 := HST.out _ hSw; have lb0 := World.block_lt_of_cell? (h := s0); clear hSw; go_simp; (try with_reducible rfl)) (h := ?_)
                (try simp only [pA, pB, pC, pD])
                refine takeH 1 (y := by intro wS hSw; have s0 := HST.out _ hSw; have lb0 := World.block_lt_of_cell? (h := s0); clear hSw; go_simp; (try with_reducible rfl)) (h := ?_)
                (try simp only [pA, pB, pC, pD])
                refine takeH 2 (y := by intro wS hSw; have s0 := HST.out _ hSw; have lb0 := World.block_lt_of_cell? (h := s0); clear hSw; go_simp; (try with_reducible rfl)) (h := ?_)
                (try simp only [pA, pB, pC, pD])
                refine takeH 3 (y := by intro wS hSw; have s0 := HST.out _ hSw; have lb0 := World.block_lt_of_cell? (h := s0); clear hSw; go_simp; (try with_reducible rfl)) (h := ?_)
                (try simp only [pA, pB, pC, pD])
                refine takeH 4 (y := by intro wS hSw; have s0 := HST.out _ hSw; have lb0 := World.block_lt_of_cell? (h := s0); clear hSw; go_simp; (try with_reducible rfl)) (h := ?_)
                (try simp only [pA, pB, pC, pD])
                refine takeH 5 (y := by intro wS hSw; have s0 := HST.out _ hSw; have lb0 := World.block_lt_of_cell? (h := s0); clear hSw; go_simp; (try with_reducible rfl)) (h := ?_)
                (try simp only [pA, pB, pC, pD])
                refine takeH 6 (y := by intro wS hSw; have s0 := HST.out _ hSw; have lb0 := World.block_lt_of_cell? (h := s0); clear hSw; go_simp; (try with_reducible rfl)) (h := ?_)
                (try simp only [pA, pB, pC, pD])
                refine takeH 7 (y := by intro wS hSw; have s0 := HST.out _ hSw; have lb0 := World.block_lt_of_cell? (h := s0); clear hSw; go_simp; (try with_reducible rfl)) (h := ?_)
                (try simp only [pA, pB, pC, pD])
                refine takeH 8 (y := by intro wS hSw; have s0 := HST.out _ hSw; have lb0 := World.block_lt_of_cell? (h := s0); clear hSw; go_simp; (try with_reducible rfl)) (h := ?_)
                (try simp only [pA, pB, pC, pD])
                refine wpAnyH_ready (rs := [9]) (by kernel_rfl) (by simp) ?_
                refine AllReadyH.cons (o := ?oB23) ?hB23 ?kB23 AllReadyH.nil
                case hB23 => (simp only [List.getElem?_toArray, List.getElem?_cons_zero, List.getElem?_cons_succ]; rfl)
                case kB23 =>
                  intro K hK
                  go_simp
                  refine (HVA.out _ hHeld).mono ?_
                  rintro e w9 ⟨oa, oc, rfl, hB9, hA9⟩
                  have hB9' := hHeld.trans (hB9.mono hHeld.size)
                  clear hB9
                  refine hK.out _ _ hB9' (fun _ => ?_)
                  clear hK K
                  (try simp only [pA, pB, pC, pD])
                  refine wpAnyH_ready (rs := [10]) (by kernel_rfl) (by simp) ?_
                  refine AllReadyH.cons (o := ?oB24) ?hB24 ?kB24 AllReadyH.nil
                  case hB24 => (simp only [List.getElem?_toArray, List.getElem?_cons_zero, List.getElem?_cons_succ]; rfl)
                  case kB24 =>
                    intro K hK
                    go_simp
                    refine (write_use (S := Y) (E := 0) (Q9.out.2.1.below hB9') (Q9.out.2.2.1.below hB9') HM2.out.2.2.2.2 hA9 HM2.out.2.2.2.1 HM2.out.2.2.1).mono ?_
                    rintro e w10 ⟨rfl, hB10⟩
                    have hBx := hB9'.trans (hB10.mono hB9'.size)
                    clear hB10
                    refine hK.out _ _ hBx (fun _ => ?_)
                    clear hK K
                    (try simp only [pA, pB, pC, pD])
                    refine takeH 11 (y := by intro wS hSw; have s0 := HST.out _ hSw; have lb0 := World.block_lt_of_cell? (h := s0); clear hSw; go_simp; (try with_reducible rfl)) (h := ?_)
                    (try simp only [pA, pB, pC, pD])
                    refine takeH 12 (y := by intro wS hSw; have s0 := HST.out _ hSw; have lb0 := World.block_lt_of_cell? (h := s0); clear hSw; go_simp; (try with_reducible rfl)) (h := ?_)
                    (try simp only [pA, pB, pC, pD])
                    refine takeH 13 (y := by intro wS hSw; have s0 := HST.out _ hSw; have lb0 := World.block_lt_of_cell? (h := s0); clear hSw; go_simp; (try with_reducible rfl)) (h := ?_)
                    (try simp only [pA, pB, pC, pD])
                    refine takeH 14 (y := by intro wS hSw; have s0 := HST.out _ hSw; have lb0 := World.block_lt_of_cell? (h := s0); clear hSw; go_simp; (try with_reducible rfl)) (h := ?_)
                    (try simp only [pA, pB, pC, pD])
                    refine takeH 15 (y := by intro wS hSw; have s0 := HST.out _ hSw; have lb0 := World.block_lt_of_cell? (h := s0); clear hSw; go_simp; (try with_reducible rfl)) (h := ?_)
                    (try simp only [pA, pB, pC, pD])
                    refine wpAnyH_done (by kernel_rfl) ?_ _
                    have Q10 : Hid (Below w.heap.size w w10 ∧ Ready w10 er ∧ TabW w10 (.slice (some ⟨bb, off, none⟩) m lc) L ∧ Nice L ∧ m = L.length ∧ Blk w10 rb 9 #[.string Y0, .string S, .string t5]) := Lib.hid ⟨Q9.out.1.trans (hBx.mono Q9.out.1.size), Q9.out.2.1.below hBx, Q9.out.2.2.1.below hBx, Q9.out.2.2.2.1, Q9.out.2.2.2.2.1, Q9.out.2.2.2.2.2.1.stays hBx⟩
                    clear hB9' hA9 hBx hHeld
                    go_wp2_with fail
                    go_roundw
                    case rel => first | exact ⟨k + 1, by omega, by go_num, Q10⟩ | ((repeat apply Exists.intro); exact ⟨⟨k + 1, by omega, by go_num, Q10⟩, rfl⟩)
                    case measure => simp [intOf]; omega
              · subst hE
                go_wp2_with fail
                rw [← hW8]
                clear hW8
                have HS : Hid (Below w.heap.size w W8 ∧ Ready W8 er ∧ TabW W8 (.slice (some ⟨bb, off, none⟩) m lc) L ∧ Nice L ∧ m = L.length ∧ Blk W8 rb 9 #[.string Y0, .string S, .string t5]) := Lib.hid ⟨Q9.out.1, Q9.out.2.1, Q9.out.2.2.1, Q9.out.2.2.2.1, Q9.out.2.2.2.2.1, Q9.out.2.2.2.2.2.1⟩
                go_roundw
                case rel => first | exact ⟨k + 1, by omega, by go_num, HS⟩ | ((repeat apply Exists.intro); exact ⟨⟨k + 1, by omega, by go_num, HS⟩, rfl⟩)
                case measure => simp [intOf]; omega
            · obtain rfl : k = m := by omega
              go_wp2_with fail
              exact ⟨⟨j + 1, by omega, by go_num, HK⟩, by simp [intOf]; omega⟩
        · obtain rfl : j = 3 := by omega
          go_wp2_with fail
          first | go_end0 | go_ret
          exact ⟨rfl, HJ.out.1⟩
end Go.Proofs.YtdndmhlmbpgdeaaGreatDoor
