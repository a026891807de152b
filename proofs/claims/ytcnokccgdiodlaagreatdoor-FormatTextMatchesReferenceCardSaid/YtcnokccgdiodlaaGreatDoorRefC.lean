/- The reference's fields. Conditions: the formats are readable; their numbers are ints; what comes ahead of the field is as it should be. -/
import Derived.Test.YtcnokccgdiodlaaGreatDoorRefB
import Derived.Deep.CutRange
import Derived.Deep.CutBlock
namespace Go.Proofs.YtcnokccgdiodlaaGreatDoor
open Go.RowKit Go.Shelf Fx Go.Sort

theorem right_1 {m : List (Int × Int)} {fs : List Fld} {f : Fld} (h : f.kind = 1) : Fx.right m fs f = literal f := by unfold Fx.right; rw [if_pos h]
theorem right_2 {m : List (Int × Int)} {fs : List Fld} {f : Fld} (h : f.kind = 2) : Fx.right m fs f = Fx.sized 1 3 f := by unfold Fx.right; rw [if_neg (by omega), if_pos h]
theorem right_3 {m : List (Int × Int)} {fs : List Fld} {f : Fld} (h : f.kind = 3) : Fx.right m fs f = (Fx.sized 0 4096 f || counted fs f) := by unfold Fx.right; rw [if_neg (by omega), if_neg (by omega), if_pos h]
theorem right_4 {m : List (Int × Int)} {fs : List Fld} {f : Fld} (h : f.kind = 4) : Fx.right m fs f = nests m fs f := by unfold Fx.right; rw [if_neg (by omega), if_neg (by omega), if_neg (by omega), if_pos h]
theorem right_5 {m : List (Int × Int)} {fs : List Fld} {f : Fld} (h : f.kind = 5) : Fx.right m fs f = (nests m fs f && tells m fs f) := by unfold Fx.right; rw [if_neg (by omega), if_neg (by omega), if_neg (by omega), if_neg (by omega), if_pos h]
theorem right_6 {m : List (Int × Int)} {fs : List Fld} {f : Fld} (h : f.kind = 6) : Fx.right m fs f = Fx.sized 1 3 f := by unfold Fx.right; rw [if_neg (by omega), if_neg (by omega), if_neg (by omega), if_neg (by omega), if_neg (by omega), if_pos h]
theorem right_0 {m : List (Int × Int)} {fs : List Fld} {f : Fld} (h1 : f.kind ≠ 1) (h2 : f.kind ≠ 2) (h3 : f.kind ≠ 3) (h4 : f.kind ≠ 4) (h5 : f.kind ≠ 5) (h6 : f.kind ≠ 6) : Fx.right m fs f = false := by
  unfold Fx.right; rw [if_neg h1, if_neg h2, if_neg h3, if_neg h4, if_neg h5, if_neg h6]
/-- What the search for an ID has found so far. -/
def Seen (d : List Fm) (q : Int) (j : Nat) (I : Int) : Prop := (I = -1 ∧ ∀ i, i < j → (d.getD i zm).id ≠ q) ∨ ∃ i : Nat, i < j ∧ I = i ∧ (d.getD i zm).id = q
theorem Seen.knows_ {d : List Fm} {q I : Int} (h : Seen d q d.length I) : knows (lm d) q = decide (0 ≤ I) := by
  unfold knows
  rcases h with ⟨rfl, h⟩ | ⟨i, hi, rfl, h⟩
  · cases hk : lk (lm d) q with
    | none => rfl
    | some v =>
      obtain ⟨f, hf, he⟩ := lk_ids hk
      obtain ⟨i, hi, rfl⟩ := List.getElem_of_mem hf
      have := h i hi
      simp [List.getD, List.getElem?_eq_getElem hi] at this
      exact absurd he this
  · obtain ⟨v, hv⟩ := lk_has (d := d) (q := q) ⟨d[i], List.getElem_mem hi, by simpa [List.getD, List.getElem?_eq_getElem hi] using h⟩
    rw [hv]
    simp
theorem FmsAt.take {B : Nat → Prop} {w : World} {a : Option Addr} {n c k : Nat} {l : List Fm} (h : FmsAt B w (.slice a n c) l) (hk : k ≤ l.length) : FmsAt B w (.slice a k c) (l.take k) := by
  rcases Nat.eq_zero_or_pos k with rfl | h0
  · exact .inl ⟨_, _, rfl, rfl⟩
  · obtain ⟨b, off, rfl, rfl, h1, h2, h3, h4, h5⟩ := h.at_ (by omega)
    have hl : (l.take k).length = k := by rw [List.length_take]; omega
    refine .inr ⟨b, off, c, by rw [hl], by omega, by omega, h4, h1, h2, fun i hi => ?_⟩
    obtain ⟨u, hu⟩ := h5 i (by omega)
    rw [getD_take (by omega)]
    exact ⟨u, hu⟩
set_option maxHeartbeats 2000000 in
set_option maxRecDepth 100000 in
theorem rfits_any (v : Value) (d : List Fm) (f : Fm) (k : Nat) (R : Bool) (w : World) (hV : FmsAt (· < w.heap.size) w v (d ++ [f])) (hd : Ok d) (hI : IntsM f) (hk : k < f.fs.length) (hdl : d.length ≤ 100)
    (hr : ∀ j, j < k → Fx.right (lm d) (f.fs.take j) (f.fs.getD j zf) = true) (hR : Fx.right (lm d) (f.fs.take k) (f.fs.getD k zf) = R) :
    Calls Tryz.prog 59 #[v, .int .i64 k] w fun e w' => e = .returned (.bool R) ∧ Below w.heap.size w w' := by
  obtain ⟨a, c, rfl, hlc⟩ := hV.slice_
  obtain ⟨b, off, rfl, hn, hbl, -, m1, m2, hfm⟩ := hV.at_ (by simp)
  obtain ⟨n, hn⟩ : ∃ n, n = d.length := ⟨_, rfl⟩
  have hdn : (d ++ [f]).length = n + 1 := by rw [hn]; simp
  rw [hdn] at hV hlc m1 ⊢
  obtain ⟨u, hu⟩ := hfm n (by omega)
  have hgl : (d ++ [f]).getD n zm = f := by rw [hn]; exact getD_snoc_eq
  rw [hgl] at hu
  obtain ⟨ua, uc, rfl, hucl⟩ := hu.fs.slice_
  obtain ⟨m, hm⟩ : ∃ m, m = f.fs.length := ⟨_, rfl⟩
  rw [← hm] at hucl hu
  have hkm : k < m := by omega
  obtain ⟨fb, fo, rfl, -, lfb, n1, n2, hfl⟩ := hu.fs.at_ (by omega)
  obtain ⟨⟨gk, gn, gf, gt⟩, hg⟩ : ∃ g, g = f.fs.getD k zf := ⟨_, rfl⟩
  have hgI : Ints ⟨gk, gn, gf, gt⟩ := by rw [hg]; exact hI.2 k hk
  have hgA := hfl k hk
  rw [← hg] at hgA hR
  obtain ⟨g0, g1, g2, g3⟩ := hgA
  have c1 := hu.c1
  have lb := hbl
  have HV := Lib.hid (And.intro hV (And.intro hd (And.intro hI hr)))
  have HF := Lib.hid (And.intro hu.fs (And.intro hm (And.intro hg (And.intro hfl hgI))))
  have HR := Lib.hid hR
  have HN := Lib.hid (And.intro hn hdn)
  have hnl : (n : Int) + 1 - 1 = n := by omega
  unfold maxLen at m2 n2
  rw [← hn] at hdl
  have HFM := Lib.hid c1
  clear hV hd hI hr hu hm hg hfl hR hn hdn hlc hucl hk
  go_enter Tryz.func59, Tryz.ntmps59
  go_wp2_with fail
  obtain ⟨W, hW⟩ : ∃ W, W = w.alloc (.cells #[.int .i64 gk, .int .i64 gn, .int .i64 gf, .string gt] 56) := ⟨_, rfl⟩
  rw [← hW]
  have H0 : Hid (Below w.heap.size w W ∧ W.heap[w.heap.size]? = some (.cells #[.int .i64 gk, .int .i64 gn, .int .i64 gf, .string gt] 56 (0, 0))) := Lib.hid (by rw [hW]; exact ⟨bx _, heap_alloc_new _ _⟩)
  clear hW g0 g1 g2 g3 c1
  go_loopw [7, 8] (fun q i wr => ∃ (j : Nat) (I : Int), j ≤ n ∧ i = .int .i64 j ∧ q = .int .i64 I ∧ Hid (Seen d gn j I ∧ Below w.heap.size w wr ∧ wr.heap[w.heap.size]? = some (.cells #[.int .i64 gk, .int .i64 gn, .int .i64 gf, .string gt] 56 (0, 0)))) (fun _ i _ => n - (intOf i).toNat)
  case atStart => exact ⟨0, -1, Nat.zero_le _, rfl, rfl, Lib.hid ⟨.inl ⟨rfl, fun i hi => absurd hi (by omega)⟩, H0.out⟩⟩
  case round =>
    obtain ⟨j, I, hj, rfl, rfl, HJ⟩ := hrel
    obtain ⟨-, hbw, hX⟩ := HJ.out
    have x0 : wr.cell? ⟨w.heap.size, 0, none⟩ = some (.int .i64 gk) := cell_of_row _ _ _ _ _ _ hX
    have x1 : wr.cell? ⟨w.heap.size, 1, none⟩ = some (.int .i64 gn) := cell_of_row _ _ _ _ _ _ hX
    have x2 : wr.cell? ⟨w.heap.size, 2, none⟩ = some (.int .i64 gf) := cell_of_row _ _ _ _ _ _ hX
    have x3 : wr.cell? ⟨w.heap.size, 3, none⟩ = some (.string gt) := cell_of_row _ _ _ _ _ _ hX
    have hK : Kept (· < w.heap.size) w wr := Kept.of_below hbw fun _ h => h
    obtain ⟨u0, hu0⟩ := hfm j (by have := HN.out.2; omega)
    by_cases hjn : j < n
    · have hjd : j < d.length := by have := HN.out.1; omega
      have p0 := (hu0.kept hK hbl).c0
      have lb2 := World.block_lt_of_cell? (h := p0)
      rw [getD_snoc_lt hjd] at p0
      obtain ⟨X, hXX⟩ : ∃ X, X = (d.getD j zm).id := ⟨_, rfl⟩
      rw [← hXX] at p0
      have HXX := Lib.hid hXX
      clear hXX hu0 hK hbw hX
      by_cases hx : X = gn
      · have d1 : (X == gn) = true := by rw [beq_iff_eq]; exact hx
        have HS : Hid (Seen d gn (j + 1) j ∧ Below w.heap.size w wr.drew ∧ wr.drew.heap[w.heap.size]? = some (.cells #[.int .i64 gk, .int .i64 gn, .int .i64 gf, .string gt] 56 (0, 0))) := Lib.hid ⟨.inr ⟨j, by omega, rfl, by rw [← HXX.out]; exact hx⟩, HJ.out.2.1.drew, HJ.out.2.2⟩
        clear hx HJ
        go_wp2_with fail
        go_region
        go_wp2_with fail
        go_roundw
        case rel => exact ⟨j + 1, j, by omega, by go_num, rfl, HS⟩
        case measure => simp [intOf]; omega
      · have d1 : (X == gn) = false := by rw [beq_eq_false_iff_ne]; exact hx
        have HS : Hid (Seen d gn (j + 1) I ∧ Below w.heap.size w wr.drew ∧ wr.drew.heap[w.heap.size]? = some (.cells #[.int .i64 gk, .int .i64 gn, .int .i64 gf, .string gt] 56 (0, 0))) := Lib.hid ⟨by
          rcases HJ.out.1 with ⟨h1, h2⟩ | ⟨i, h1, h2, h3⟩
          · refine .inl ⟨h1, fun i hi => ?_⟩
            rcases Nat.lt_succ_iff_lt_or_eq.1 hi with h | rfl
            · exact h2 i h
            · rw [← HXX.out]; exact hx
          · exact .inr ⟨i, by omega, h2, h3⟩, HJ.out.2.1.drew, HJ.out.2.2⟩
        clear hx HJ
        go_wp2_with fail
        go_region
        go_wp2_with fail
        go_roundw
        case rel => exact ⟨j + 1, I, by omega, by go_num, rfl, HS⟩
        case measure => simp [intOf]; omega
    · obtain rfl : j = n := by omega
      have HSE : Hid (Seen d gn d.length I) := Lib.hid (by
        have h := HJ.out.1
        rw [HN.out.1] at h
        exact h)
      have HKN : Hid (knows (lm d) gn = decide (0 ≤ I)) := Lib.hid HSE.out.knows_
      clear hu0 hK hbw hX hfm
      have HB := Lib.hid HJ.out.2
      clear HJ
      obtain ⟨p, hp⟩ : ∃ p, p = (decide (gf = -1) && decide (gt.size = 0)) := ⟨_, rfl⟩
      obtain ⟨q, hq⟩ : ∃ q, q = (decide (gt.size = 0) && counts (f.fs.take k) gf) := ⟨_, rfl⟩
      have HPQ := Lib.hid (And.intro hp hq)
      clear hp hq
      go_upto_region 9 with fail
      go_cut [9] from 38 to 45 (fun vp wx => vp = .bool p ∧ wx = wr)
      case first =>
        by_cases h1 : gf = -1
        · have d1 : ((gf : Int) == -1) = true := by simpa using h1
          by_cases h2 : gt.size = 0
          · obtain ⟨d2, d3⟩ := emp_of h2
            have HP : Hid (p = true) := Lib.hid (by rw [HPQ.out.1, decide_eq_true h1, decide_eq_true h2]; rfl)
            clear h1 h2
            go_wp2_with fail
            go_meet
            case rel => exact ⟨by rw [HP.out], rfl⟩
          · obtain ⟨d2, d3⟩ := emp_not h2
            have HP : Hid (p = false) := Lib.hid (by rw [HPQ.out.1, decide_eq_false h2]; simp)
            clear h1 h2
            go_wp2_with fail
            go_meet
            case rel => exact ⟨by rw [HP.out], rfl⟩
        · have d1 : ((gf : Int) == -1) = false := by simpa using h1
          have HP : Hid (p = false) := Lib.hid (by rw [HPQ.out.1, decide_eq_false h1]; rfl)
          clear h1
          go_wp2_with fail
          go_meet
          case rel => exact ⟨by rw [HP.out], rfl⟩
      case rest =>
        obtain ⟨rfl, rfl⟩ := hcut
        have c1 : wc.cell? ⟨b, off + j * 2 + 1, none⟩ = some (.slice (some ⟨fb, fo, none⟩) m uc) := (HB.out.1.cell (p := ⟨b, off + j * 2 + 1, none⟩) hbl).trans HFM.out
        have lb3 := World.block_lt_of_cell? (h := c1)
        have HNU := Lib.hid (rnumber_any (.slice (some ⟨fb, fo, none⟩) m uc) f.fs k (counts (f.fs.take k) gf) wc (HF.out.1.below HB.out.1) (by have := HF.out.2.1; omega) HV.out.2.2.1.2 (by rw [← HF.out.2.2.1]))
        go_upto_region 10 with fail
        go_cut [10] from 46 to 62 (fun vq wx => vq = .bool q ∧ wx = wc)
        case first =>
          by_cases h2 : gt.size = 0
          · obtain ⟨d2, d3⟩ := emp_of h2
            by_cases h1 : gf = -1
            · subst h1
              have HP : Hid (q = false) := Lib.hid (by rw [HPQ.out.2, counts_lo (by decide)]; simp)
              clear h2
              go_wp2_with fail
              go_meet
              case rel => exact ⟨by rw [HP.out], rfl⟩
            · have HP : Hid (q = counts (f.fs.take k) gf) := Lib.hid (by rw [HPQ.out.2, decide_eq_true h2]; rfl)
              clear h2
              go_wp2_with fail
              refine HNU.out.mono ?_
              rintro e w' ⟨rfl, rfl⟩
              rw [← HP.out]
              go_wp2_with fail
              go_meet
              case rel => exact ⟨by simp [h1], rfl⟩
          · obtain ⟨d2, d3⟩ := emp_not h2
            have HP : Hid (q = false) := Lib.hid (by rw [HPQ.out.2, decide_eq_false h2]; rfl)
            clear h2
            go_wp2_with fail
            go_meet
            case rel => exact ⟨by rw [HP.out], rfl⟩
        case rest =>
          obtain ⟨rfl, rfl⟩ := hcut
          clear HNU
          have HPR := Lib.hid HPQ.out
          obtain ⟨hp0, hq0⟩ := HPQ.out
          by_cases K1 : gk = 1
          · subst K1
            have hR := HR.out
            rw [right_1 rfl] at hR
            by_cases h1 : gn = 0
            · have d1 : ((gn : Int) == 0) = true := by simpa using h1
              by_cases h2 : gf = -1
              · have d2 : ((gf : Int) == -1) = true := by simpa using h2
                have HRR : Hid (withinB gt.size 1 16 = R) := Lib.hid (by
                  rw [← hR]; unfold literal withinB
                  rw [decide_eq_true h1, decide_eq_true h2, Bool.true_and, Bool.true_and]
                  congr 1
                  · exact dd (by show (1 : Int) ≤ gt.size ↔ 1 ≤ gt.size; omega)
                  · exact dd (by show (gt.size : Int) ≤ 16 ↔ gt.size ≤ 16; omega))
                have hts := hgI.t
                clear h1 h2 hR hp0 hq0
                go_wp2_with fail
                refine (rwithin_any _ _ _ R _ HRR.out).mono ?_
                rintro e w' ⟨rfl, rfl⟩
                go_wp2_with fail
                go_ret
                exact ⟨rfl, HB.out.1⟩
              · have d2 : ((gf : Int) == -1) = false := by simpa using h2
                have HRR : Hid (R = false) := Lib.hid (by rw [← hR]; unfold literal; simp [h2])
                clear h1 h2 hR hp0 hq0
                go_wp2_with fail
                go_ret
                exact ⟨by rw [HRR.out]; rfl, HB.out.1⟩
            · have d1 : ((gn : Int) == 0) = false := by simpa using h1
              have HRR : Hid (R = false) := Lib.hid (by rw [← hR]; unfold literal; simp [h1])
              clear h1 hR hp0 hq0
              go_wp2_with fail
              go_ret
              exact ⟨by rw [HRR.out]; rfl, HB.out.1⟩
          · by_cases K2 : gk = 2
            · subst K2
              have hR := HR.out
              rw [right_2 rfl] at hR
              cases p with
              | true =>
                have HRR : Hid (withinB gn 1 3 = R) := Lib.hid (by
                  rw [← hR]; unfold Fx.sized withinB
                  simp at hp0
                  simp [hp0])
                clear hR hp0 hq0
                go_wp2_with fail
                refine (rwithin_any _ _ _ R _ HRR.out).mono ?_
                rintro e w' ⟨rfl, rfl⟩
                go_wp2_with fail
                go_ret
                exact ⟨rfl, HB.out.1⟩
              | false =>
                have HRR : Hid (R = false) := Lib.hid (by
                  rw [← hR]; unfold Fx.sized
                  simp at hp0 ⊢
                  intro a b; exact absurd b (hp0 a))
                clear hR hp0 hq0
                go_wp2_with fail
                go_ret
                exact ⟨by rw [HRR.out]; rfl, HB.out.1⟩
            · by_cases K6 : gk = 6
              · subst K6
                have hR := HR.out
                rw [right_6 rfl] at hR
                cases p with
                | true =>
                  have HRR : Hid (withinB gn 1 3 = R) := Lib.hid (by
                    rw [← hR]; unfold Fx.sized withinB
                    simp at hp0
                    simp [hp0])
                  clear hR hp0 hq0
                  go_wp2_with fail
                  refine (rwithin_any _ _ _ R _ HRR.out).mono ?_
                  rintro e w' ⟨rfl, rfl⟩
                  go_wp2_with fail
                  go_ret
                  exact ⟨rfl, HB.out.1⟩
                | false =>
                  have HRR : Hid (R = false) := Lib.hid (by
                    rw [← hR]; unfold Fx.sized
                    simp at hp0 ⊢
                    intro a b; exact absurd b (hp0 a))
                  clear hR hp0 hq0
                  go_wp2_with fail
                  go_ret
                  exact ⟨by rw [HRR.out]; rfl, HB.out.1⟩
              · by_cases K3 : gk = 3
                · subst K3
                  have hR := HR.out
                  rw [right_3 rfl] at hR
                  have hcn : counted (f.fs.take k) ⟨3, gn, gf, gt⟩ = (decide (gn = 0) && q) := by rw [hq0]; rfl
                  have hsz : Fx.sized 0 4096 ⟨3, gn, gf, gt⟩ = (p && withinB gn 0 4096) := by
                    rw [hp0]; unfold Fx.sized withinB
                    simp only [Bool.and_assoc]
                  rw [hcn, hsz] at hR
                  clear hcn hsz hp0 hq0
                  cases p with
                  | true =>
                    obtain ⟨u, hu⟩ : ∃ u, withinB gn 0 4096 = u := ⟨_, rfl⟩
                    have HU := Lib.hid hu
                    rw [hu] at hR
                    clear hu
                    cases u with
                    | true =>
                      have HRR : Hid (R = true) := Lib.hid (by rw [← hR]; rfl)
                      clear hR
                      go_wp2_with fail
                      refine (rwithin_any _ _ _ true _ HU.out).mono ?_
                      rintro e w' ⟨rfl, rfl⟩
                      go_wp2_with fail
                      go_ret
                      exact ⟨by rw [HRR.out]; rfl, HB.out.1⟩
                    | false =>
                      have hq1 : q = false ∨ q = true := by cases q <;> simp
                      have HHR := Lib.hid hR
                      clear hR
                      cases q with
                      | true =>
                        have hR := HHR.out
                        by_cases h1 : gn = 0
                        · have d1 : ((gn : Int) == 0) = true := by simpa using h1
                          have HRR : Hid (R = true) := Lib.hid (by rw [← hR, decide_eq_true h1]; rfl)
                          clear h1 hR
                          go_wp2_with fail
                          refine (rwithin_any _ _ _ false _ HU.out).mono ?_
                          rintro e w' ⟨rfl, rfl⟩
                          go_wp2_with fail
                          go_ret
                          exact ⟨by rw [HRR.out]; rfl, HB.out.1⟩
                        · have d1 : ((gn : Int) == 0) = false := by simpa using h1
                          have HRR : Hid (R = false) := Lib.hid (by rw [← hR, decide_eq_false h1]; rfl)
                          clear h1 hR
                          go_wp2_with fail
                          refine (rwithin_any _ _ _ false _ HU.out).mono ?_
                          rintro e w' ⟨rfl, rfl⟩
                          go_wp2_with fail
                          go_ret
                          exact ⟨by rw [HRR.out]; rfl, HB.out.1⟩
                      | false =>
                        have HRR : Hid (R = false) := Lib.hid (by rw [← HHR.out]; simp)
                        go_wp2_with fail
                        refine (rwithin_any _ _ _ false _ HU.out).mono ?_
                        rintro e w' ⟨rfl, rfl⟩
                        go_wp2_with fail
                        go_ret
                        exact ⟨by rw [HRR.out]; rfl, HB.out.1⟩
                  | false =>
                    cases q with
                    | true =>
                      by_cases h1 : gn = 0
                      · have d1 : ((gn : Int) == 0) = true := by simpa using h1
                        have HRR : Hid (R = true) := Lib.hid (by rw [← hR, decide_eq_true h1]; rfl)
                        clear h1 hR
                        go_wp2_with fail
                        go_ret
                        exact ⟨by rw [HRR.out]; rfl, HB.out.1⟩
                      · have d1 : ((gn : Int) == 0) = false := by simpa using h1
                        have HRR : Hid (R = false) := Lib.hid (by rw [← hR, decide_eq_false h1]; rfl)
                        clear h1 hR
                        go_wp2_with fail
                        go_ret
                        exact ⟨by rw [HRR.out]; rfl, HB.out.1⟩
                    | false =>
                      have HRR : Hid (R = false) := Lib.hid (by rw [← hR]; simp)
                      clear hR
                      go_wp2_with fail
                      go_ret
                      exact ⟨by rw [HRR.out]; rfl, HB.out.1⟩
                · have hns : nests (lm d) (f.fs.take k) ⟨gk, gn, gf, gt⟩ = (q && decide (0 ≤ I)) := by
                    rw [hq0, ← HKN.out]; unfold nests
                    simp only [Bool.and_assoc, Bool.and_comm (knows (lm d) gn)]
                  by_cases K4 : gk = 4
                  · subst K4
                    have hR := HR.out
                    rw [right_4 rfl, hns] at hR
                    clear hns hp0 hq0
                    cases q with
                    | true =>
                      have HRR : Hid (decide (0 ≤ I) = R) := Lib.hid hR
                      clear hR
                      go_wp2_with fail
                      go_ret
                      exact ⟨by rw [← HRR.out]; rfl, HB.out.1⟩
                    | false =>
                      have HRR : Hid (R = false) := Lib.hid (by rw [← hR]; rfl)
                      clear hR
                      go_wp2_with fail
                      go_ret
                      exact ⟨by rw [HRR.out]; rfl, HB.out.1⟩
                  · by_cases K5 : gk = 5
                    · subst K5
                      have hR := HR.out
                      rw [right_5 rfl, hns] at hR
                      clear hns hp0
                      cases q with
                      | false =>
                        have HRR : Hid (R = false) := Lib.hid (by rw [← hR]; rfl)
                        clear hR hq0
                        go_wp2_with fail
                        go_ret
                        exact ⟨by rw [HRR.out]; rfl, HB.out.1⟩
                      | true =>
                        by_cases hI0 : 0 ≤ I
                        · rw [decide_eq_true hI0] at hR
                          have HT0 : Hid (Fx.tells (lm d) (f.fs.take k) ⟨5, gn, gf, gt⟩ = R) := Lib.hid hR
                          have hcnt : counts (f.fs.take k) gf = true := by
                            have h := hq0.symm
                            rw [Bool.and_eq_true] at h
                            exact h.2
                          obtain ⟨e1, e2, e3, -⟩ := counts_of hcnt
                          obtain ⟨Qn, hQn⟩ : ∃ Qn : Nat, gf = Qn := ⟨gf.toNat, by omega⟩
                          subst hQn
                          have lk : (f.fs.take k).length = k := by rw [List.length_take]; have := HF.out.2.1; omega
                          have hqk : Qn < k := by rw [lk] at e2; omega
                          rw [Int.toNat_natCast, getD_take hqk] at e3
                          have hr2 := HV.out.2.2.2 Qn hqk
                          rw [right_2 e3] at hr2
                          obtain ⟨-, -, s3, s4⟩ := sized_of hr2
                          have cN := (HF.out.2.2.2.1 Qn (by have := HF.out.2.1; omega)).c1
                          obtain ⟨N, hN⟩ : ∃ N : Nat, (f.fs.getD Qn zf).n = N := ⟨((f.fs.getD Qn zf).n).toNat, by omega⟩
                          rw [hN] at cN s3 s4
                          have HNN : Hid (Fx.tells (lm d) (f.fs.take k) ⟨5, gn, (Qn : Int), gt⟩ = decide (lkz (lm d) gn < 256 ^ N)) := Lib.hid (by
                            unfold Fx.tells
                            rw [Int.toNat_natCast, getD_take hqk, hN]
                            obtain rfl | rfl | rfl : N = 1 ∨ N = 2 ∨ N = 3 := by omega
                            · rfl
                            · rfl
                            · rfl)
                          have hN3 : N ≤ 3 := by omega
                          have HCN := Lib.hid cN
                          obtain ⟨In, hIn⟩ : ∃ In : Nat, I = In := ⟨I.toNat, by omega⟩
                          subst hIn
                          have hInd : In < d.length ∧ (d.getD In zm).id = gn := by
                            rcases HSE.out with ⟨h1, _⟩ | ⟨i, h1, h2, h3⟩
                            · omega
                            · have : In = i := by omega
                              subst this; exact ⟨h1, h3⟩
                          have HID := Lib.hid hInd
                          clear hR hq0 hcnt e1 e2 e3 lk hr2 s3 s4 hN cN hInd hI0
                          have HB2 : Hid (Below w.heap.size w wc ∧ wc.heap[w.heap.size]? = some (.cells #[.int .i64 5, .int .i64 gn, .int .i64 (Qn : Int), .string gt] 56 (0, 0))) := HB
                          go_wp2_with fail
                          go_loopw [11, 12] (fun mo i wr => ∃ t : Nat, t ≤ N ∧ i = .int .i64 t ∧ mo = .int .i64 ((256 ^ t : Nat) : Int) ∧ Hid (Below w.heap.size w wr ∧ wr.heap[w.heap.size]? = some (.cells #[.int .i64 5, .int .i64 gn, .int .i64 (Qn : Int), .string gt] 56 (0, 0)))) (fun _ i _ => N - (intOf i).toNat)
                          case atStart => exact ⟨0, Nat.zero_le _, rfl, rfl, HB2⟩
                          case round =>
                            obtain ⟨t, ht, rfl, rfl, HT⟩ := hrel
                            have y2 : wr.cell? ⟨w.heap.size, 2, none⟩ = some (.int .i64 (Qn : Int)) := cell_of_row _ _ _ _ _ _ HT.out.2
                            have lw := lt_of_heap HT.out.2
                            have yc : wr.cell? ⟨b, off + j * 2 + 1, none⟩ = some (.slice (some ⟨fb, fo, none⟩) m uc) := (HT.out.1.cell (p := ⟨b, off + j * 2 + 1, none⟩) hbl).trans HFM.out
                            have yn : wr.cell? ⟨fb, fo + Qn * 4 + 1, none⟩ = some (.int .i64 N) := (HT.out.1.cell (p := ⟨fb, fo + Qn * 4 + 1, none⟩) lfb).trans HCN.out
                            have lb4 := World.block_lt_of_cell? (h := yc)
                            have lb5 := World.block_lt_of_cell? (h := yn)
                            have hqm : Qn < m := by omega
                            have hp : (256 ^ t : Nat) ≤ 16777216 := by
                              obtain rfl | rfl | rfl | rfl : t = 0 ∨ t = 1 ∨ t = 2 ∨ t = 3 := by omega
                              all_goals decide
                            obtain ⟨M, hM⟩ : ∃ M, M = (256 ^ t : Nat) := ⟨_, rfl⟩
                            rw [← hM] at hp ⊢
                            have HM := Lib.hid hM
                            clear hM
                            by_cases htn : t < N
                            · have d1 : (t : Int) < (N : Int) := by omega
                              have HTD : Hid (Below w.heap.size w wr.drew ∧ wr.drew.heap[w.heap.size]? = some (.cells #[.int .i64 5, .int .i64 gn, .int .i64 (Qn : Int), .string gt] 56 (0, 0))) := Lib.hid ⟨HT.out.1.drew, HT.out.2⟩
                              clear HT
                              go_wp2_with fail
                              go_region
                              go_wp2_with fail
                              go_roundw
                              case rel => exact ⟨t + 1, by omega, by go_num, by rw [HM.out, Nat.pow_succ]; congr 1; omega, HTD⟩
                              case measure => simp [intOf]; omega
                            · obtain rfl : t = N := by omega
                              have hV2 : FmsAt (· < wr.drew.heap.size) wr.drew (.slice (some ⟨b, off, none⟩) j c) d := by
                                have h1 := FmsAt.take (k := j) HV.out.1 (by have := HN.out.2; omega)
                                have e : (d ++ [f]).take j = d := by rw [HN.out.1]; simp
                                rw [e] at h1
                                exact (h1.kept (Kept.of_below HT.out.1.drew fun _ h => h)).mono fun g hg => Nat.lt_of_lt_of_le hg HT.out.1.drew.size
                              have HLS := Lib.hid (leasts_any (.slice (some ⟨b, off, none⟩) j c) d wr.drew hV2 (by have := HN.out.1; omega))
                              have HTD := Lib.hid HT.out.1.drew
                              clear HT hV2
                              go_wp2_with fail
                              go_region
                              go_wp2_with fail
                              refine HLS.out.mono ?_
                              rintro e w1 ⟨⟨u, rfl, hown⟩, hb1⟩
                              have hll : ((rls d []).map (·.2)).length = j := by rw [List.length_map, rls_len, HN.out.1]; simp
                              obtain ⟨qa, qc, rfl, hq0⟩ := hown.at_
                              rw [hll] at hq0 ⊢
                              have hIn := HID.out.1
                              rw [← HN.out.1] at hIn
                              rcases hq0 with hq0 | ⟨qb, rfl, -, lqb, hq1, hq2, hqat⟩
                              · omega
                              have p0 := hqat In hIn
                              have hval : ((rls d []).map (·.2)).getD In 0 = lkz (lm d) gn := by
                                have h1 := (rls_at HV.out.2.1 HID.out.1).1
                                rw [HID.out.2] at h1
                                rw [← h1]
                                simp [List.getD]
                                cases (rls d [])[In]? <;> rfl
                              rw [hval] at p0
                              obtain ⟨Z, hZ⟩ : ∃ Z, Z = lkz (lm d) gn := ⟨_, rfl⟩
                              have hzf := HV.out.2.1.fine.lkz gn
                              rw [← hZ] at p0 hzf
                              have HRR : Hid (decide (Z < (M : Int)) = R) := Lib.hid (by
                                rw [← HT0.out, HNN.out, ← hZ, HM.out]
                                exact dd (by push_cast; exact Iff.rfl))
                              have HB9 := Lib.hid (HTD.out.trans (hb1.mono HTD.out.size))
                              unfold maxLen at hq2
                              clear hown hval hZ hb1 hqat HLS
                              go_wp2_with fail
                              go_ret
                              exact ⟨by rw [← HRR.out]; rfl, HB9.out⟩
                        · rw [decide_eq_false hI0] at hR
                          have HRR : Hid (R = false) := Lib.hid (by rw [← hR]; rfl)
                          have hI1 : I < 0 := by omega
                          clear hR hq0 hI0
                          go_wp2_with fail
                          go_ret
                          exact ⟨by rw [HRR.out]; rfl, HB.out.1⟩
                    · have HRR : Hid (R = false) := Lib.hid (by rw [← HR.out]; exact right_0 K1 K2 K3 K4 K5 K6)
                      clear hns hp0 hq0
                      go_wp2_with fail
                      go_ret
                      exact ⟨by rw [HRR.out]; rfl, HB.out.1⟩
end Go.Proofs.YtcnokccgdiodlaaGreatDoor
