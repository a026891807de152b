/- The reference's fields. Conditions: the formats are readable; their numbers are ints; what comes ahead of the field is as it should be. The reference's tables. Conditions: the formats are readable; their numbers are ints. The reference's Least, Find and Same. Conditions: the formats are readable; their numbers are ints. The reference's pick and free. Conditions: the number of choices is positive; the fields are readable. The reference's Same. Conditions: the formats are readable. -/
import Derived.Test.YtdndmhlmbpgdeaaGreatDoorPb17
import Derived.Deep.CutRange
import Derived.Deep.CutBlock
import Derived.Test.YtdndmhlmbpgdeaaGreatDoorPb14
import Derived.BigQuiet
import Derived.Deep.QuietTactic
namespace Go.Proofs.YtdndmhlmbpgdeaaGreatDoor
section RefC
open Go.RowKit Go.Shelf Fx Go.Sort

theorem right_1 {m : List (Int × Int)} {fs : List Fld} {f : Fld} (h : f.kind = 1) : Fx.right m fs f = literal f := by unfold Fx.right; rw [if_pos h]
theorem right_2 {m : List (Int × Int)} {fs : List Fld} {f : Fld} (h : f.kind = 2) : Fx.right m fs f = Fx.sized 1 3 f := by unfold Fx.right; rw [if_neg (by omega), if_pos h]
theorem right_3 {m : List (Int × Int)} {fs : List Fld} {f : Fld} (h : f.kind = 3) : Fx.right m fs f = (Fx.sized 0 4096 f || counted fs f) := by unfold Fx.right; rw [if_neg (by omega), if_neg (by omega), if_pos h]
theorem right_4 {m : List (Int × Int)} {fs : List Fld} {f : Fld} (h : f.kind = 4) : Fx.right m fs f = nests m fs f := by unfold Fx.right; rw [if_neg (by omega), if_neg (by omega), if_neg (by omega), if_pos h]
theorem right_5 {m : List (Int × Int)} {fs : List Fld} {f : Fld} (h : f.kind = 5) : Fx.right m fs f = (nests m fs f && tells m fs f) := by unfold Fx.right; rw [if_neg (by omega), if_neg (by omega), if_neg (by omega), if_neg (by omega), if_pos h]
theorem right_6 {m : List (Int × Int)} {fs : List Fld} {f : Fld} (h : f.kind = 6) : Fx.right m fs f = Fx.sized 1 3 f := by unfold Fx.right; rw [if_neg (by omega), if_neg (by omega), if_neg (by omega), if_neg (by omega), if_neg (by omega), if_pos h]
theorem right_0 {m : List (Int × Int)} {fs : List Fld} {f : Fld} (h1 : f.kind ≠ 1) (h2 : f.kind ≠ 2) (h3 : f.kind ≠ 3) (h4 : f.kind ≠ 4) (h5 : f.kind ≠ 5) (h6 : f.kind ≠ 6) : Fx.right m fs f = false := by
  unfold Fx.right; rw [if_neg h1, if_neg h2, if_neg h3, if_neg h4, if_neg h5, if_neg h6]
/-- What the search for an ID has found so far. -/
def Seen (d : List Fm) (q : Int) (j : Nat) (I : Int) : Prop := (I = -1 ∧ ∀ i, i < j → (d.getD i zm).id ≠ q) ∨ ∃ i : Nat, i < j ∧ I = i ∧ (d.getD i zm).id = q
theorem Seen.knows_ {d : List Fm} {q I : Int} (h : Seen d q d.length I) : knows (lm d) q = decide (0 ≤ I) := by
  unfold knows
  rcases h with ⟨rfl, h⟩ | ⟨i, hi, rfl, h⟩
  · cases hk : lk (lm d) q with
    | none => rfl
    | some v =>
      obtain ⟨f, hf, he⟩ := lk_ids hk
      obtain ⟨i, hi, rfl⟩ := List.getElem_of_mem hf
      have := h i hi
      simp [List.getD, List.getElem?_eq_getElem hi] at this
      exact absurd he this
  · obtain ⟨v, hv⟩ := lk_has (d := d) (q := q) ⟨d[i], List.getElem_mem hi, by simpa [List.getD, List.getElem?_eq_getElem hi] using h⟩
    rw [hv]
    simp
theorem FmsAt.take {B : Nat → Prop} {w : World} {a : Option Addr} {n c k : Nat} {l : List Fm} (h : FmsAt B w (.slice a n c) l) (hk : k ≤ l.length) : FmsAt B w (.slice a k c) (l.take k) := by
  rcases Nat.eq_zero_or_pos k with rfl | h0
  · exact .inl ⟨_, _, rfl, rfl⟩
  · obtain ⟨b, off, rfl, rfl, h1, h2, h3, h4, h5⟩ := h.at_ (by omega)
    have hl : (l.take k).length = k := by rw [List.length_take]; omega
    refine .inr ⟨b, off, c, by rw [hl], by omega, by omega, h4, h1, h2, fun i hi => ?_⟩
    obtain ⟨u, hu⟩ := h5 i (by omega)
    rw [getD_take (by omega)]
    exact ⟨u, hu⟩
set_option maxHeartbeats 2000000 in
set_option maxRecDepth 100000 in
theorem rfits_any (v : Value) (d : List Fm) (f : Fm) (k : Nat) (R : Bool) (w : World) (hV : FmsAt (· < w.heap.size) w v (d ++ [f])) (hd : Ok d) (hI : IntsM f) (hk : k < f.fs.length) (hdl : d.length ≤ 100)
    (hr : ∀ j, j < k → Fx.right (lm d) (f.fs.take j) (f.fs.getD j zf) = true) (hR : Fx.right (lm d) (f.fs.take k) (f.fs.getD k zf) = R) :
    Calls Tryz.prog 86 #[v, .int .i64 k] w fun e w' => e = .returned (.bool R) ∧ Below w.heap.size w w' := by
  obtain ⟨a, c, rfl, hlc⟩ := hV.slice_
  obtain ⟨b, off, rfl, hn, hbl, -, m1, m2, hfm⟩ := hV.at_ (by simp)
  obtain ⟨n, hn⟩ : ∃ n, n = d.length := ⟨_, rfl⟩
  have hdn : (d ++ [f]).length = n + 1 := by rw [hn]; simp
  rw [hdn] at hV hlc m1 ⊢
  obtain ⟨u, hu⟩ := hfm n (by omega)
  have hgl : (d ++ [f]).getD n zm = f := by rw [hn]; exact getD_snoc_eq
  rw [hgl] at hu
  obtain ⟨ua, uc, rfl, hucl⟩ := hu.fs.slice_
  obtain ⟨m, hm⟩ : ∃ m, m = f.fs.length := ⟨_, rfl⟩
  rw [← hm] at hucl hu
  have hkm : k < m := by omega
  obtain ⟨fb, fo, rfl, -, lfb, n1, n2, hfl⟩ := hu.fs.at_ (by omega)
  obtain ⟨⟨gk, gn, gf, gt⟩, hg⟩ : ∃ g, g = f.fs.getD k zf := ⟨_, rfl⟩
  have hgI : Ints ⟨gk, gn, gf, gt⟩ := by rw [hg]; exact hI.2 k hk
  have hgA := hfl k hk
  rw [← hg] at hgA hR
  obtain ⟨g0, g1, g2, g3⟩ := hgA
  have c1 := hu.c1
  have lb := hbl
  have HV := Lib.hid (And.intro hV (And.intro hd (And.intro hI hr)))
  have HF := Lib.hid (And.intro hu.fs (And.intro hm (And.intro hg (And.intro hfl hgI))))
  have HR := Lib.hid hR
  have HN := Lib.hid (And.intro hn hdn)
  have hnl : (n : Int) + 1 - 1 = n := by omega
  unfold maxLen at m2 n2
  rw [← hn] at hdl
  have HFM := Lib.hid c1
  clear hV hd hI hr hu hm hg hfl hR hn hdn hlc hucl hk
  go_enter Tryz.func86, Tryz.ntmps86
  go_wp2_with fail
  obtain ⟨W, hW⟩ : ∃ W, W = w.alloc (.cells #[.int .i64 gk, .int .i64 gn, .int .i64 gf, .string gt] 56) := ⟨_, rfl⟩
  rw [← hW]
  have H0 : Hid (Below w.heap.size w W ∧ W.heap[w.heap.size]? = some (.cells #[.int .i64 gk, .int .i64 gn, .int .i64 gf, .string gt] 56 (0, 0))) := Lib.hid (by rw [hW]; exact ⟨bx _, heap_alloc_new _ _⟩)
  clear hW g0 g1 g2 g3 c1
  go_loopw [7, 8] (fun q i wr => ∃ (j : Nat) (I : Int), j ≤ n ∧ i = .int .i64 j ∧ q = .int .i64 I ∧ Hid (Seen d gn j I ∧ Below w.heap.size w wr ∧ wr.heap[w.heap.size]? = some (.cells #[.int .i64 gk, .int .i64 gn, .int .i64 gf, .string gt] 56 (0, 0)))) (fun _ i _ => n - (intOf i).toNat)
  case atStart => exact ⟨0, -1, Nat.zero_le _, rfl, rfl, Lib.hid ⟨.inl ⟨rfl, fun i hi => absurd hi (by omega)⟩, H0.out⟩⟩
  case round =>
    obtain ⟨j, I, hj, rfl, rfl, HJ⟩ := hrel
    obtain ⟨-, hbw, hX⟩ := HJ.out
    have x0 : wr.cell? ⟨w.heap.size, 0, none⟩ = some (.int .i64 gk) := cell_of_row _ _ _ _ _ _ hX
    have x1 : wr.cell? ⟨w.heap.size, 1, none⟩ = some (.int .i64 gn) := cell_of_row _ _ _ _ _ _ hX
    have x2 : wr.cell? ⟨w.heap.size, 2, none⟩ = some (.int .i64 gf) := cell_of_row _ _ _ _ _ _ hX
    have x3 : wr.cell? ⟨w.heap.size, 3, none⟩ = some (.string gt) := cell_of_row _ _ _ _ _ _ hX
    have hK : Kept (· < w.heap.size) w wr := Kept.of_below hbw fun _ h => h
    obtain ⟨u0, hu0⟩ := hfm j (by have := HN.out.2; omega)
    by_cases hjn : j < n
    · have hjd : j < d.length := by have := HN.out.1; omega
      have p0 := (hu0.kept hK hbl).c0
      have lb2 := World.block_lt_of_cell? (h := p0)
      rw [getD_snoc_lt hjd] at p0
      obtain ⟨X, hXX⟩ : ∃ X, X = (d.getD j zm).id := ⟨_, rfl⟩
      rw [← hXX] at p0
      have HXX := Lib.hid hXX
      clear hXX hu0 hK hbw hX
      by_cases hx : X = gn
      · have d1 : (X == gn) = true := by rw [beq_iff_eq]; exact hx
        have HS : Hid (Seen d gn (j + 1) j ∧ Below w.heap.size w wr.drew ∧ wr.drew.heap[w.heap.size]? = some (.cells #[.int .i64 gk, .int .i64 gn, .int .i64 gf, .string gt] 56 (0, 0))) := Lib.hid ⟨.inr ⟨j, by omega, rfl, by rw [← HXX.out]; exact hx⟩, HJ.out.2.1.drew, HJ.out.2.2⟩
        clear hx HJ
        go_wp2_with fail
        go_region
        go_wp2_with fail
        go_roundw
        case rel => exact ⟨j + 1, j, by omega, by go_num, rfl, HS⟩
        case measure => simp [intOf]; omega
      · have d1 : (X == gn) = false := by rw [beq_eq_false_iff_ne]; exact hx
        have HS : Hid (Seen d gn (j + 1) I ∧ Below w.heap.size w wr.drew ∧ wr.drew.heap[w.heap.size]? = some (.cells #[.int .i64 gk, .int .i64 gn, .int .i64 gf, .string gt] 56 (0, 0))) := Lib.hid ⟨by
          rcases HJ.out.1 with ⟨h1, h2⟩ | ⟨i, h1, h2, h3⟩
          · refine .inl ⟨h1, fun i hi => ?_⟩
            rcases Nat.lt_succ_iff_lt_or_eq.1 hi with h | rfl
            · exact h2 i h
            · rw [← HXX.out]; exact hx
          · exact .inr ⟨i, by omega, h2, h3⟩, HJ.out.2.1.drew, HJ.out.2.2⟩
        clear hx HJ
        go_wp2_with fail
        go_region
        go_wp2_with fail
        go_roundw
        case rel => exact ⟨j + 1, I, by omega, by go_num, rfl, HS⟩
        case measure => simp [intOf]; omega
    · obtain rfl : j = n := by omega
      have HSE : Hid (Seen d gn d.length I) := Lib.hid (by
        have h := HJ.out.1
        rw [HN.out.1] at h
        exact h)
      have HKN : Hid (knows (lm d) gn = decide (0 ≤ I)) := Lib.hid HSE.out.knows_
      clear hu0 hK hbw hX hfm
      have HB := Lib.hid HJ.out.2
      clear HJ
      obtain ⟨p, hp⟩ : ∃ p, p = (decide (gf = -1) && decide (gt.size = 0)) := ⟨_, rfl⟩
      obtain ⟨q, hq⟩ : ∃ q, q = (decide (gt.size = 0) && counts (f.fs.take k) gf) := ⟨_, rfl⟩
      have HPQ := Lib.hid (And.intro hp hq)
      clear hp hq
      go_upto_region 9 with fail
      go_cut [9] from 38 to 45 (fun vp wx => vp = .bool p ∧ wx = wr)
      case first =>
        by_cases h1 : gf = -1
        · have d1 : ((gf : Int) == -1) = true := by simpa using h1
          by_cases h2 : gt.size = 0
          · obtain ⟨d2, d3⟩ := emp_of h2
            have HP : Hid (p = true) := Lib.hid (by rw [HPQ.out.1, decide_eq_true h1, decide_eq_true h2]; rfl)
            clear h1 h2
            go_wp2_with fail
            go_meet
            case rel => exact ⟨by rw [HP.out], rfl⟩
          · obtain ⟨d2, d3⟩ := emp_not h2
            have HP : Hid (p = false) := Lib.hid (by rw [HPQ.out.1, decide_eq_false h2]; simp)
            clear h1 h2
            go_wp2_with fail
            go_meet
            case rel => exact ⟨by rw [HP.out], rfl⟩
        · have d1 : ((gf : Int) == -1) = false := by simpa using h1
          have HP : Hid (p = false) := Lib.hid (by rw [HPQ.out.1, decide_eq_false h1]; rfl)
          clear h1
          go_wp2_with fail
          go_meet
          case rel => exact ⟨by rw [HP.out], rfl⟩
      case rest =>
        obtain ⟨rfl, rfl⟩ := hcut
        have c1 : wc.cell? ⟨b, off + j * 2 + 1, none⟩ = some (.slice (some ⟨fb, fo, none⟩) m uc) := (HB.out.1.cell (p := ⟨b, off + j * 2 + 1, none⟩) hbl).trans HFM.out
        have lb3 := World.block_lt_of_cell? (h := c1)
        have HNU := Lib.hid (rnumber_any (.slice (some ⟨fb, fo, none⟩) m uc) f.fs k (counts (f.fs.take k) gf) wc (HF.out.1.below HB.out.1) (by have := HF.out.2.1; omega) HV.out.2.2.1.2 (by rw [← HF.out.2.2.1]))
        go_upto_region 10 with fail
        go_cut [10] from 46 to 62 (fun vq wx => vq = .bool q ∧ wx = wc)
        case first =>
          by_cases h2 : gt.size = 0
          · obtain ⟨d2, d3⟩ := emp_of h2
            by_cases h1 : gf = -1
            · subst h1
              have HP : Hid (q = false) := Lib.hid (by rw [HPQ.out.2, counts_lo (by decide)]; simp)
              clear h2
              go_wp2_with fail
              go_meet
              case rel => exact ⟨by rw [HP.out], rfl⟩
            · have HP : Hid (q = counts (f.fs.take k) gf) := Lib.hid (by rw [HPQ.out.2, decide_eq_true h2]; rfl)
              clear h2
              go_wp2_with fail
              refine HNU.out.mono ?_
              rintro e w' ⟨rfl, rfl⟩
              rw [← HP.out]
              go_wp2_with fail
              go_meet
              case rel => exact ⟨by simp [h1], rfl⟩
          · obtain ⟨d2, d3⟩ := emp_not h2
            have HP : Hid (q = false) := Lib.hid (by rw [HPQ.out.2, decide_eq_false h2]; rfl)
            clear h2
            go_wp2_with fail
            go_meet
            case rel => exact ⟨by rw [HP.out], rfl⟩
        case rest =>
          obtain ⟨rfl, rfl⟩ := hcut
          clear HNU
          have HPR := Lib.hid HPQ.out
          obtain ⟨hp0, hq0⟩ := HPQ.out
          by_cases K1 : gk = 1
          · subst K1
            have hR := HR.out
            rw [right_1 rfl] at hR
            by_cases h1 : gn = 0
            · have d1 : ((gn : Int) == 0) = true := by simpa using h1
              by_cases h2 : gf = -1
              · have d2 : ((gf : Int) == -1) = true := by simpa using h2
                have HRR : Hid (withinB gt.size 1 16 = R) := Lib.hid (by
                  rw [← hR]; unfold literal withinB
                  rw [decide_eq_true h1, decide_eq_true h2, Bool.true_and, Bool.true_and]
                  congr 1
                  · exact dd (by show (1 : Int) ≤ gt.size ↔ 1 ≤ gt.size; omega)
                  · exact dd (by show (gt.size : Int) ≤ 16 ↔ gt.size ≤ 16; omega))
                have hts := hgI.t
                clear h1 h2 hR hp0 hq0
                go_wp2_with fail
                refine (rwithin_any _ _ _ R _ HRR.out).mono ?_
                rintro e w' ⟨rfl, rfl⟩
                go_wp2_with fail
                go_ret
                exact ⟨rfl, HB.out.1⟩
              · have d2 : ((gf : Int) == -1) = false := by simpa using h2
                have HRR : Hid (R = false) := Lib.hid (by rw [← hR]; unfold literal; simp [h2])
                clear h1 h2 hR hp0 hq0
                go_wp2_with fail
                go_ret
                exact ⟨by rw [HRR.out]; rfl, HB.out.1⟩
            · have d1 : ((gn : Int) == 0) = false := by simpa using h1
              have HRR : Hid (R = false) := Lib.hid (by rw [← hR]; unfold literal; simp [h1])
              clear h1 hR hp0 hq0
              go_wp2_with fail
              go_ret
              exact ⟨by rw [HRR.out]; rfl, HB.out.1⟩
          · by_cases K2 : gk = 2
            · subst K2
              have hR := HR.out
              rw [right_2 rfl] at hR
              cases p with
              | true =>
                have HRR : Hid (withinB gn 1 3 = R) := Lib.hid (by
                  rw [← hR]; unfold Fx.sized withinB
                  simp at hp0
                  simp [hp0])
                clear hR hp0 hq0
                go_wp2_with fail
                refine (rwithin_any _ _ _ R _ HRR.out).mono ?_
                rintro e w' ⟨rfl, rfl⟩
                go_wp2_with fail
                go_ret
                exact ⟨rfl, HB.out.1⟩
              | false =>
                have HRR : Hid (R = false) := Lib.hid (by
                  rw [← hR]; unfold Fx.sized
                  simp at hp0 ⊢
                  intro a b; exact absurd b (hp0 a))
                clear hR hp0 hq0
                go_wp2_with fail
                go_ret
                exact ⟨by rw [HRR.out]; rfl, HB.out.1⟩
            · by_cases K6 : gk = 6
              · subst K6
                have hR := HR.out
                rw [right_6 rfl] at hR
                cases p with
                | true =>
                  have HRR : Hid (withinB gn 1 3 = R) := Lib.hid (by
                    rw [← hR]; unfold Fx.sized withinB
                    simp at hp0
                    simp [hp0])
                  clear hR hp0 hq0
                  go_wp2_with fail
                  refine (rwithin_any _ _ _ R _ HRR.out).mono ?_
                  rintro e w' ⟨rfl, rfl⟩
                  go_wp2_with fail
                  go_ret
                  exact ⟨rfl, HB.out.1⟩
                | false =>
                  have HRR : Hid (R = false) := Lib.hid (by
                    rw [← hR]; unfold Fx.sized
                    simp at hp0 ⊢
                    intro a b; exact absurd b (hp0 a))
                  clear hR hp0 hq0
                  go_wp2_with fail
                  go_ret
                  exact ⟨by rw [HRR.out]; rfl, HB.out.1⟩
              · by_cases K3 : gk = 3
                · subst K3
                  have hR := HR.out
                  rw [right_3 rfl] at hR
                  have hcn : counted (f.fs.take k) ⟨3, gn, gf, gt⟩ = (decide (gn = 0) && q) := by rw [hq0]; rfl
                  have hsz : Fx.sized 0 4096 ⟨3, gn, gf, gt⟩ = (p && withinB gn 0 4096) := by
                    rw [hp0]; unfold Fx.sized withinB
                    simp only [Bool.and_assoc]
                  rw [hcn, hsz] at hR
                  clear hcn hsz hp0 hq0
                  cases p with
                  | true =>
                    obtain ⟨u, hu⟩ : ∃ u, withinB gn 0 4096 = u := ⟨_, rfl⟩
                    have HU := Lib.hid hu
                    rw [hu] at hR
                    clear hu
                    cases u with
                    | true =>
                      have HRR : Hid (R = true) := Lib.hid (by rw [← hR]; rfl)
                      clear hR
                      go_wp2_with fail
                      refine (rwithin_any _ _ _ true _ HU.out).mono ?_
                      rintro e w' ⟨rfl, rfl⟩
                      go_wp2_with fail
                      go_ret
                      exact ⟨by rw [HRR.out]; rfl, HB.out.1⟩
                    | false =>
                      have hq1 : q = false ∨ q = true := by cases q <;> simp
                      have HHR := Lib.hid hR
                      clear hR
                      cases q with
                      | true =>
                        have hR := HHR.out
                        by_cases h1 : gn = 0
                        · have d1 : ((gn : Int) == 0) = true := by simpa using h1
                          have HRR : Hid (R = true) := Lib.hid (by rw [← hR, decide_eq_true h1]; rfl)
                          clear h1 hR
                          go_wp2_with fail
                          refine (rwithin_any _ _ _ false _ HU.out).mono ?_
                          rintro e w' ⟨rfl, rfl⟩
                          go_wp2_with fail
                          go_ret
                          exact ⟨by rw [HRR.out]; rfl, HB.out.1⟩
                        · have d1 : ((gn : Int) == 0) = false := by simpa using h1
                          have HRR : Hid (R = false) := Lib.hid (by rw [← hR, decide_eq_false h1]; rfl)
                          clear h1 hR
                          go_wp2_with fail
                          refine (rwithin_any _ _ _ false _ HU.out).mono ?_
                          rintro e w' ⟨rfl, rfl⟩
                          go_wp2_with fail
                          go_ret
                          exact ⟨by rw [HRR.out]; rfl, HB.out.1⟩
                      | false =>
                        have HRR : Hid (R = false) := Lib.hid (by rw [← HHR.out]; simp)
                        go_wp2_with fail
                        refine (rwithin_any _ _ _ false _ HU.out).mono ?_
                        rintro e w' ⟨rfl, rfl⟩
                        go_wp2_with fail
                        go_ret
                        exact ⟨by rw [HRR.out]; rfl, HB.out.1⟩
                  | false =>
                    cases q with
                    | true =>
                      by_cases h1 : gn = 0
                      · have d1 : ((gn : Int) == 0) = true := by simpa using h1
                        have HRR : Hid (R = true) := Lib.hid (by rw [← hR, decide_eq_true h1]; rfl)
                        clear h1 hR
                        go_wp2_with fail
                        go_ret
                        exact ⟨by rw [HRR.out]; rfl, HB.out.1⟩
                      · have d1 : ((gn : Int) == 0) = false := by simpa using h1
                        have HRR : Hid (R = false) := Lib.hid (by rw [← hR, decide_eq_false h1]; rfl)
                        clear h1 hR
                        go_wp2_with fail
                        go_ret
                        exact ⟨by rw [HRR.out]; rfl, HB.out.1⟩
                    | false =>
                      have HRR : Hid (R = false) := Lib.hid (by rw [← hR]; simp)
                      clear hR
                      go_wp2_with fail
                      go_ret
                      exact ⟨by rw [HRR.out]; rfl, HB.out.1⟩
                · have hns : nests (lm d) (f.fs.take k) ⟨gk, gn, gf, gt⟩ = (q && decide (0 ≤ I)) := by
                    rw [hq0, ← HKN.out]; unfold nests
                    simp only [Bool.and_assoc, Bool.and_comm (knows (lm d) gn)]
                  by_cases K4 : gk = 4
                  · subst K4
                    have hR := HR.out
                    rw [right_4 rfl, hns] at hR
                    clear hns hp0 hq0
                    cases q with
                    | true =>
                      have HRR : Hid (decide (0 ≤ I) = R) := Lib.hid hR
                      clear hR
                      go_wp2_with fail
                      go_ret
                      exact ⟨by rw [← HRR.out]; rfl, HB.out.1⟩
                    | false =>
                      have HRR : Hid (R = false) := Lib.hid (by rw [← hR]; rfl)
                      clear hR
                      go_wp2_with fail
                      go_ret
                      exact ⟨by rw [HRR.out]; rfl, HB.out.1⟩
                  · by_cases K5 : gk = 5
                    · subst K5
                      have hR := HR.out
                      rw [right_5 rfl, hns] at hR
                      clear hns hp0
                      cases q with
                      | false =>
                        have HRR : Hid (R = false) := Lib.hid (by rw [← hR]; rfl)
                        clear hR hq0
                        go_wp2_with fail
                        go_ret
                        exact ⟨by rw [HRR.out]; rfl, HB.out.1⟩
                      | true =>
                        by_cases hI0 : 0 ≤ I
                        · rw [decide_eq_true hI0] at hR
                          have HT0 : Hid (Fx.tells (lm d) (f.fs.take k) ⟨5, gn, gf, gt⟩ = R) := Lib.hid hR
                          have hcnt : counts (f.fs.take k) gf = true := by
                            have h := hq0.symm
                            rw [Bool.and_eq_true] at h
                            exact h.2
                          obtain ⟨e1, e2, e3, -⟩ := counts_of hcnt
                          obtain ⟨Qn, hQn⟩ : ∃ Qn : Nat, gf = Qn := ⟨gf.toNat, by omega⟩
                          subst hQn
                          have lk : (f.fs.take k).length = k := by rw [List.length_take]; have := HF.out.2.1; omega
                          have hqk : Qn < k := by rw [lk] at e2; omega
                          rw [Int.toNat_natCast, getD_take hqk] at e3
                          have hr2 := HV.out.2.2.2 Qn hqk
                          rw [right_2 e3] at hr2
                          obtain ⟨-, -, s3, s4⟩ := sized_of hr2
                          have cN := (HF.out.2.2.2.1 Qn (by have := HF.out.2.1; omega)).c1
                          obtain ⟨N, hN⟩ : ∃ N : Nat, (f.fs.getD Qn zf).n = N := ⟨((f.fs.getD Qn zf).n).toNat, by omega⟩
                          rw [hN] at cN s3 s4
                          have HNN : Hid (Fx.tells (lm d) (f.fs.take k) ⟨5, gn, (Qn : Int), gt⟩ = decide (lkz (lm d) gn < 256 ^ N)) := Lib.hid (by
                            unfold Fx.tells
                            rw [Int.toNat_natCast, getD_take hqk, hN]
                            obtain rfl | rfl | rfl : N = 1 ∨ N = 2 ∨ N = 3 := by omega
                            · rfl
                            · rfl
                            · rfl)
                          have hN3 : N ≤ 3 := by omega
                          have HCN := Lib.hid cN
                          obtain ⟨In, hIn⟩ : ∃ In : Nat, I = In := ⟨I.toNat, by omega⟩
                          subst hIn
                          have hInd : In < d.length ∧ (d.getD In zm).id = gn := by
                            rcases HSE.out with ⟨h1, _⟩ | ⟨i, h1, h2, h3⟩
                            · omega
                            · have : In = i := by omega
                              subst this; exact ⟨h1, h3⟩
                          have HID := Lib.hid hInd
                          clear hR hq0 hcnt e1 e2 e3 lk hr2 s3 s4 hN cN hInd hI0
                          have HB2 : Hid (Below w.heap.size w wc ∧ wc.heap[w.heap.size]? = some (.cells #[.int .i64 5, .int .i64 gn, .int .i64 (Qn : Int), .string gt] 56 (0, 0))) := HB
                          go_wp2_with fail
                          go_loopw [11, 12] (fun mo i wr => ∃ t : Nat, t ≤ N ∧ i = .int .i64 t ∧ mo = .int .i64 ((256 ^ t : Nat) : Int) ∧ Hid (Below w.heap.size w wr ∧ wr.heap[w.heap.size]? = some (.cells #[.int .i64 5, .int .i64 gn, .int .i64 (Qn : Int), .string gt] 56 (0, 0)))) (fun _ i _ => N - (intOf i).toNat)
                          case atStart => exact ⟨0, Nat.zero_le _, rfl, rfl, HB2⟩
                          case round =>
                            obtain ⟨t, ht, rfl, rfl, HT⟩ := hrel
                            have y2 : wr.cell? ⟨w.heap.size, 2, none⟩ = some (.int .i64 (Qn : Int)) := cell_of_row _ _ _ _ _ _ HT.out.2
                            have lw := lt_of_heap HT.out.2
                            have yc : wr.cell? ⟨b, off + j * 2 + 1, none⟩ = some (.slice (some ⟨fb, fo, none⟩) m uc) := (HT.out.1.cell (p := ⟨b, off + j * 2 + 1, none⟩) hbl).trans HFM.out
                            have yn : wr.cell? ⟨fb, fo + Qn * 4 + 1, none⟩ = some (.int .i64 N) := (HT.out.1.cell (p := ⟨fb, fo + Qn * 4 + 1, none⟩) lfb).trans HCN.out
                            have lb4 := World.block_lt_of_cell? (h := yc)
                            have lb5 := World.block_lt_of_cell? (h := yn)
                            have hqm : Qn < m := by omega
                            have hp : (256 ^ t : Nat) ≤ 16777216 := by
                              obtain rfl | rfl | rfl | rfl : t = 0 ∨ t = 1 ∨ t = 2 ∨ t = 3 := by omega
                              all_goals decide
                            obtain ⟨M, hM⟩ : ∃ M, M = (256 ^ t : Nat) := ⟨_, rfl⟩
                            rw [← hM] at hp ⊢
                            have HM := Lib.hid hM
                            clear hM
                            by_cases htn : t < N
                            · have d1 : (t : Int) < (N : Int) := by omega
                              have HTD : Hid (Below w.heap.size w wr.drew ∧ wr.drew.heap[w.heap.size]? = some (.cells #[.int .i64 5, .int .i64 gn, .int .i64 (Qn : Int), .string gt] 56 (0, 0))) := Lib.hid ⟨HT.out.1.drew, HT.out.2⟩
                              clear HT
                              go_wp2_with fail
                              go_region
                              go_wp2_with fail
                              go_roundw
                              case rel => exact ⟨t + 1, by omega, by go_num, by rw [HM.out, Nat.pow_succ]; congr 1; omega, HTD⟩
                              case measure => simp [intOf]; omega
                            · obtain rfl : t = N := by omega
                              have hV2 : FmsAt (· < wr.drew.heap.size) wr.drew (.slice (some ⟨b, off, none⟩) j c) d := by
                                have h1 := FmsAt.take (k := j) HV.out.1 (by have := HN.out.2; omega)
                                have e : (d ++ [f]).take j = d := by rw [HN.out.1]; simp
                                rw [e] at h1
                                exact (h1.kept (Kept.of_below HT.out.1.drew fun _ h => h)).mono fun g hg => Nat.lt_of_lt_of_le hg HT.out.1.drew.size
                              have HLS := Lib.hid (leasts_any (.slice (some ⟨b, off, none⟩) j c) d wr.drew hV2 (by have := HN.out.1; omega))
                              have HTD := Lib.hid HT.out.1.drew
                              clear HT hV2
                              go_wp2_with fail
                              go_region
                              go_wp2_with fail
                              refine HLS.out.mono ?_
                              rintro e w1 ⟨⟨u, rfl, hown⟩, hb1⟩
                              have hll : ((rls d []).map (·.2)).length = j := by rw [List.length_map, rls_len, HN.out.1]; simp
                              obtain ⟨qa, qc, rfl, hq0⟩ := hown.at_
                              rw [hll] at hq0 ⊢
                              have hIn := HID.out.1
                              rw [← HN.out.1] at hIn
                              rcases hq0 with hq0 | ⟨qb, rfl, -, lqb, hq1, hq2, hqat⟩
                              · omega
                              have p0 := hqat In hIn
                              have hval : ((rls d []).map (·.2)).getD In 0 = lkz (lm d) gn := by
                                have h1 := (rls_at HV.out.2.1 HID.out.1).1
                                rw [HID.out.2] at h1
                                rw [← h1]
                                simp [List.getD]
                                cases (rls d [])[In]? <;> rfl
                              rw [hval] at p0
                              obtain ⟨Z, hZ⟩ : ∃ Z, Z = lkz (lm d) gn := ⟨_, rfl⟩
                              have hzf := HV.out.2.1.fine.lkz gn
                              rw [← hZ] at p0 hzf
                              have HRR : Hid (decide (Z < (M : Int)) = R) := Lib.hid (by
                                rw [← HT0.out, HNN.out, ← hZ, HM.out]
                                exact dd (by push_cast; exact Iff.rfl))
                              have HB9 := Lib.hid (HTD.out.trans (hb1.mono HTD.out.size))
                              unfold maxLen at hq2
                              clear hown hval hZ hb1 hqat HLS
                              go_wp2_with fail
                              go_ret
                              exact ⟨by rw [← HRR.out]; rfl, HB9.out⟩
                        · rw [decide_eq_false hI0] at hR
                          have HRR : Hid (R = false) := Lib.hid (by rw [← hR]; rfl)
                          have hI1 : I < 0 := by omega
                          clear hR hq0 hI0
                          go_wp2_with fail
                          go_ret
                          exact ⟨by rw [HRR.out]; rfl, HB.out.1⟩
                    · have HRR : Hid (R = false) := Lib.hid (by rw [← HR.out]; exact right_0 K1 K2 K3 K4 K5 K6)
                      clear hns hp0 hq0
                      go_wp2_with fail
                      go_ret
                      exact ⟨by rw [HRR.out]; rfl, HB.out.1⟩
end RefC
section RefD
open Go.RowKit Go.Shelf Fx Go.Sort

/-- What the reference asks of a format of a list. -/
structure St1 (l : List Fm) (i : Nat) : Prop where
  lo : 1 ≤ (l.getD i zm).id
  hi : (l.getD i zm).id ≤ 1000000
  asc : 0 < i → (l.getD (i - 1) zm).id < (l.getD i zm).id
  few : (l.getD i zm).fs.length ≤ 16
  some_ : (l.getD i zm).fs.length = 0 → ¬ i + 1 < l.length
  each : ∀ k, k < (l.getD i zm).fs.length → Fx.right (lm (l.take i)) ((l.getD i zm).fs.take k) ((l.getD i zm).fs.getD k zf) = true
  len : ls (lm (l.take i)) (l.getD i zm).fs ≤ 65536
theorem St1.fmOk {l : List Fm} {i : Nat} (h : St1 l i) (hs : 1 ≤ (l.getD i zm).fs.length) : FmOk (l.take i) (l.getD i zm) := ⟨h.lo, h.hi, hs, h.few, h.each, h.len⟩
theorem ok_of_st1 {l : List Fm} {j : Nat} (hl : l.length ≤ 60) (hj : j ≤ l.length) (h : ∀ i, i < j → St1 l i) (hs : ∀ i, i < j → 1 ≤ (l.getD i zm).fs.length) : Ok (l.take j) := by
  have hlen : (l.take j).length = j := by rw [List.length_take]; omega
  refine ⟨by omega, fun i hi => ?_, fun i hi => ?_⟩
  · rw [hlen] at hi
    have h1 := (h (i + 1) hi).asc (by omega)
    rw [getD_take (by omega), getD_take hi]
    simpa using h1
  · rw [hlen] at hi
    rw [getD_take hi, List.take_take, Nat.min_eq_left (by omega)]
    exact (h i hi).fmOk (hs i hi)
theorem ok_st1 {l : List Fm} (h : Ok l) {i : Nat} (hi : i < l.length) : St1 l i := by
  have hf := h.each i hi
  refine ⟨hf.lo, hf.hi, fun h0 => ?_, hf.few, fun h0 => by have := hf.some_; omega, hf.each, hf.len⟩
  have := h.asc (i - 1) (by omega)
  rwa [show i - 1 + 1 = i by omega] at this
/-- Whether the formats of a list are as the reference asks. -/
def Bg (l : List Fm) : Prop := l.length ≤ 60 ∧ ∀ i, i < l.length → St1 l i
theorem ok_bg {l : List Fm} : Ok l ↔ Bg l ∧ (l.length = 0 ∨ 1 ≤ (l.getD (l.length - 1) zm).fs.length) := by
  constructor
  · intro h
    refine ⟨⟨h.few, fun i hi => ok_st1 h hi⟩, ?_⟩
    rcases Nat.eq_zero_or_pos l.length with h0 | h0
    · exact .inl h0
    · exact .inr (h.each _ (by omega)).some_
  · rintro ⟨⟨h1, h2⟩, h3⟩
    have e : l.take l.length = l := List.take_length ..
    rw [← e]
    refine ok_of_st1 h1 (Nat.le_refl _) h2 fun i hi => ?_
    rcases Nat.lt_or_ge (i + 1) l.length with h | h
    · rcases Nat.eq_zero_or_pos (l.getD i zm).fs.length with h0 | h0
      · exact absurd h ((h2 i hi).some_ h0)
      · exact h0
    · rcases h3 with h3 | h3
      · omega
      · rwa [show l.length - 1 = i by omega] at h3
theorem bg_take {l : List Fm} {j : Nat} (hl : l.length ≤ 60) (hj : j < l.length) (h : ∀ i, i < j → St1 l i) : Ok (l.take j) :=
  ok_of_st1 hl (by omega) h fun i hi => by
    rcases Nat.eq_zero_or_pos (l.getD i zm).fs.length with h0 | h0
    · exact absurd (show i + 1 < l.length by omega) ((h i hi).some_ h0)
    · exact h0
/-- What the first look at a format asks. -/
def bad1 (l : List Fm) (i : Nat) : Bool :=
  !withinB (l.getD i zm).id 1 1000000 || (decide (0 < i) && decide ((l.getD (i - 1) zm).id ≥ (l.getD i zm).id) || (decide ((l.getD i zm).fs.length > 16) || (decide ((l.getD i zm).fs.length = 0) && decide (i + 1 < l.length))))
theorem bad1_false {l : List Fm} {i : Nat} (h : bad1 l i = false) : 1 ≤ (l.getD i zm).id ∧ (l.getD i zm).id ≤ 1000000 ∧ (0 < i → (l.getD (i - 1) zm).id < (l.getD i zm).id) ∧ (l.getD i zm).fs.length ≤ 16 ∧ ((l.getD i zm).fs.length = 0 → ¬ i + 1 < l.length) := by
  unfold bad1 withinB at h
  simp only [Bool.or_eq_false_iff, Bool.not_eq_false', Bool.and_eq_true, Bool.and_eq_false_iff, decide_eq_true_eq, decide_eq_false_iff_not] at h
  obtain ⟨⟨h1, h2⟩, h3, h4, h5⟩ := h
  refine ⟨h1, h2, fun h0 => ?_, by omega, fun h0 => ?_⟩
  · rcases h3 with h3 | h3
    · exact absurd h0 h3
    · omega
  · rcases h5 with h5 | h5
    · exact absurd h0 h5
    · exact h5
theorem bad1_true {l : List Fm} {i : Nat} (h : bad1 l i = true) : ¬ St1 l i := fun hs => by
  have : bad1 l i = false := by
    unfold bad1 withinB
    rw [decide_eq_true hs.lo, decide_eq_true hs.hi, decide_eq_false (p := (l.getD i zm).fs.length > 16) (by have := hs.few; omega)]
    have h2 : (decide (0 < i) && decide ((l.getD (i - 1) zm).id ≥ (l.getD i zm).id)) = false := by
      rw [Bool.and_eq_false_iff]
      by_cases h0 : 0 < i
      · right; exact decide_eq_false (by have := hs.asc h0; omega)
      · left; exact decide_eq_false h0
    have h3 : (decide ((l.getD i zm).fs.length = 0) && decide (i + 1 < l.length)) = false := by
      rw [Bool.and_eq_false_iff]
      by_cases h0 : (l.getD i zm).fs.length = 0
      · right; exact decide_eq_false (hs.some_ h0)
      · left; exact decide_eq_false h0
    rw [h2, h3]; rfl
  rw [h] at this; cases this
set_option maxHeartbeats 2000000 in
set_option maxRecDepth 100000 in
theorem rbegins_any (v : Value) (l : List Fm) (B : Bool) (w : World) (hB : B = true ↔ Bg l) (hV : FmsAt (· < w.heap.size) w v l) (hI : IntsL l) (hl : l.length ≤ 1000) :
    Calls Tryz.prog 54 #[v] w fun e w' => e = .returned (.bool B) ∧ Below w.heap.size w w' := by
  obtain ⟨a, c, rfl, hlc⟩ := hV.slice_
  obtain ⟨n, hn⟩ : ∃ n, n = l.length := ⟨_, rfl⟩
  rw [← hn] at hV hlc hl ⊢
  have HV := Lib.hid (And.intro hV (And.intro hn hI))
  have HBG := Lib.hid hB
  clear hV hn hI hB
  by_cases h60 : n ≤ 60
  · go_enter Tryz.func54, Tryz.ntmps54
    go_wp2_with fail
    go_loopw [3] (fun i wr => ∃ k : Nat, k ≤ n ∧ i = .int .i64 k ∧ Hid (Below w.heap.size w wr ∧ ∀ x, x < k → St1 l x)) (fun i _ => n - (intOf i).toNat)
    case atStart => exact ⟨0, Nat.zero_le _, rfl, Lib.hid ⟨Below.refl _ _, fun x hx => absurd hx (by omega)⟩⟩
    case round =>
      obtain ⟨i, hi, rfl, HJ⟩ := hrel
      obtain ⟨wo, rfl⟩ : ∃ wo : World, wo = wr := ⟨_, rfl⟩
      by_cases hin : i < n
      · have hil : i < l.length := by have := HV.out.2.1; omega
        obtain ⟨b, off, rfl, -, hbl, -, m1, m2, hfm⟩ := HV.out.1.at_ (by omega)
        obtain ⟨u, hu⟩ := hfm i hil
        have hK : Kept (· < w.heap.size) w wo := Kept.of_below HJ.out.1 fun _ h => h
        have hu' := hu.kept hK hbl
        obtain ⟨ua, uc, rfl, hucl⟩ := hu'.fs.slice_
        obtain ⟨f, hf⟩ : ∃ f, f = l.getD i zm := ⟨_, rfl⟩
        rw [← hf] at hu hu' hucl
        obtain ⟨m, hm⟩ : ∃ m, m = f.fs.length := ⟨_, rfl⟩
        rw [← hm] at hu hu' hucl
        have c0 := hu'.c0
        have c1 := hu'.c1
        have lb := World.block_lt_of_cell? (h := c0)
        obtain ⟨u1, hu1⟩ := hfm (i - 1) (by omega)
        have p0 := (hu1.kept hK hbl).c0
        obtain ⟨g, hg⟩ : ∃ g, g = (l.getD (i - 1) zm).id := ⟨_, rfl⟩
        rw [← hg] at p0
        obtain ⟨X, hX⟩ : ∃ X, X = bad1 l i := ⟨_, rfl⟩
        have HF := Lib.hid (And.intro hf (And.intro hm (And.intro hg (And.intro hX hu))))
        have hXf : X = (!withinB f.id 1 1000000 || (decide (0 < i) && decide (g ≥ f.id) || (decide (m > 16) || (decide (m = 0) && decide (i + 1 < n))))) := by
          rw [hX, bad1, ← hf, ← hg, ← hm, HV.out.2.1]
        have hmx : m ≤ 9223372036854775807 := by unfold maxLen at hucl; omega
        unfold maxLen at m2
        clear hf hm hg hX hu hu' hu1 hK hfm hucl
        go_upto_region 6 with fail
        go_cut [64] from 15 to 64 (fun vc wx => vc = .bool X ∧ Below w.heap.size w wx)
        case first =>
          have HB0 := Lib.hid HJ.out.1.size
          obtain ⟨Wv, hWv⟩ : ∃ Wv, Wv = withinB f.id 1 1000000 := ⟨_, rfl⟩
          have HWI : Hid (∀ w', Calls Tryz.prog 85 #[.int .i64 f.id, .int .i64 1, .int .i64 1000000] w' fun e w2 => e = .returned (.bool Wv) ∧ Below w'.heap.size w' w2) := Lib.hid fun w' => (rwithin_any f.id 1 1000000 Wv w' hWv.symm).mono fun e w2 ⟨h1, h2⟩ => ⟨h1, h2 ▸ Below.refl _ _⟩
          rw [← hWv] at hXf
          clear hWv
          have g0 := fun d os => cell_regrown c0 d os
          have g1 := fun d os => cell_regrown c1 d os
          clear c0 c1
          cases Wv with
          | false =>
            have HXV : Hid (X = true) := Lib.hid (by rw [hXf]; rfl)
            clear hXf p0
            refine wp_region_quiet_below (by kernel_rfl) (by kernel_rfl) ?_
            repeat (first | go_big_quiet_step (first | (go_at_call 85; exact Calls.regrown_of (HWI.out _))) | quiet_step (first | (go_at_call 85; exact Calls.regrown_of (HWI.out _))))
            refine wpQuiet_nil ?_
            intro _ hw'
            obtain ⟨⟨dq, osq⟩, hw''⟩ := hw'
            subst hw''
            go_wp2
            go_meet
            case rel => exact ⟨by rw [HXV.out], HJ.out.1.trans ((below_regrown _ _ _).mono HJ.out.1.size)⟩
          | true =>
            rcases Nat.eq_zero_or_pos i with hzero | hpos
            · have zz : (decide (0 < i) && decide (g ≥ f.id)) = false := by rw [decide_eq_false (p := 0 < i) (by omega)]; rfl
              have hi0 : ¬ (0 : Int) < (i : Int) := by omega
              have hi0n : ¬ 0 < i := by omega
              clear hzero
              clear p0
              by_cases m16 : (16 : Int) < m
              · have HXV : Hid (X = true) := Lib.hid (by rw [hXf, decide_eq_true (p := m > 16) (by omega)]; simp)
                clear hXf
                refine wp_region_quiet_below (by kernel_rfl) (by kernel_rfl) ?_
                repeat (first | go_big_quiet_step (first | (go_at_call 85; exact Calls.regrown_of (HWI.out _))) | quiet_step (first | (go_at_call 85; exact Calls.regrown_of (HWI.out _))))
                refine wpQuiet_nil ?_
                intro _ hw'
                obtain ⟨⟨dq, osq⟩, hw''⟩ := hw'
                subst hw''
                go_wp2
                go_meet
                case rel => exact ⟨by rw [HXV.out], HJ.out.1.trans ((below_regrown _ _ _).mono HJ.out.1.size)⟩
              · by_cases m0 : m = 0
                · subst m0
                  by_cases hin1 : (i : Int) < (n : Int) - 1
                  · have HXV : Hid (X = true) := Lib.hid (by rw [hXf, decide_eq_true (p := i + 1 < n) (by omega)]; simp)
                    clear hXf
                    refine wp_region_quiet_below (by kernel_rfl) (by kernel_rfl) ?_
                    repeat (first | go_big_quiet_step (first | (go_at_call 85; exact Calls.regrown_of (HWI.out _))) | quiet_step (first | (go_at_call 85; exact Calls.regrown_of (HWI.out _))))
                    refine wpQuiet_nil ?_
                    intro _ hw'
                    obtain ⟨⟨dq, osq⟩, hw''⟩ := hw'
                    subst hw''
                    go_wp2
                    go_meet
                    case rel => exact ⟨by rw [HXV.out], HJ.out.1.trans ((below_regrown _ _ _).mono HJ.out.1.size)⟩
                  · have HXV : Hid (X = false) := Lib.hid (by rw [hXf, decide_eq_false (p := i + 1 < n) (by omega), zz]; rfl)
                    clear hXf
                    refine wp_region_quiet_below (by kernel_rfl) (by kernel_rfl) ?_
                    repeat (first | go_big_quiet_step (first | (go_at_call 85; exact Calls.regrown_of (HWI.out _))) | quiet_step (first | (go_at_call 85; exact Calls.regrown_of (HWI.out _))))
                    refine wpQuiet_nil ?_
                    intro _ hw'
                    obtain ⟨⟨dq, osq⟩, hw''⟩ := hw'
                    subst hw''
                    go_wp2
                    go_meet
                    case rel => exact ⟨by rw [HXV.out], HJ.out.1.trans ((below_regrown _ _ _).mono HJ.out.1.size)⟩
                · have d0 : ((m : Int) == 0) = false := by rw [beq_eq_false_iff_ne]; omega
                  have HXV : Hid (X = false) := Lib.hid (by rw [hXf, decide_eq_false (p := m > 16) (by omega), decide_eq_false m0, zz]; rfl)
                  clear hXf m0
                  refine wp_region_quiet_below (by kernel_rfl) (by kernel_rfl) ?_
                  repeat (first | go_big_quiet_step (first | (go_at_call 85; exact Calls.regrown_of (HWI.out _))) | quiet_step (first | (go_at_call 85; exact Calls.regrown_of (HWI.out _))))
                  refine wpQuiet_nil ?_
                  intro _ hw'
                  obtain ⟨⟨dq, osq⟩, hw''⟩ := hw'
                  subst hw''
                  go_wp2
                  go_meet
                  case rel => exact ⟨by rw [HXV.out], HJ.out.1.trans ((below_regrown _ _ _).mono HJ.out.1.size)⟩
            · obtain ⟨i0, rfl⟩ : ∃ i0, i = i0 + 1 := ⟨i - 1, by omega⟩
              rw [show i0 + 1 - 1 = i0 by omega] at p0
              have g2 := fun d os => cell_regrown p0 d os
              have hi0 : (0 : Int) < (i0 : Int) + 1 := by omega
              have hi1 : (i0 : Int) + 1 - 1 = i0 := by omega
              clear p0
              by_cases hge : f.id ≤ g
              · have HXV : Hid (X = true) := Lib.hid (by rw [hXf, decide_eq_true (p := 0 < i0 + 1) (by omega), decide_eq_true (p := g ≥ f.id) hge]; rfl)
                clear hXf
                refine wp_region_quiet_below (by kernel_rfl) (by kernel_rfl) ?_
                repeat (first | go_big_quiet_step (first | (go_at_call 85; exact Calls.regrown_of (HWI.out _))) | quiet_step (first | (go_at_call 85; exact Calls.regrown_of (HWI.out _))))
                refine wpQuiet_nil ?_
                intro _ hw'
                obtain ⟨⟨dq, osq⟩, hw''⟩ := hw'
                subst hw''
                go_wp2
                go_meet
                case rel => exact ⟨by rw [HXV.out], HJ.out.1.trans ((below_regrown _ _ _).mono HJ.out.1.size)⟩
              · have zz : (decide (0 < i0 + 1) && decide (g ≥ f.id)) = false := by rw [decide_eq_false (p := g ≥ f.id) hge]; simp
                by_cases m16 : (16 : Int) < m
                · have HXV : Hid (X = true) := Lib.hid (by rw [hXf, decide_eq_true (p := m > 16) (by omega)]; simp)
                  clear hXf
                  refine wp_region_quiet_below (by kernel_rfl) (by kernel_rfl) ?_
                  repeat (first | go_big_quiet_step (first | (go_at_call 85; exact Calls.regrown_of (HWI.out _))) | quiet_step (first | (go_at_call 85; exact Calls.regrown_of (HWI.out _))))
                  refine wpQuiet_nil ?_
                  intro _ hw'
                  obtain ⟨⟨dq, osq⟩, hw''⟩ := hw'
                  subst hw''
                  go_wp2
                  go_meet
                  case rel => exact ⟨by rw [HXV.out], HJ.out.1.trans ((below_regrown _ _ _).mono HJ.out.1.size)⟩
                · by_cases m0 : m = 0
                  · subst m0
                    by_cases hin1 : ((i0 : Int) + 1) < (n : Int) - 1
                    · have HXV : Hid (X = true) := Lib.hid (by rw [hXf, decide_eq_true (p := i0 + 1 + 1 < n) (by omega)]; simp)
                      clear hXf
                      refine wp_region_quiet_below (by kernel_rfl) (by kernel_rfl) ?_
                      repeat (first | go_big_quiet_step (first | (go_at_call 85; exact Calls.regrown_of (HWI.out _))) | quiet_step (first | (go_at_call 85; exact Calls.regrown_of (HWI.out _))))
                      refine wpQuiet_nil ?_
                      intro _ hw'
                      obtain ⟨⟨dq, osq⟩, hw''⟩ := hw'
                      subst hw''
                      go_wp2
                      go_meet
                      case rel => exact ⟨by rw [HXV.out], HJ.out.1.trans ((below_regrown _ _ _).mono HJ.out.1.size)⟩
                    · have HXV : Hid (X = false) := Lib.hid (by rw [hXf, decide_eq_false (p := i0 + 1 + 1 < n) (by omega), zz]; rfl)
                      clear hXf
                      refine wp_region_quiet_below (by kernel_rfl) (by kernel_rfl) ?_
                      repeat (first | go_big_quiet_step (first | (go_at_call 85; exact Calls.regrown_of (HWI.out _))) | quiet_step (first | (go_at_call 85; exact Calls.regrown_of (HWI.out _))))
                      refine wpQuiet_nil ?_
                      intro _ hw'
                      obtain ⟨⟨dq, osq⟩, hw''⟩ := hw'
                      subst hw''
                      go_wp2
                      go_meet
                      case rel => exact ⟨by rw [HXV.out], HJ.out.1.trans ((below_regrown _ _ _).mono HJ.out.1.size)⟩
                  · have d0 : ((m : Int) == 0) = false := by rw [beq_eq_false_iff_ne]; omega
                    have HXV : Hid (X = false) := Lib.hid (by rw [hXf, decide_eq_false (p := m > 16) (by omega), decide_eq_false m0, zz]; rfl)
                    clear hXf m0
                    refine wp_region_quiet_below (by kernel_rfl) (by kernel_rfl) ?_
                    repeat (first | go_big_quiet_step (first | (go_at_call 85; exact Calls.regrown_of (HWI.out _))) | quiet_step (first | (go_at_call 85; exact Calls.regrown_of (HWI.out _))))
                    refine wpQuiet_nil ?_
                    intro _ hw'
                    obtain ⟨⟨dq, osq⟩, hw''⟩ := hw'
                    subst hw''
                    go_wp2
                    go_meet
                    case rel => exact ⟨by rw [HXV.out], HJ.out.1.trans ((below_regrown _ _ _).mono HJ.out.1.size)⟩
        case rest =>
          obtain ⟨rfl, hbc⟩ := hcut
          have HC := Lib.hid (And.intro hbc HJ.out.2)
          clear HJ c0 c1 p0 hXf hbc
          cases X with
          | true =>
            have HB : Hid (¬ Bg l) := Lib.hid fun h => bad1_true HF.out.2.2.2.1.symm (h.2 i hil)
            go_wp2_with fail
            go_ret
            exact ⟨by rw [show B = false from by cases B with | false => rfl | true => exact absurd (HBG.out.1 rfl) HB.out]; rfl, HC.out.1⟩
          | false =>
            have HG := Lib.hid (bad1_false HF.out.2.2.2.1.symm)
            have HOK : Hid (Ok (l.take i)) := Lib.hid (bg_take (by have := HV.out.2.1; omega) hil HC.out.2)
            have HTK : Hid (l.take (i + 1) = l.take i ++ [f]) := Lib.hid (by rw [take_succ_getD _ zm i hil, ← HF.out.1])
            have hi1 : (i : Int) + 1 ≤ n := by omega
            go_wp2_with fail
            go_loopw [4] (fun q wr => ∃ j : Nat, j ≤ m ∧ q = .int .i64 j ∧ Hid (Below w.heap.size w wr ∧ ∀ x, x < j → Fx.right (lm (l.take i)) (f.fs.take x) (f.fs.getD x zf) = true)) (fun q _ => m - (intOf q).toNat)
            case atStart => exact ⟨0, Nat.zero_le _, rfl, Lib.hid ⟨HC.out.1, fun x hx => absurd hx (by omega)⟩⟩
            case round =>
              obtain ⟨j, hj, rfl, HT⟩ := hrel
              have hK : Kept (· < w.heap.size) w wr := Kept.of_below HT.out.1 fun _ h => h
              have c1 := (HF.out.2.2.2.2.kept hK hbl).c1
              have lb2 := World.block_lt_of_cell? (h := c1)
              have hV2 : FmsAt (· < wr.heap.size) wr (.slice (some ⟨b, off, none⟩) (i + 1) c) (l.take i ++ [f]) := by
                have h1 := FmsAt.take (k := i + 1) HV.out.1 (by omega)
                rw [HTK.out] at h1
                exact (h1.kept hK).mono fun g hg => Nat.lt_of_lt_of_le hg HT.out.1.size
              by_cases hjm : j < m
              · obtain ⟨R, hR⟩ : ∃ R, Fx.right (lm (l.take i)) (f.fs.take j) (f.fs.getD j zf) = R := ⟨_, rfl⟩
                have HFI := Lib.hid (rfits_any (.slice (some ⟨b, off, none⟩) (i + 1) c) (l.take i) f j R wr hV2 HOK.out (by rw [HF.out.1]; exact HV.out.2.2 i hil) (by have := HF.out.2.1; omega) (by rw [List.length_take]; omega) HT.out.2 hR)
                have HR := Lib.hid hR
                clear hV2 hK hR
                go_wp2_with fail
                refine HFI.out.mono ?_
                rintro e w1 ⟨rfl, hb1⟩
                have HB1 := Lib.hid (HT.out.1.trans (hb1.mono HT.out.1.size))
                clear hb1 HFI
                cases R with
                | false =>
                  have HB : Hid (¬ Bg l) := Lib.hid fun h => by
                    have := (h.2 i hil).each j (by rw [← HF.out.1]; have := HF.out.2.1; omega)
                    rw [← HF.out.1, HR.out] at this
                    cases this
                  clear HT
                  go_wp2_with fail
                  go_ret
                  exact ⟨by rw [show B = false from by cases B with | false => rfl | true => exact absurd (HBG.out.1 rfl) HB.out]; rfl, HB1.out⟩
                | true =>
                  have HN : Hid (Below w.heap.size w w1 ∧ ∀ x, x < j + 1 → Fx.right (lm (l.take i)) (f.fs.take x) (f.fs.getD x zf) = true) := Lib.hid ⟨HB1.out, fun x hx => by
                    rcases Nat.lt_succ_iff_lt_or_eq.1 hx with h | rfl
                    · exact HT.out.2 x h
                    · exact HR.out⟩
                  clear HT
                  go_wp2_with fail
                  go_roundw
                  case rel => exact ⟨j + 1, by omega, by go_num, HN⟩
                  case measure => simp [intOf]; omega
              · obtain rfl : j = m := by omega
                have HLS := Lib.hid (leasts_any (.slice (some ⟨b, off, none⟩) (i + 1) c) (l.take i ++ [f]) wr hV2 (by simp; omega))
                have HTR := Lib.hid HT.out
                clear hV2 hK HT
                go_wp2_with fail
                refine HLS.out.mono ?_
                rintro e w1 ⟨⟨u, rfl, hown⟩, hb1⟩
                have hlt : (l.take i).length = i := by rw [List.length_take]; omega
                have hll : ((rls (l.take i ++ [f]) []).map (·.2)).length = i + 1 := by rw [List.length_map, rls_len]; simp; omega
                obtain ⟨qa, qc, rfl, hq0⟩ := hown.at_
                rw [hll] at hq0 ⊢
                rcases hq0 with hq0 | ⟨qb, rfl, -, lqb, hq1, hq2, hqat⟩
                · omega
                have p0 := hqat i (by omega)
                have hval : ((rls (l.take i ++ [f]) []).map (·.2)).getD i 0 = ls (lm (l.take i)) f.fs := by
                  have h1 := rls_last (d := l.take i) (f := f) HOK.out (by have := HG.out.2.2.2.1; rw [← HF.out.1] at this; omega) (fun k hk => HTR.out.2 k (by have := HF.out.2.1; omega))
                  rw [hlt] at h1
                  rw [← h1]
                  simp [List.getD]
                  cases (rls (l.take i ++ [f]) [])[i]? <;> rfl
                rw [hval] at p0
                obtain ⟨Z, hZ⟩ : ∃ Z, Z = ls (lm (l.take i)) f.fs := ⟨_, rfl⟩
                rw [← hZ] at p0
                have HZ := Lib.hid hZ
                have HB9 := Lib.hid (HTR.out.1.trans (hb1.mono HTR.out.1.size))
                unfold maxLen at hq2
                clear hown hval hZ hb1 hqat HLS
                by_cases hbig : 65536 < Z
                · have HB : Hid (¬ Bg l) := Lib.hid fun h => by
                    have := (h.2 i hil).len
                    rw [← HF.out.1, ← HZ.out] at this
                    omega
                  go_wp2_with fail
                  go_ret
                  exact ⟨by rw [show B = false from by cases B with | false => rfl | true => exact absurd (HBG.out.1 rfl) HB.out]; rfl, HB9.out⟩
                · have HN : Hid (Below w.heap.size w w1 ∧ ∀ x, x < i + 1 → St1 l x) := Lib.hid ⟨HB9.out, fun x hx => by
                    rcases Nat.lt_succ_iff_lt_or_eq.1 hx with h | rfl
                    · exact HC.out.2 x h
                    · obtain ⟨s1, s2, s3, s4, s5⟩ := HG.out
                      refine ⟨s1, s2, s3, s4, s5, fun k hk => ?_, ?_⟩
                      · rw [← HF.out.1] at hk ⊢
                        exact HTR.out.2 k (by have := HF.out.2.1; omega)
                      · rw [← HF.out.1, ← HZ.out]; omega⟩
                  clear HC HTR
                  go_wp2_with fail
                  go_roundw
                  case rel => exact ⟨i + 1, by omega, by go_num, HN⟩
                  case measure => simp [intOf]; omega
      · obtain rfl : i = n := by omega
        have HB : Hid (Bg l) := Lib.hid ⟨by have := HV.out.2.1; omega, fun x hx => HJ.out.2 x (by have := HV.out.2.1; omega)⟩
        have HB9 := Lib.hid HJ.out.1
        clear HJ
        go_wp2_with fail
        go_ret
        exact ⟨by rw [HBG.out.2 HB.out]; rfl, HB9.out⟩
  · have h6 : (60 : Int) < n := by omega
    have HB : Hid (¬ Bg l) := Lib.hid fun h => h60 (by rw [HV.out.2.1]; exact h.1)
    go_enter Tryz.func54, Tryz.ntmps54
    go_wp2_with fail
    go_ret
    exact ⟨by rw [show B = false from by cases B with | false => rfl | true => exact absurd (HBG.out.1 rfl) HB.out]; rfl, Below.refl _ _⟩
theorem rValid_any (v : Value) (l : List Fm) (q : Bool) (w : World) (hV : FmsAt (· < w.heap.size) w v l) (hI : IntsL l) (hl : l.length ≤ 1000) (hq : vd l = q) :
    Calls Tryz.prog 34 #[v] w fun e w' => e = .returned (.bool q) ∧ Below w.heap.size w w' := by
  obtain ⟨B, hB⟩ : ∃ B : Bool, (B = true ↔ Bg l) := ⟨@decide (Bg l) (Classical.propDecidable _), by simp⟩
  have HB := Lib.hid (And.intro (rbegins_any v l B w hB hV hI hl) hB)
  have hQ : q = (B && (decide (l.length = 0) || decide (1 ≤ (l.getD (l.length - 1) zm).fs.length))) := by
    rw [← hq, Bool.eq_iff_iff, vd_iff, ok_bg, Bool.and_eq_true, Bool.or_eq_true, decide_eq_true_eq, decide_eq_true_eq, hB]
  obtain ⟨a, c, rfl, hlc⟩ := hV.slice_
  obtain ⟨n, hn⟩ : ∃ n, n = l.length := ⟨_, rfl⟩
  rw [← hn] at hV hlc hl hQ HB ⊢
  have HV := Lib.hid (And.intro hV hn)
  clear hV hn hq hB hI
  cases B with
  | false =>
    have HQ : Hid (q = false) := Lib.hid (by rw [hQ]; rfl)
    clear hQ
    go_enter Tryz.func34, Tryz.ntmps34
    go_wp2_with fail
    refine HB.out.1.mono ?_
    rintro e w1 ⟨rfl, hb⟩
    have HB1 := Lib.hid hb
    clear hb
    go_wp2_with fail
    go_ret
    exact ⟨by rw [HQ.out]; rfl, HB1.out⟩
  | true =>
    by_cases h0 : n = 0
    · have HQ : Hid (q = true) := Lib.hid (by rw [hQ, decide_eq_true h0]; rfl)
      subst h0
      clear hQ
      go_enter Tryz.func34, Tryz.ntmps34
      go_wp2_with fail
      refine HB.out.1.mono ?_
      rintro e w1 ⟨rfl, hb⟩
      have HB1 := Lib.hid hb
      clear hb
      go_wp2_with fail
      go_ret
      exact ⟨by rw [HQ.out]; rfl, HB1.out⟩
    · obtain ⟨m, rfl⟩ : ∃ m, n = m + 1 := ⟨n - 1, by omega⟩
      obtain ⟨b, off, rfl, -, hbl, -, m1, m2, hfm⟩ := HV.out.1.at_ (by have := HV.out.2; omega)
      obtain ⟨u, hu⟩ := hfm m (by have := HV.out.2; omega)
      obtain ⟨ua, uc, rfl, hucl⟩ := hu.fs.slice_
      rw [show m + 1 - 1 = m by omega] at hQ
      obtain ⟨f, hf⟩ : ∃ f, f = l.getD m zm := ⟨_, rfl⟩
      rw [← hf] at hu hQ hucl
      obtain ⟨x, hx⟩ : ∃ x, x = f.fs.length := ⟨_, rfl⟩
      rw [← hx] at hu hQ hucl
      have c1 := hu.c1
      have lb := World.block_lt_of_cell? (h := c1)
      have hd0 : ((m + 1 : Nat) : Int) - 1 = m := by omega
      have hd1 : (((m + 1 : Nat) : Int) == 0) = false := by rw [beq_eq_false_iff_ne]; omega
      have hm1 : (m : Int) + 1 - 1 = m := by omega
      have hm2 : (((m : Int) + 1) == 0) = false := by rw [beq_eq_false_iff_ne]; omega
      have HQ : Hid (q = decide (0 < x)) := Lib.hid (by
        rw [hQ, decide_eq_false (p := m + 1 = 0) (by omega), Bool.true_and, Bool.false_or]
        exact dd (by omega))
      unfold maxLen at m2 hucl
      have HC1 := Lib.hid c1
      clear hf hx hu hfm hQ h0
      go_enter Tryz.func34, Tryz.ntmps34
      go_wp2_with fail
      refine HB.out.1.mono ?_
      rintro e w1 ⟨rfl, hb⟩
      have HB1 := Lib.hid hb
      have c2 : w1.cell? ⟨b, off + m * 2 + 1, none⟩ = some (.slice ua x uc) := (hb.cell (p := ⟨b, off + m * 2 + 1, none⟩) lb).trans HC1.out
      clear hb
      go_wp2_with fail
      go_ret
      exact ⟨by rw [HQ.out]; rfl, HB1.out⟩
end RefD
section RefE
open Go.RowKit Go.Shelf Fx Go.Sort

/-- The least length that the reference's search finds. -/
theorem least_idx {l : List Fm} (h : Ok l) {i : Nat} (hi : i < l.length) : ((rls l []).map (·.2)).getD i 0 = least l (l.getD i zm).id := by
  have h1 := (rls_at h hi).1
  unfold least
  rw [if_pos (vd_iff.2 h), ← h1]
  simp [List.getD]
  cases (rls l [])[i]? <;> rfl
theorem least_not {l : List Fm} {id : Int} (h : ∀ i, i < l.length → (l.getD i zm).id ≠ id) : least l id = 0 := by
  unfold least
  split
  · unfold lkz
    cases hk : lk (lm l) id with
    | none => rfl
    | some v =>
      obtain ⟨f, hf, he⟩ := lk_ids hk
      obtain ⟨i, hi, rfl⟩ := List.getElem_of_mem hf
      have := h i hi
      simp [List.getD, List.getElem?_eq_getElem hi] at this
      exact absurd he this
  · rfl
set_option maxHeartbeats 1000000 in
theorem rLeast_any (v : Value) (l : List Fm) (id r : Int) (w : World) (hV : FmsAt (· < w.heap.size) w v l) (hI : IntsL l) (hl : l.length ≤ 1000) (hr : least l id = r) :
    Calls Tryz.prog 51 #[v, .int .i64 id] w fun e w' => e = .returned (.int .i64 r) ∧ Below w.heap.size w w' := by
  obtain ⟨q, hq⟩ : ∃ q, vd l = q := ⟨_, rfl⟩
  have HVA := Lib.hid (rValid_any v l q w hV hI hl hq)
  have HLS := Lib.hid (fun w1 (hb : Below w.heap.size w w1) => leasts_any v l w1 ((hV.kept (Kept.of_below hb fun _ h => h)).mono fun g hg => Nat.lt_of_lt_of_le hg hb.size) hl)
  obtain ⟨a, c, rfl, hlc⟩ := hV.slice_
  obtain ⟨n, hn⟩ : ∃ n, n = l.length := ⟨_, rfl⟩
  rw [← hn] at hV hlc hl HVA HLS ⊢
  have HV := Lib.hid (And.intro hV (And.intro hn (And.intro hq hr)))
  clear hV hn hq hr hI
  go_enter Tryz.func51, Tryz.ntmps51
  go_wp2_with fail
  refine HVA.out.mono ?_
  rintro e w1 ⟨rfl, hb1⟩
  have HB1 := Lib.hid hb1
  clear hb1
  go_wp2_with fail
  refine (HLS.out w1 HB1.out).mono ?_
  rintro e w2 ⟨⟨u, rfl, hown⟩, hb2⟩
  have hll : ((rls l []).map (·.2)).length = n := by rw [List.length_map, rls_len, HV.out.2.1]; simp
  obtain ⟨qa, qc, rfl, hq0⟩ := hown.at_
  rw [hll] at hq0 ⊢
  have HO := Lib.hid (And.intro hq0 (HB1.out.trans (hb2.mono HB1.out.size)))
  clear hown hq0 hb2
  cases q with
  | false =>
    have HR : Hid (r = 0) := Lib.hid (by
      rw [← HV.out.2.2.2]; unfold least; rw [HV.out.2.2.1]; rfl)
    go_wp2_with fail
    refine wp_loop_rounds 1 ?_
    rw [rounds_succ]
    go_wp2_with fail
    all_goals
      go_ret
      exact ⟨by rw [HR.out]; rfl, HO.out.2⟩
  | true =>
    go_wp2_with fail
    go_loop [7] (fun i => ∃ k : Nat, k ≤ n ∧ i = .int .i64 k ∧ Hid (∀ x, x < k → (l.getD x zm).id ≠ id)) (fun i => n - (intOf i).toNat)
    case atStart => exact ⟨0, Nat.zero_le _, rfl, Lib.hid fun x hx => absurd hx (by omega)⟩
    case round =>
      obtain ⟨k, hk, rfl, HI⟩ := hrel
      by_cases hlt : k < n
      · have hkl : k < l.length := by have := HV.out.2.1; omega
        obtain ⟨b, off, rfl, -, hbl, -, m1, m2, hfm⟩ := HV.out.1.at_ (by omega)
        obtain ⟨u, hu⟩ := hfm k hkl
        have c0 := (hu.kept (Kept.of_below HO.out.2 fun _ h => h) hbl).c0
        have lb := World.block_lt_of_cell? (h := c0)
        obtain ⟨X, hX⟩ : ∃ X, X = (l.getD k zm).id := ⟨_, rfl⟩
        rw [← hX] at c0
        have HX := Lib.hid hX
        unfold maxLen at m2
        clear hX hu hfm
        by_cases hx : X = id
        · have d1 : (X == id) = true := by rw [beq_iff_eq]; exact hx
          have hq0 := HO.out.1
          rcases hq0 with hq0 | ⟨qb, rfl, -, lqb, hq1, hq2, hqat⟩
          · omega
          have p0 := hqat k hlt
          obtain ⟨Z, hZ⟩ : ∃ Z, Z = ((rls l []).map (·.2)).getD k 0 := ⟨_, rfl⟩
          rw [← hZ] at p0
          have HR : Hid (r = Z) := Lib.hid (by
            rw [hZ, least_idx (vd_iff.1 HV.out.2.2.1) hkl, ← HX.out, hx, HV.out.2.2.2])
          unfold maxLen at hq2
          clear hx hqat hZ HI
          go_wp2_with fail
          go_ret
          exact ⟨by rw [HR.out]; rfl, HO.out.2⟩
        · have d1 : (X == id) = false := by rw [beq_eq_false_iff_ne]; exact hx
          have HN : Hid (∀ x, x < k + 1 → (l.getD x zm).id ≠ id) := Lib.hid fun x hx2 => by
            rcases Nat.lt_succ_iff_lt_or_eq.1 hx2 with h | rfl
            · exact HI.out x h
            · rw [← HX.out]; exact hx
          clear hx HI
          go_wp2_with fail
          refine ⟨⟨k + 1, by omega, by go_num, HN⟩, by simp [intOf]; omega⟩
      · obtain rfl : k = n := by omega
        have HR : Hid (r = 0) := Lib.hid (by
          rw [← HV.out.2.2.2]
          exact least_not fun i hi => HI.out i (by have := HV.out.2.1; omega))
        clear HI
        go_wp2_with fail
        go_ret
        exact ⟨by rw [HR.out]; rfl, HO.out.2⟩
end RefE
section RefF
open Go.RowKit Go.Shelf Fx Go.Sort

theorem rpick_any (c n r : Int) (w : World) (c1 : -9223372036854775808 ≤ c) (c2 : c ≤ 9223372036854775807) (n1 : 1 ≤ n) (n2 : n ≤ 9223372036854775807) (hr : pickI c n = r) :
    Calls Tryz.prog 52 #[.int .i64 c, .int .i64 n] w fun e w' => e = .returned (.int .i64 r) ∧ w' = w := by
  subst hr
  unfold pickI
  by_cases h : c < 0
  · rw [if_pos h]
    have e1 : (-(c + 1)).tmod n = (-(c + 1)) % n := Int.tmod_eq_emod_of_nonneg (by omega)
    go_enter Tryz.func52, Tryz.ntmps52
    go_wp2_with fail
    go_ret
    exact ⟨rfl, rfl⟩
  · rw [if_neg h]
    have e1 : c.tmod n = c % n := Int.tmod_eq_emod_of_nonneg (by omega)
    go_enter Tryz.func52, Tryz.ntmps52
    go_wp2_with fail
    go_ret
    exact ⟨rfl, rfl⟩
set_option maxHeartbeats 1000000 in
theorem rfree_any (v : Value) (fs : List Fld) (w : World) (hV : FldsAt w v fs) (hl : fs.length ≤ 1000) :
    Calls Tryz.prog 53 #[v] w fun e w' => (∃ o : Int, e = .returned (.int .i64 o) ∧ -1 ≤ o ∧ o ≤ 1000) ∧ w' = w := by
  obtain ⟨a, c, rfl, hlc⟩ := hV.slice_
  obtain ⟨n, hn⟩ : ∃ n, n = fs.length := ⟨_, rfl⟩
  rw [← hn] at hV hlc hl ⊢
  have HV := Lib.hid (And.intro hV hn)
  clear hV hn
  go_enter Tryz.func53, Tryz.ntmps53
  go_wp2_with fail
  go_loop [3] (fun i => ∃ k : Int, -1 ≤ k ∧ k < n ∧ i = .int .i64 k) (fun i => (intOf i + 1).toNat)
  case atStart => exact ⟨(n : Int) - 1, by omega, by omega, rfl⟩
  case round =>
    obtain ⟨k, hk1, hk2, rfl⟩ := hrel
    by_cases hk : 0 ≤ k
    · obtain ⟨kn, rfl⟩ : ∃ kn : Nat, k = kn := ⟨k.toNat, by omega⟩
      obtain ⟨b, off, rfl, -, lb, m1, m2, hfl⟩ := HV.out.1.at_ (by have := HV.out.2; omega)
      have c0 := (hfl kn (by have := HV.out.2; omega)).c0
      obtain ⟨KD, hKD⟩ : ∃ KD, KD = (fs.getD kn zf).kind := ⟨_, rfl⟩
      rw [← hKD] at c0
      have hkn : kn < n := by omega
      unfold maxLen at m2
      have HFL := Lib.hid hfl
      clear hKD hfl
      go_wp2_with fail
      go_loop [4, 5] (fun u j => ∃ (x : Nat) (q : Bool), x ≤ n ∧ j = .int .i64 x ∧ u = .bool q) (fun _ j => n - (intOf j).toNat)
      case atStart => exact ⟨kn + 1, _, by omega, by go_num, rfl⟩
      case round =>
        obtain ⟨x, q, hx, rfl, rfl⟩ := hrel
        by_cases hxn : x < n
        · have c2 := (HFL.out x (by have := HV.out.2; omega)).c2
          cases q with
          | true =>
            go_wp2_with fail
            refine ⟨⟨x + 1, true, by omega, by go_num, rfl⟩, by simp [intOf]; omega⟩
          | false =>
            go_wp2_with fail
            refine ⟨⟨x + 1, _, by omega, by go_num, rfl⟩, by simp [intOf]; omega⟩
        · obtain rfl : x = n := by omega
          cases q with
          | true =>
            go_wp2_with fail
            refine ⟨⟨(kn : Int) - 1, by omega, by omega, by go_num⟩, by simp [intOf]⟩
          | false =>
            go_wp2_with fail
            go_ret
            exact ⟨⟨kn, rfl, by omega, by omega⟩, rfl⟩
    · have hkm : k = -1 := by omega
      subst hkm
      go_wp2_with fail
      go_ret
      exact ⟨⟨-1, rfl, by omega, by omega⟩, rfl⟩
end RefF
section RefG
open Go.RowKit Go.Shelf Fx Go.Sort
end RefG
end Go.Proofs.YtdndmhlmbpgdeaaGreatDoor
