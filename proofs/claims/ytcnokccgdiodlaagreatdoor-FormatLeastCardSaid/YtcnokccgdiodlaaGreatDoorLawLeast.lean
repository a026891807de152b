/- The law FormatLeast: it returns true. Conditions: a list of four-number rows that can be read; two ints; what the functions of texts read of memory. -/
import Derived.Test.YtcnokccgdiodlaaGreatDoorLawSane
import Derived.Test.YtcnokccgdiodlaaGreatDoorRefRow
import Derived.Test.YtcnokccgdiodlaaGreatDoorLawTabs
import Derived.Test.YtcnokccgdiodlaaGreatDoorRefI
import Derived.Lib.QuietBelow
namespace Go.Proofs.YtcnokccgdiodlaaGreatDoor
open Go.RowKit Go.Shelf Fx Go.Sort

/-- What stands behind the making of the two tables. -/
structure TwoT (w w' : World) (L : List Fm) (p q : Int) (u m n : Value) : Prop where
  b : Below w.heap.size w w'
  l : FmsAt (· < w'.heap.size) w' u L
  m : FmsAt (· < w'.heap.size) w' m (L ++ [fiveH p q])
  n : FmsAt (· < w'.heap.size) w' n ((L ++ [fiveH p q]) ++ [fiveI])
theorem TwoT.below {w w' w2 : World} {L : List Fm} {p q : Int} {u m n : Value} (h : TwoT w w' L p q u m n) (hb : Below w'.heap.size w' w2) : TwoT w w2 L p q u m n :=
  ⟨h.b.trans (hb.mono h.b.size), h.l.below hb, h.m.below hb, h.n.below hb⟩
theorem ints_app {L : List Fm} {f : Fm} (h : IntsL L) (hf : IntsM f) : IntsL (L ++ [f]) := fun i hi => by
  rcases getD_snoc (z := zm) hi with ⟨h1, e⟩ | ⟨_, e⟩
  · rw [e]; exact h i h1
  · rw [e]; exact hf
theorem ints_H {p q : Int} (hp : 0 ≤ p ∧ p ≤ 1000) (hq : 0 ≤ q ∧ q ≤ 1000) : IntsM (fiveH p q) :=
  ⟨by show (-9223372036854775808 : Int) ≤ 500 ∧ (500 : Int) ≤ 9223372036854775807; decide, fun k hk => by
    have hk4 : k < 4 := hk
    obtain rfl | rfl | rfl | rfl : k = 0 ∨ k = 1 ∨ k = 2 ∨ k = 3 := by omega
    · show Ints ⟨2, 3, -1, eb⟩
      exact ⟨by decide, by decide, by decide, by decide, by decide, by decide, by decide⟩
    · show Ints ⟨2, 3, -1, eb⟩
      exact ⟨by decide, by decide, by decide, by decide, by decide, by decide, by decide⟩
    · exact (mkF_of (k := 5) (n := p) (f := 0) (by omega) (by omega) (by omega) (by omega) (by omega) (by omega) (fun h => absurd h (by omega))).ints
    · exact (mkF_of (k := 5) (n := q) (f := 1) (by omega) (by omega) (by omega) (by omega) (by omega) (by omega) (fun h => absurd h (by omega))).ints⟩
theorem ints_I : IntsM fiveI :=
  ⟨by decide, fun k hk => by
    have hk4 : k < 2 := hk
    obtain rfl | rfl : k = 0 ∨ k = 1 := by omega
    all_goals exact ⟨by decide, by decide, by decide, by decide, by decide, by decide, by decide⟩⟩
set_option maxRecDepth 100000 in
set_option maxHeartbeats 4000000 in
theorem least_law (v : Value) (n : Nat) (a b : Int) (er : Addr) (w : World) (hQ : QsAt w v n) (a1 : -9223372036854775808 ≤ a) (a2 : a ≤ 9223372036854775807) (b1 : -9223372036854775808 ≤ b) (b2 : b ≤ 9223372036854775807) (hT : Txt w er) :
    Calls Tryz.prog 10 #[v, .int .i64 a, .int .i64 b] w fun e w' => e = .returned (.bool true) ∧ Below w.heap.size w w' := by
  have HT := Lib.hid hT
  have HQ := Lib.hid (And.intro hQ (And.intro (And.intro a1 a2) (And.intro b1 b2)))
  clear hT hQ a1 a2 b1 b2
  go_enter Tryz.func10, Tryz.ntmps10
  go_wp2_with fail
  refine (sane_any er w HT.out).mono ?_
  rintro e w1 ⟨rfl, hB⟩
  have B1 : Hid (Below w.heap.size w w1) := Lib.hid hB
  clear hB
  go_wp2_with fail
  refine (rMake_any v n w1 (HQ.out.1.below B1.out)).mono ?_
  rintro e w2 ⟨⟨u, L, rfl, hM, vs, hO⟩, hB⟩
  have B2 : Hid (Below w.heap.size w w2) := Lib.hid (B1.out.trans (hB.mono B1.out.size))
  have hV := hO.fms
  obtain ⟨m, hm⟩ : ∃ m, m = L.length := ⟨_, rfl⟩
  have hm6 : m ≤ 6 := by rw [hm]; exact hM.few
  have hcases : u = .slice none 0 0 ∧ m = 0 ∨ ∃ b cp, u = .slice (some ⟨b, 0, none⟩) m cp ∧ m ≤ cp ∧ cp ≤ 9223372036854775807 := by
    rcases hO.row.2 with ⟨h, h0⟩ | ⟨g, cap, cur, rfl, _, _, hl, hx, _⟩
    · exact .inl ⟨h, by omega⟩
    · exact .inr ⟨g, cap, by rw [hm], by omega, by unfold maxLen at hx; omega⟩
  have HM := Lib.hid (And.intro hM (And.intro hm (And.intro hV hO.rowM)))
  clear hB hO hV hM hm B1
  by_cases hm0 : m = 0
  · subst hm0
    have hlen0 : ∃ x c, u = .slice x 0 c := by
      rcases hcases with ⟨h, _⟩ | ⟨b, cp, h, _⟩
      · exact ⟨_, _, h⟩
      · exact ⟨_, _, h⟩
    obtain ⟨x, c, rfl⟩ := hlen0
    go_wp2_with fail
    go_ret
    exact ⟨rfl, B2.out⟩
  · obtain ⟨ub, cp, rfl, h1, h2⟩ : ∃ b cp, u = .slice (some ⟨b, 0, none⟩) m cp ∧ m ≤ cp ∧ cp ≤ 9223372036854775807 := by
      rcases hcases with ⟨_, h⟩ | h
      · exact absurd h hm0
      · exact h
    obtain ⟨x, hx⟩ : ∃ x, pickI a (m : Int) = x := ⟨_, rfl⟩
    have hx0 : 0 ≤ x := by rw [← hx]; exact pickI_lo (by omega)
    have hx1 : x < (m : Int) := by rw [← hx]; exact pickI_hi (by omega)
    obtain ⟨y, hy⟩ : ∃ y, pickI b (m : Int) = y := ⟨_, rfl⟩
    have hy0 : 0 ≤ y := by rw [← hy]; exact pickI_lo (by omega)
    have hy1 : y < (m : Int) := by rw [← hy]; exact pickI_hi (by omega)
    obtain ⟨i, rfl⟩ : ∃ i : Nat, x = i := ⟨x.toNat, by omega⟩
    obtain ⟨j, rfl⟩ : ∃ j : Nat, y = j := ⟨y.toNat, by omega⟩
    have him : i < m := by omega
    have hjm : j < m := by omega
    have hil : i < L.length := by have := HM.out.2.1; omega
    have hjl : j < L.length := by have := HM.out.2.1; omega
    have HXY := Lib.hid (And.intro hx hy)
    have hm1 : ¬ ((m : Int) = 0) := by omega
    have hmi : ((m : Int) == 0) = false := by rw [beq_eq_false_iff_ne]; omega
    clear hx hy hcases hm0
    obtain ⟨b', off', e0, -, -, lb, -, -, hfm⟩ := HM.out.2.2.1.at_ (by omega)
    cases e0
    obtain ⟨ui, hui⟩ := hfm i hil
    obtain ⟨uj, huj⟩ := hfm j hjl
    have ci := hui.c0
    have cj := huj.c0
    obtain ⟨P, hP⟩ : ∃ P, P = (L.getD i zm).id := ⟨_, rfl⟩
    obtain ⟨Q, hQ⟩ : ∃ Q, Q = (L.getD j zm).id := ⟨_, rfl⟩
    rw [← hP, Nat.zero_add] at ci
    rw [← hQ, Nat.zero_add] at cj
    have bP : 0 ≤ P ∧ P ≤ 1000 := by have h := HM.out.1.ids i hil; have := HM.out.2.1; rw [hP]; omega
    have bQ : 0 ≤ Q ∧ Q ≤ 1000 := by have h := HM.out.1.ids j hjl; have := HM.out.2.1; rw [hQ]; omega
    obtain ⟨RA, hRA⟩ : ∃ RA, least L P = RA := ⟨_, rfl⟩
    obtain ⟨RB, hRB⟩ : ∃ RB, least L Q = RB := ⟨_, rfl⟩
    have hadd := least_adds HM.out.1 hil hjl
    rw [← hP, ← hQ, hRA, hRB] at hadd
    have rA : 0 ≤ RA ∧ RA ≤ 100000 := by
      rw [← hRA]; unfold least
      have := HM.out.1.ok.fine.lkz P
      split <;> omega
    have rB : 0 ≤ RB ∧ RB ≤ 100000 := by
      rw [← hRB]; unfold least
      have := HM.out.1.ok.fine.lkz Q
      split <;> omega
    have HAD := Lib.hid (And.intro hadd (And.intro hRA hRB))
    have HPQ := Lib.hid (And.intro bP bQ)
    clear hadd hRA hRB hP hQ hui huj hfm
    go_wp2_with fail
    refine (lpick_any a _ _ w2 HQ.out.2.1.1 HQ.out.2.1.2 (by omega) (by omega) HXY.out.1).mono ?_
    rintro e w' ⟨rfl, rfl⟩
    obtain ⟨w2, rfl⟩ : ∃ w2, w2 = w' := ⟨_, rfl⟩
    go_wp2_with fail
    refine (lpick_any b _ _ w2 HQ.out.2.2.1 HQ.out.2.2.2 (by omega) (by omega) HXY.out.2).mono ?_
    rintro e w' ⟨rfl, rfl⟩
    obtain ⟨w2, rfl⟩ : ∃ w2, w2 = w' := ⟨_, rfl⟩
    have hlm : L.length = m := HM.out.2.1.symm
    obtain ⟨nw, hn1, hn2, hn3, hn4⟩ := copy_ready HM.out.2.2.1 hlm (by omega)
    have HN := Lib.hid (And.intro hn1 (And.intro hn2 (And.intro hn3 hn4)))
    have hl2 : (L ++ [fiveH P Q]).length = m + 1 := by rw [List.length_append, hlm]; rfl
    clear hn1 hn2 hn3 hn4 ci
    go_wp2_with (first
      | (at_builtin; refine wpList_append_fms rfl (.tmp 36) (.tmp 37) rfl (.slice (some ⟨w2.heap.size, 0, none⟩) 0 0) 0 [] rfl (own_empty w2) ⟨ub, 0, none⟩ m cp (flatM L nw) rfl HN.out.1 HN.out.2.1 HN.out.2.2.1 (by omega) ?_; intro v1 wA hG1; have C1 := Lib.hid (HN.out.2.2.2 v1 wA hG1); have D1 := Lib.hid (C1.out.snoc_ready (fiveH P Q) #[.int .i64 2, .int .i64 3, .int .i64 (-1), .string ⟨#[]⟩, .int .i64 2, .int .i64 3, .int .i64 (-1), .string ⟨#[]⟩, .int .i64 5, .int .i64 P, .int .i64 0, .string ⟨#[]⟩, .int .i64 5, .int .i64 Q, .int .i64 1, .string ⟨#[]⟩] 4 m hlm rfl rfl (by decide) (by decide)); clear hG1)
      | (at_builtin; refine wpList_append_fmt rfl (.tmp 38) (.tmp 47) rfl v1 m (flatM L nw) rfl D1.out.1 (by omega) (wA.heap.size + 1) 500 (.slice (some ⟨wA.heap.size, 0, none⟩) 4 4) rfl rfl D1.out.2.1 ?_; intro v2 wB hG2; have C2 := Lib.hid (D1.out.2.2 v2 wB hG2); obtain ⟨g2, k2, rfl, e1, e2⟩ := C2.out.slice_ hl2 (by omega); obtain ⟨nw2, hn1, hn2, hn3, hn4⟩ := copy_ready C2.out.fms hl2 (by omega); have HN2 := Lib.hid (And.intro hn1 (And.intro hn2 (And.intro hn3 hn4))); clear hG2 hn1 hn2 hn3 hn4)
      | (at_builtin; refine wpList_append_fms rfl (.tmp 49) (.tmp 50) rfl (.slice (some ⟨wB.heap.size, 0, none⟩) 0 0) 0 [] rfl (own_empty wB) ⟨g2, 0, none⟩ (m + 1) k2 (flatM (L ++ [fiveH P Q]) nw2) rfl HN2.out.1 HN2.out.2.1 HN2.out.2.2.1 (by omega) ?_; intro v3 wC hG3; have C3 := Lib.hid (HN2.out.2.2.2 v3 wC hG3); have D3 := Lib.hid (C3.out.snoc_ready fiveI #[.int .i64 2, .int .i64 1, .int .i64 (-1), .string ⟨#[]⟩, .int .i64 4, .int .i64 500, .int .i64 0, .string ⟨#[]⟩] 2 (m + 1) hl2 rfl rfl (by decide) (by decide)); clear hG3)
      | (at_builtin; refine wpList_append_fmt rfl (.tmp 51) (.tmp 56) rfl v3 (m + 1) (flatM (L ++ [fiveH P Q]) nw2) rfl D3.out.1 (by omega) (wC.heap.size + 1) 501 (.slice (some ⟨wC.heap.size, 0, none⟩) 2 2) rfl rfl D3.out.2.1 ?_; intro v4 wD hG4; have C4 := Lib.hid (D3.out.2.2 v4 wD hG4); obtain ⟨g4, k4, rfl, e3, e4⟩ := C4.out.slice_ (n := m + 2) (by rw [List.length_append, hl2]; rfl) (by omega); clear hG4))
    have hbD : Below w2.heap.size w2 wD := C2.out.b.trans (C4.out.b.mono C2.out.b.size)
    have T0 : Hid (TwoT w wD L P Q (.slice (some ⟨ub, 0, none⟩) m cp) (.slice (some ⟨g2, 0, none⟩) (m + 1) k2) (.slice (some ⟨g4, 0, none⟩) (m + 2) k4)) := Lib.hid ⟨B2.out.trans (hbD.mono B2.out.size), HM.out.2.2.1.below hbD, C2.out.fms.below C4.out.b, C4.out.fms⟩
    have I1 : Hid (IntsL L) := Lib.hid HM.out.1.ints
    have I2 : Hid (IntsL (L ++ [fiveH P Q])) := Lib.hid (ints_app I1.out (ints_H HPQ.out.1 HPQ.out.2))
    have I3 : Hid (IntsL ((L ++ [fiveH P Q]) ++ [fiveI])) := Lib.hid (ints_app I2.out ints_I)
    have hs : 6 + RA + RB = 6 + (RA + RB) := by omega
    clear hbD C1 D1 C2 HN2 C3 D3 C4 HN cj
    refine (Least_any _ (L ++ [fiveH P Q]) 500 _ er wD (HT.out.below T0.out.b).err T0.out.m I2.out (by omega) (by omega) HAD.out.1.2.1).mono ?_
    rintro e wx0 ⟨rfl, hB⟩
    have T1 := Lib.hid (T0.out.below hB)
    clear hB T0
    go_wp2_with fail
    refine (Least_any _ L P RA er wx0 (HT.out.below T1.out.b).err T1.out.l I1.out (by have := HPQ.out.1; omega) (by have := HPQ.out.1; omega) HAD.out.2.1).mono ?_
    rintro e wx1 ⟨rfl, hB⟩
    have T2 := Lib.hid (T1.out.below hB)
    clear hB T1
    go_wp2_with fail
    refine (Least_any _ L Q RB er wx1 (HT.out.below T2.out.b).err T2.out.l I1.out (by have := HPQ.out.2; omega) (by have := HPQ.out.2; omega) HAD.out.2.2).mono ?_
    rintro e wx2 ⟨rfl, hB⟩
    have T3 := Lib.hid (T2.out.below hB)
    clear hB T2
    go_wp2_with fail
    refine (Least_any _ ((L ++ [fiveH P Q]) ++ [fiveI]) 501 1 er wx2 (HT.out.below T3.out.b).err T3.out.n I3.out (by omega) (by omega) HAD.out.1.2.2.1).mono ?_
    rintro e wx3 ⟨rfl, hB⟩
    have T4 := Lib.hid (T3.out.below hB)
    clear hB T3
    go_wp2_with fail
    refine (Least_any _ ((L ++ [fiveH P Q]) ++ [fiveI]) 500 _ er wx3 (HT.out.below T4.out.b).err T4.out.n I3.out (by omega) (by omega) (HAD.out.1.2.2.2.trans HAD.out.1.2.1)).mono ?_
    rintro e wx4 ⟨rfl, hB⟩
    have T5 := Lib.hid (T4.out.below hB)
    clear hB T4
    go_wp2_with fail
    refine (Least_any _ (L ++ [fiveH P Q]) 500 _ er wx4 (HT.out.below T5.out.b).err T5.out.m I2.out (by omega) (by omega) HAD.out.1.2.1).mono ?_
    rintro e wx5 ⟨rfl, hB⟩
    have T6 := Lib.hid (T5.out.below hB)
    clear hB T5
    go_wp2_with fail
    refine (Valid_any _ ((L ++ [fiveH P Q]) ++ [fiveI]) true er wx5 (HT.out.below T6.out.b).err T6.out.n I3.out HAD.out.1.1).mono ?_
    rintro e wy ⟨rfl, hB⟩
    have TZ := Lib.hid (T6.out.below hB)
    clear hB T6
    go_wp2_with fail
    go_ret
    exact ⟨rfl, TZ.out.b⟩
end Go.Proofs.YtcnokccgdiodlaaGreatDoor
