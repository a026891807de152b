/- The law FormatRoundTrip: it returns true. Conditions: a table and a list of four-number rows that can be read; five ints; what the functions of texts read of memory. -/
import Derived.Test.YtcnokccgdiodlaaGreatDoorLawBent
import Derived.Test.YtcnokccgdiodlaaGreatDoorRefI
namespace Go.Proofs.YtcnokccgdiodlaaGreatDoor
open Go.RowKit Go.Shelf Fx Go.Sort

theorem infoStr : (Tryz.prog.info? 9).map (fun i => (i.zero, i.size, i.bytes)) = some (some (.string ⟨#[]⟩), 1, 16) := by kernel_rfl
abbrev OwnS (w : World) (B : Nat) (v : Value) (ss : List ByteArray) : Prop := w.ownsRow B 9 1 v ss.length (ss.map fun s => Value.string s)
theorem OwnS.at_ {w : World} {B : Nat} {v : Value} {ss : List ByteArray} (h : OwnS w B v ss) : ∃ a c, v = .slice a ss.length c ∧ (ss.length = 0 ∨ ∃ b, a = some ⟨b, 0, none⟩ ∧ B ≤ b ∧ b < w.heap.size ∧ ss.length ≤ c ∧ c ≤ maxLen ∧ ∀ j, j < ss.length → w.cell? ⟨b, j, none⟩ = some (.string (ss.getD j ⟨#[]⟩))) := by
  rcases h.2 with ⟨rfl, h0⟩ | ⟨g, cap, cur, rfl, hg, hh, hl, hm, hs, ht⟩
  · exact ⟨none, 0, by rw [h0], .inl h0⟩
  · refine ⟨_, cap, rfl, .inr ⟨g, rfl, hg, lt_of_heap hh, hl, hm, fun j hj => ?_⟩⟩
    rw [cell_of_row w g j cur _ (0, 0) hh]
    have e : cur[j]? = (cur.toList.take (ss.length * 1))[j]? := by
      rw [List.getElem?_take, if_pos (by omega)]; simp
    rw [e, ht]
    simp [List.getD, List.getElem?_eq_getElem hj]
theorem run_append_str (w : World) (B : Nat) (ty : TypeId) (v : Value) (n : Nat) (xs : List Value) (hown : w.ownsRow B 9 1 v n xs) (hB : B ≤ w.heap.size) (hn : n ≤ 100000000) (g : Nat) (x : ByteArray) (hg : w.heap[g]? = some (.cells #[.string x] 9 (0, 0))) :
    ∃ v' w', (Builtin.append_ #[45, 45] ty #[v, .slice (some ⟨g, 0, none⟩) 1 1]).run Tryz.prog w = .ok v' w' ∧ Grew w w' B 9 1 v v' (n + 1) (xs ++ [.string x]) := by
  obtain ⟨i0, hi, hz0, hz1, hz2⟩ := info_parts infoStr
  obtain ⟨v', w', h1, h2, h3, _, h5⟩ := run_append_own_at (P := Tryz.prog) w B 45 ty 9 i0 _ 1 16 Tryz.underlying45 hi hz0 hz1 hz2 rfl (by decide) v n xs hown ⟨g, 0, none⟩ 1 1 [.string x] rfl
    (fun j y hy => by
      have hadd : (⟨g, 0, none⟩ : Addr).add j = ⟨g, j, none⟩ := by unfold Addr.add; split <;> simp_all
      rw [hadd, cell_of_row w g j _ _ _ hg]; simpa using hy)
    (fun y hy => by simp at hy; subst hy; rfl) (by unfold maxLen; omega) (by omega) hB
  exact ⟨v', w', h1, h2, h3, h5⟩
theorem wpList_append_str {ops : Array Oper} {rest : List Oper} {o : Oper} {a : Act} {w : World} {Q : Exit → Act → World → Prop}
    (hg : o.guard = none) (s x : Operand) (hop : o.op = Op.call { callee := Callee.builtin Builtin.append, args := #[s, x], argTypes := #[45, 45] })
    (B : Nat) (v : Value) (n : Nat) (xs : List Value) (hs : a.eval s = v) (hown : w.ownsRow B 9 1 v n xs) (hB : B ≤ w.heap.size) (hn : n ≤ 100000000) (g : Nat) (y : ByteArray) (hx : a.eval x = .slice (some ⟨g, 0, none⟩) 1 1)
    (hb : w.heap[g]? = some (.cells #[.string y] 9 (0, 0)))
    (hK : ∀ v' w', Grew w w' B 9 1 v v' (n + 1) (xs ++ [.string y]) → wpList Tryz.prog ops Q rest (a.put o.dst v') w') : wpList Tryz.prog ops Q (o :: rest) a w :=
  wpList_plain hg fun _ hK' => by
    obtain ⟨v', w', hr, h2⟩ := run_append_str w B o.type v n xs hown hB hn g y hb
    unfold Oper.wp
    simp [execOp, hop, resolve, invoke, builtin, hs, hx, hr, Result.andThen]
    exact hK' _ _ (hK _ _ h2)
/-- A row of tables. -/
structure Three (w0 w : World) (N G : Nat) (u : Nat → Value) (l : Nat → List Fm) : Prop where
  b : Below w0.heap.size w0 w
  c : ∀ k, k < N → w.cell? ⟨G, k, none⟩ = some (u k)
  f : ∀ k, k < N → FmsAt (· < w.heap.size) w (u k) (l k)
  i : ∀ k, k < N → IntsL (l k)
theorem Three.below {w0 w w' : World} {N G : Nat} {u : Nat → Value} {l : Nat → List Fm} (h : Three w0 w N G u l) (hb : Below w.heap.size w w') : Three w0 w' N G u l :=
  ⟨h.b.trans (hb.mono h.b.size), fun k hk => (hb.cell (p := ⟨G, k, none⟩) (World.block_lt_of_cell? (h := h.c k hk))).trans (h.c k hk), fun k hk => (h.f k hk).below hb, h.i⟩
def of3 {α : Type} (a b c : α) : Nat → α
  | 0 => a
  | 1 => b
  | _ => c
theorem Sm.size16 {l : List Fm} (_ : Sm l) (hv : vd l = true) : (text l).length ≤ 200000 := by
  have h := text_len (vd_iff.1 hv).nice l.length (Nat.le_refl _)
  rw [List.take_length] at h
  have := (vd_iff.1 hv).few
  omega
theorem text_small {l : List Fm} (hv : vd l = true) : (text l).length ≤ 200000 := by
  have h := text_len (vd_iff.1 hv).nice l.length (Nat.le_refl _)
  rw [List.take_length] at h
  have := (vd_iff.1 hv).few
  omega
set_option maxRecDepth 100000 in
set_option maxHeartbeats 8000000 in
theorem round_law (va vx : Value) (la : List Fm) (n : Nat) (h0 h1 h2 h3 h4 : Int) (er : Addr) (w : World) (hA : ArgM w va la) (hI : IntsL la) (hQ : QsAt w vx n) (hF0 : -9223372036854775808 ≤ h0 ∧ h0 ≤ 9223372036854775807) (hF1 : -9223372036854775808 ≤ h1 ∧ h1 ≤ 9223372036854775807) (hF2 : -9223372036854775808 ≤ h2 ∧ h2 ≤ 9223372036854775807) (hF3 : -9223372036854775808 ≤ h3 ∧ h3 ≤ 9223372036854775807) (hF4 : -9223372036854775808 ≤ h4 ∧ h4 ≤ 9223372036854775807) (hT : Txt w er) :
    Calls Tryz.prog 5 #[va, vx, .agg #[.int .i64 h0, .int .i64 h1, .int .i64 h2, .int .i64 h3, .int .i64 h4]] w fun e w' => e = .returned (.bool true) ∧ Below w.heap.size w w' := by
  have HT := Lib.hid hT
  have HV := Lib.hid (And.intro hA (And.intro hI (And.intro hQ (Five.mk hF0 hF1 hF2 hF3 hF4))))
  clear hT hA hI hQ hF0 hF1 hF2 hF3 hF4
  go_enter Tryz.func5, Tryz.ntmps5
  go_wp2_with fail
  obtain ⟨w0, hw0⟩ : ∃ w0, w0 = w.alloc (.cells #[.int .i64 h0, .int .i64 h1, .int .i64 h2, .int .i64 h3, .int .i64 h4] 24) := ⟨_, rfl⟩
  rw [← hw0]
  obtain ⟨HB, hHB⟩ : ∃ HB, HB = w.heap.size := ⟨_, rfl⟩
  rw [← hHB]
  have H0 : Hid (Below w.heap.size w w0 ∧ w0.heap[HB]? = some (.cells #[.int .i64 h0, .int .i64 h1, .int .i64 h2, .int .i64 h3, .int .i64 h4] 24 (0, 0))) := Lib.hid ⟨by rw [hw0]; exact bx _, by rw [hw0, hHB]; exact heap_alloc_new _ _⟩
  clear hw0 hHB
  refine (sane_any er w0 (HT.out.below H0.out.1)).mono ?_
  rintro e w1 ⟨rfl, hB⟩
  have H1 : Hid (Below w.heap.size w w1 ∧ w1.heap[HB]? = some (.cells #[.int .i64 h0, .int .i64 h1, .int .i64 h2, .int .i64 h3, .int .i64 h4] 24 (0, 0))) := Lib.hid ⟨H0.out.1.trans (hB.mono H0.out.1.size), (hB.block _ (lt_of_heap H0.out.2)).trans H0.out.2⟩
  clear hB H0
  go_wp2_with fail
  refine (rMake_any vx n w1 (HV.out.2.2.1.below H1.out.1)).mono ?_
  rintro e w2 ⟨⟨um, lm, rfl, hM, vs, hO⟩, hB⟩
  obtain ⟨ma, mc, rfl, -⟩ := hO.fms.slice_
  obtain ⟨mn, hmn⟩ : ∃ mn, mn = lm.length := ⟨_, rfl⟩
  rw [← hmn] at hO ⊢
  have H2 : Hid (Below w.heap.size w w2 ∧ w2.heap[HB]? = some (.cells #[.int .i64 h0, .int .i64 h1, .int .i64 h2, .int .i64 h3, .int .i64 h4] 24 (0, 0)) ∧ FmsAt (· < w2.heap.size) w2 (.slice ma mn mc) lm ∧ Mk lm) := Lib.hid ⟨H1.out.1.trans (hB.mono H1.out.1.size), (hB.block _ (lt_of_heap H1.out.2)).trans H1.out.2, hO.fms, hM⟩
  clear hB H1 hM hO hmn
  have c0 : w2.cell? ⟨HB, 0, none⟩ = some (.int .i64 h0) := cell_of_row _ _ _ _ _ _ H2.out.2.1
  have c1 : w2.cell? ⟨HB, 1, none⟩ = some (.int .i64 h1) := cell_of_row _ _ _ _ _ _ H2.out.2.1
  have c2 : w2.cell? ⟨HB, 2, none⟩ = some (.int .i64 h2) := cell_of_row _ _ _ _ _ _ H2.out.2.1
  have c3 : w2.cell? ⟨HB, 3, none⟩ = some (.int .i64 h3) := cell_of_row _ _ _ _ _ _ H2.out.2.1
  have c4 : w2.cell? ⟨HB, 4, none⟩ = some (.int .i64 h4) := cell_of_row _ _ _ _ _ _ H2.out.2.1
  have lH := lt_of_heap H2.out.2.1
  have HFW : Hid (∀ W : World, Below w2.heap.size w2 W → Calls Tryz.prog 13 #[va] W fun e w' => ∃ aa an ac la', e = .returned (.slice aa an ac) ∧ (FmsAt (· < w'.heap.size) w' (.slice aa an ac) la' ∧ Sm la') ∧ Below W.heap.size W w') := Lib.hid fun W hb => (few_any va la W ((HV.out.1.below H2.out.1).below hb) HV.out.2.1).mono fun e w' ⟨⟨u, L, he, hS, _, vs, hO, _⟩, hB⟩ => by
    obtain ⟨a, c, rfl, _⟩ := hO.fms.slice_
    exact ⟨a, _, c, L, he, ⟨hO.fms, hS⟩, hB⟩
  have HBT : Hid (∀ W : World, Below w2.heap.size w2 W → Calls Tryz.prog 14 #[.slice ma mn mc, .agg #[.int .i64 h0, .int .i64 h1, .int .i64 h2, .int .i64 h3, .int .i64 h4]] W fun e w' => ∃ ba bn bc lb, e = .returned (.slice ba bn bc) ∧ (FmsAt (· < w'.heap.size) w' (.slice ba bn bc) lb ∧ Sm lb) ∧ Below W.heap.size W w') := Lib.hid fun W hb => (bent_any _ lm h0 h1 h2 h3 h4 W ((ArgM.of_fms H2.out.2.2.1).below hb) H2.out.2.2.2.ints HV.out.2.2.2).mono fun e w' ⟨⟨u, he, L, h1, h2⟩, hB⟩ => by
    obtain ⟨a, c, rfl, _⟩ := h1.slice_
    exact ⟨a, _, c, L, he, ⟨h1, h2⟩, hB⟩
  go_wp2_with fail
  go_cut [9] from 21 to 27 (fun t wx => ∃ G u l, t = .slice (some ⟨G, 0, none⟩) 3 3 ∧ Hid (Three w wx 3 G u l))
  case first =>
    go_region_with (first
      | (go_at_call 13
         refine (HFW.out _ (by first | exact Below.refl _ _ | exact (Below.refl _ _).drew)).mono ?_
         rintro e w5 ⟨aa, an, ac, la', rfl, hA5, hB5⟩
         have hb25 : Below w2.heap.size w2 w5 := by first | exact hB5 | exact (Below.refl _ _).drew.trans hB5
         have d0 := (hb25.cell (p := ⟨HB, 0, none⟩) lH).trans c0
         have d1 := (hb25.cell (p := ⟨HB, 1, none⟩) lH).trans c1
         have d2 := (hb25.cell (p := ⟨HB, 2, none⟩) lH).trans c2
         have d3 := (hb25.cell (p := ⟨HB, 3, none⟩) lH).trans c3
         have d4 := (hb25.cell (p := ⟨HB, 4, none⟩) lH).trans c4)
      | (go_at_call 14
         refine (HBT.out _ hb25).mono ?_
         rintro e w6 ⟨ba, bn, bc, lb, rfl, hA6, hB6⟩))
    all_goals
      have HE : Hid (Three w (w6.alloc (.cells #[.slice aa an ac, .slice ma mn mc, .slice ba bn bc] 22)) 3 w6.heap.size (of3 (.slice aa an ac) (.slice ma mn mc) (.slice ba bn bc)) (of3 la' lm lb)) := Lib.hid (by
        have hb26 : Below w2.heap.size w2 w6 := hb25.trans (hB6.mono hb25.size)
        have ha := bx (w := w6) (.cells #[.slice aa an ac, .slice ma mn mc, .slice ba bn bc] 22)
        refine ⟨H2.out.1.trans ((hb26.trans (ha.mono hb26.size)).mono H2.out.1.size), fun k hk => ?_, fun k hk => ?_, fun k hk => ?_⟩
        · rw [cell_of_row _ _ _ _ _ _ (heap_alloc_new _ _)]
          obtain rfl | rfl | rfl : k = 0 ∨ k = 1 ∨ k = 2 := by omega
          all_goals rfl
        · obtain rfl | rfl | rfl : k = 0 ∨ k = 1 ∨ k = 2 := by omega
          · exact (hA5.1.below hB6).below ha
          · exact (H2.out.2.2.1.below hb26).below ha
          · exact hA6.1.below ha
        · obtain rfl | rfl | rfl : k = 0 ∨ k = 1 ∨ k = 2 := by omega
          · exact hA5.2.ints
          · exact H2.out.2.2.2.ints
          · exact hA6.2.ints)
      clear hA5 hB5 hA6 hB6 hb25 d0 d1 d2 d3 d4 c0 c1 c2 c3 c4
      go_wp2_with fail
      go_meet
      case rel => exact ⟨_, _, _, rfl, HE⟩
  case rest =>
    obtain ⟨G, u, l, rfl, HTH⟩ := hcut
    clear c0 c1 c2 c3 c4 HFW HBT lH H2
    obtain ⟨ws, rfl⟩ : ∃ ws, ws = wc := ⟨_, rfl⟩
    go_wp2_with fail
    go_loopw [10, 11] (fun t i wr => ∃ (x : Nat), x ≤ 3 ∧ i = .int .i64 x ∧ Hid (Below ws.heap.size ws wr ∧ OwnS wr ws.heap.size t ((List.range x).map fun k => printT (l k)))) (fun _ i _ => 3 - (intOf i).toNat)
    case atStart => exact ⟨0, by omega, rfl, Lib.hid ⟨Below.refl _ _, World.ownsRow_nil _ _ _ _⟩⟩
    case round =>
      obtain ⟨x, hx, rfl, HI⟩ := hrel
      obtain ⟨wo, rfl⟩ : ∃ wo, wo = wr := ⟨_, rfl⟩
      by_cases hx3 : x < 3
      · have T3 := Lib.hid (HTH.out.below HI.out.1)
        have uc := T3.out.c x hx3
        obtain ⟨ua, uuc, hU, -⟩ := (T3.out.f x hx3).slice_
        obtain ⟨un, hun⟩ : ∃ un, un = (l x).length := ⟨_, rfl⟩
        rw [← hun] at hU
        have HUF : Hid (FmsAt (· < wo.heap.size) wo (.slice ua un uuc) (l x) ∧ IntsL (l x) ∧ u x = .slice ua un uuc) := Lib.hid ⟨by rw [← hU]; exact T3.out.f x hx3, T3.out.i x hx3, hU⟩
        rw [hU] at uc
        obtain ⟨S, hS⟩ : ∃ S, printT (l x) = S := ⟨_, rfl⟩
        obtain ⟨z, hz⟩ : ∃ z, printE (l x) = z := ⟨_, rfl⟩
        obtain ⟨q, hq⟩ : ∃ q, vd (l x) = q := ⟨_, rfl⟩
        have HSZ := Lib.hid (And.intro hS (And.intro hz hq))
        have lu := World.block_lt_of_cell? (h := uc)
        obtain ⟨ta, tc, rfl, -⟩ := own_slice HI.out.2
        have HLS : Hid (((List.range (x + 1)).map fun k => printT (l k)) = ((List.range x).map fun k => printT (l k)) ++ [S]) := Lib.hid (by rw [List.range_succ, List.map_append, ← hS]; rfl)
        have hxl : ((List.range x).map fun k => printT (l k)).length = x := by simp
        clear hU hun hS hz hq
        go_wp2_with fail
        refine (Print_any _ (l x) S z er wo (HT.out.below T3.out.b) HUF.out.1 HUF.out.2.1 HSZ.out.1 HSZ.out.2.1).mono ?_
        rintro e w5 ⟨rfl, hB⟩
        have uc5 := (hB.cell (p := ⟨G, x, none⟩) lu).trans uc
        have H5 : Hid (Below ws.heap.size ws w5 ∧ OwnS w5 ws.heap.size (.slice ta ((List.range x).map fun k => printT (l k)).length tc) ((List.range x).map fun k => printT (l k)) ∧ FmsAt (· < w5.heap.size) w5 (.slice ua un uuc) (l x)) := Lib.hid ⟨HI.out.1.trans (hB.mono HI.out.1.size), ownsRow_below HI.out.2 hB, HUF.out.1.below hB⟩
        rw [hxl] at H5
        clear hB HI uc lu
        have lu5 := World.block_lt_of_cell? (h := uc5)
        cases q with
        | false =>
          have hz40 : z = 40 := by rw [← HSZ.out.2.1]; unfold printE; rw [HSZ.out.2.2]; rfl
          have hS0 : S = ⟨#[]⟩ := by rw [← HSZ.out.1]; unfold printT; rw [HSZ.out.2.2]; rfl
          subst hz40
          subst hS0
          go_wp2_with fail
          refine (Valid_any _ (l x) false er w5 ((HT.out.below HTH.out.b).below H5.out.1).err H5.out.2.2 HUF.out.2.1 HSZ.out.2.2).mono ?_
          rintro e w6 ⟨rfl, hB⟩
          have H6 : Hid (Below ws.heap.size ws w6 ∧ w6.ownsRow ws.heap.size 9 1 (.slice ta x tc) x (((List.range x).map fun k => printT (l k)).map fun s => Value.string s)) := Lib.hid ⟨H5.out.1.trans (hB.mono H5.out.1.size), by have h := ownsRow_below H5.out.2.1 hB; rw [hxl] at h; exact h⟩
          have HA : Hid ((w6.alloc (.cells #[.string ⟨#[]⟩] 9)).ownsRow ws.heap.size 9 1 (.slice ta x tc) x (((List.range x).map fun k => printT (l k)).map fun s => Value.string s) ∧ ws.heap.size ≤ (w6.alloc (.cells #[.string ⟨#[]⟩] 9)).heap.size) := Lib.hid ⟨ownsRow_below H6.out.2 (bx _), by have := H6.out.1.size; simp; omega⟩
          have HGE : Hid (∀ v1 wA, Grew (w6.alloc (.cells #[.string ⟨#[]⟩] 9)) wA ws.heap.size 9 1 (.slice ta x tc) v1 (x + 1) ((((List.range x).map fun k => printT (l k)).map fun s => Value.string s) ++ [.string ⟨#[]⟩]) → Hid (Below ws.heap.size ws wA ∧ OwnS wA ws.heap.size v1 ((List.range (x + 1)).map fun k => printT (l k)))) := Lib.hid fun v1 wA hG => Lib.hid ⟨(H6.out.1.alloc H6.out.1.size _).grown hG.grown HA.out.2 (fun g hg => (HA.out.1.lt g hg).1), by
            have h := hG.own
            unfold OwnS
            rw [HLS.out, List.length_append, List.map_append, hxl]
            exact h⟩
          clear hB H5 uc5 lu5
          go_wp2_with (at_builtin; refine wpList_append_str rfl (.tmp 62) (.tmp 64) rfl ws.heap.size (.slice ta x tc) x (((List.range x).map fun k => printT (l k)).map fun s => Value.string s) rfl HA.out.1 HA.out.2 (by omega) w6.heap.size ⟨#[]⟩ rfl (heap_alloc_new _ _) ?_; intro v1 wA hG; have HE := HGE.out v1 wA hG; clear hG)
          exact ⟨⟨x + 1, by omega, by go_num, HE⟩, by simp [intOf]; omega⟩
        | true =>
          have hz0 : z = 0 := by rw [← HSZ.out.2.1]; unfold printE; rw [HSZ.out.2.2]; rfl
          have hS0 : bs (text (l x)) = S := by rw [← HSZ.out.1]; unfold printT; rw [HSZ.out.2.2]; rfl
          subst hz0
          have HS0 := Lib.hid hS0
          clear hS0
          go_wp2_with fail
          refine (Valid_any _ (l x) true er w5 ((HT.out.below HTH.out.b).below H5.out.1).err H5.out.2.2 HUF.out.2.1 HSZ.out.2.2).mono ?_
          rintro e w6 ⟨rfl, hB⟩
          have H6 : Hid (Below ws.heap.size ws w6 ∧ w6.ownsRow ws.heap.size 9 1 (.slice ta x tc) x (((List.range x).map fun k => printT (l k)).map fun s => Value.string s)) := Lib.hid ⟨H5.out.1.trans (hB.mono H5.out.1.size), by have h := ownsRow_below H5.out.2.1 hB; rw [hxl] at h; exact h⟩
          have HA : Hid ((w6.alloc (.cells #[.string S] 9)).ownsRow ws.heap.size 9 1 (.slice ta x tc) x (((List.range x).map fun k => printT (l k)).map fun s => Value.string s) ∧ ws.heap.size ≤ (w6.alloc (.cells #[.string S] 9)).heap.size) := Lib.hid ⟨ownsRow_below H6.out.2 (bx _), by have := H6.out.1.size; simp; omega⟩
          have HGE : Hid (∀ v1 wA, Grew (w6.alloc (.cells #[.string S] 9)) wA ws.heap.size 9 1 (.slice ta x tc) v1 (x + 1) ((((List.range x).map fun k => printT (l k)).map fun s => Value.string s) ++ [.string S]) → Hid (Below ws.heap.size ws wA ∧ OwnS wA ws.heap.size v1 ((List.range (x + 1)).map fun k => printT (l k)))) := Lib.hid fun v1 wA hG => Lib.hid ⟨(H6.out.1.alloc H6.out.1.size _).grown hG.grown HA.out.2 (fun g hg => (HA.out.1.lt g hg).1), by
            have h := hG.own
            unfold OwnS
            rw [HLS.out, List.length_append, List.map_append, hxl]
            exact h⟩
          clear hB H5 uc5 lu5
          go_wp2_with (at_builtin; refine wpList_append_str rfl (.tmp 62) (.tmp 64) rfl ws.heap.size (.slice ta x tc) x (((List.range x).map fun k => printT (l k)).map fun s => Value.string s) rfl HA.out.1 HA.out.2 (by omega) w6.heap.size S rfl (heap_alloc_new _ _) ?_; intro v1 wA hG; have HE := HGE.out v1 wA hG; clear hG)
          have hPT : Hid (Calls Tryz.prog 26 #[.string S] wA fun e w' => (∃ a n c, e = .returned (.tuple #[.slice a n c, .int .i64 0, .int .i64 0]) ∧ FmsAt (· < w'.heap.size) w' (.slice a n c) (l x)) ∧ Below wA.heap.size wA w') := Lib.hid (by
            obtain ⟨s, p1, p2⟩ := parse_text (vd_iff.1 HSZ.out.2.2)
            have h := Parse_any (text (l x)) er wA ((HT.out.below HTH.out.b).below HE.out.1) (by have := text_small HSZ.out.2.2; omega)
            rw [p1, HS0.out] at h
            exact h.mono fun e w' ⟨⟨v, he, hv⟩, hb⟩ => ⟨by
              rw [p2] at hv
              obtain ⟨a, c, rfl, _⟩ := hv.slice_
              exact ⟨_, _, _, he, hv⟩, hb⟩)
          obtain ⟨sa, sc, rfl, -⟩ := HE.out.2.at_
          have hxl1 : ((List.range (x + 1)).map fun k => printT (l k)).length = x + 1 := by simp
          rw [hxl1] at HE ⊢
          clear HGE HA H6
          refine hPT.out.mono ?_
          rintro e w7 ⟨⟨pa, pn, pc, rfl, hP⟩, hB⟩
          have H7 : Hid (Below ws.heap.size ws w7 ∧ OwnS w7 ws.heap.size (.slice sa (x + 1) sc) ((List.range (x + 1)).map fun k => printT (l k)) ∧ FmsAt (· < w7.heap.size) w7 (.slice pa pn pc) (l x)) := Lib.hid ⟨HE.out.1.trans (hB.mono HE.out.1.size), ownsRow_below HE.out.2 hB, hP⟩
          have T7 := Lib.hid (HTH.out.below H7.out.1)
          have uc7 := T7.out.c x hx3
          rw [HUF.out.2.2] at uc7
          have HU7 : Hid (FmsAt (· < w7.heap.size) w7 (.slice ua un uuc) (l x)) := Lib.hid (by rw [← HUF.out.2.2]; exact T7.out.f x hx3)
          have lu7 := World.block_lt_of_cell? (h := uc7)
          clear hB hP HE hPT
          go_wp2_with fail
          refine (Same_any _ _ (l x) (l x) true w7 H7.out.2.2 HU7.out (by simp)).mono ?_
          rintro e w8 ⟨rfl, hB⟩
          have H8 : Hid (Below ws.heap.size ws w8 ∧ OwnS w8 ws.heap.size (.slice sa (x + 1) sc) ((List.range (x + 1)).map fun k => printT (l k))) := Lib.hid ⟨H7.out.1.trans (hB.mono H7.out.1.size), ownsRow_below H7.out.2.1 hB⟩
          clear hB H7 T7 uc7 HU7 lu7
          go_wp2_with fail
          go_loopw [17] (fun k wr => ∃ y : Nat, y ≤ x ∧ k = .int .i64 y ∧ Hid (Below ws.heap.size ws wr ∧ OwnS wr ws.heap.size (.slice sa (x + 1) sc) ((List.range (x + 1)).map fun k => printT (l k)))) (fun k _ => x - (intOf k).toNat)
          case atStart => exact ⟨0, Nat.zero_le _, rfl, H8⟩
          case round =>
            obtain ⟨y, hy, rfl, HK⟩ := hrel
            obtain ⟨wq, rfl⟩ : ∃ wq, wq = wr := ⟨_, rfl⟩
            by_cases hyx : y < x
            · have T9 := Lib.hid (HTH.out.below HK.out.1)
              have cx := T9.out.c x hx3
              rw [HUF.out.2.2] at cx
              have cy := T9.out.c y (by omega)
              obtain ⟨ya, yc, hY, -⟩ := (T9.out.f y (by omega)).slice_
              obtain ⟨yn, hyn⟩ : ∃ yn, yn = (l y).length := ⟨_, rfl⟩
              rw [← hyn] at hY
              rw [hY] at cy
              obtain ⟨_, _, e0, h0⟩ := HK.out.2.at_
              have hlr : ((List.range (x + 1)).map fun k => printT (l k)).length = x + 1 := by simp
              rw [hlr] at e0
              rcases h0 with h0 | ⟨sb, e1, _, lsb, sc1, sc2, scell⟩
              · rw [hlr] at h0
                simp at h0
              · rw [e1] at e0
                rw [hlr] at sc1
                cases e0
                have ct := scell y (by simp; omega)
                have hgd : ((List.range (x + 1)).map fun k => printT (l k)).getD y ⟨#[]⟩ = printT (l y) := by
                  simp [List.getD, show y < x + 1 by omega]
                rw [hgd] at ct
                obtain ⟨Q, hQ⟩ : ∃ Q, vd (l y) = Q := ⟨_, rfl⟩
                obtain ⟨D, hD⟩ : ∃ D, decide (l y = l x) = D := ⟨_, rfl⟩
                have sc3 : x + 1 ≤ sc ∧ sc ≤ 9223372036854775807 := ⟨by simpa using sc1, by unfold maxLen at sc2; omega⟩
                have HVA : Hid (∀ d os, Calls Tryz.prog 21 #[.slice ya yn yc] (grow (redrawn wq d) os) fun e w' => e = .returned (.bool Q) ∧ Below (grow (redrawn wq d) os).heap.size (grow (redrawn wq d) os) w') := Lib.hid fun d os => by
                  have T := T9.out.below (below_regrown wq d os)
                  have h := T.f y (by omega)
                  rw [hY] at h
                  exact Valid_any _ (l y) Q er _ (HT.out.below T.b).err h (T.i y (by omega)) hQ
                have HSA : Hid (∀ d os, Calls Tryz.prog 23 #[.slice ya yn yc, .slice ua un uuc] (grow (redrawn wq d) os) fun e w' => e = .returned (.bool D) ∧ Below (grow (redrawn wq d) os).heap.size (grow (redrawn wq d) os) w') := Lib.hid fun d os => by
                  have T := T9.out.below (below_regrown wq d os)
                  have h := T.f y (by omega)
                  rw [hY] at h
                  have h2 := T.f x hx3
                  rw [HUF.out.2.2] at h2
                  exact Same_any _ _ (l y) (l x) D _ h h2 hD
                have HQD := Lib.hid (And.intro hQ hD)
                clear scell hgd hQ hD hY hyn sc1 sc2 T9
                cases Q with
                | false =>
                  have g0 := fun d os => cell_regrown cx d os
                  have g1 := fun d os => cell_regrown cy d os
                  have g2 := fun d os => cell_regrown ct d os
                  clear cx cy ct
                  go_wp2_with fail
                  refine wp_region_quiet_below (by kernel_rfl) (by kernel_rfl) ?_
                  repeat (first | go_big_quiet_step (first | (go_at_call 21; exact Calls.regrown_of (HVA.out _ _)) | (go_at_call 23; exact Calls.regrown_of (HSA.out _ _))) | quiet_step (first | (go_at_call 21; exact Calls.regrown_of (HVA.out _ _)) | (go_at_call 23; exact Calls.regrown_of (HSA.out _ _))))
                  refine wpQuiet_nil ?_
                  intro _ hw'
                  obtain ⟨⟨dq, osq⟩, hw''⟩ := hw'
                  subst hw''
                  have HE : Hid (Below ws.heap.size ws (grow (redrawn wq dq) osq) ∧ OwnS (grow (redrawn wq dq) osq) ws.heap.size (.slice (some ⟨sb, 0, none⟩) (x + 1) sc) ((List.range (x + 1)).map fun k => printT (l k))) := Lib.hid ⟨HK.out.1.trans ((below_regrown wq dq osq).mono HK.out.1.size), ownsRow_below HK.out.2 (below_regrown wq dq osq)⟩
                  clear HK g0 g1 g2 HVA HSA
                  go_wp2_with fail
                  exact ⟨⟨y + 1, by omega, by go_num, HE⟩, by simp [intOf]; omega⟩
                | true =>
                  have hSy : printT (l y) = bs (text (l y)) := by unfold printT; rw [HQD.out.1]; rfl
                  have hSx := HS0.out
                  cases D with
                  | true =>
                    have hEq : printT (l y) = S := by
                      rw [hSy, ← hSx, of_decide_eq_true HQD.out.2]
                    rw [hEq] at ct
                    have g0 := fun d os => cell_regrown cx d os
                    have g1 := fun d os => cell_regrown cy d os
                    have g2 := fun d os => cell_regrown ct d os
                    clear cx cy ct hSy hSx hEq
                    go_wp2_with fail
                    refine wp_region_quiet_below (by kernel_rfl) (by kernel_rfl) ?_
                    repeat (first | go_big_quiet_step (first | (go_at_call 21; exact Calls.regrown_of (HVA.out _ _)) | (go_at_call 23; exact Calls.regrown_of (HSA.out _ _))) | quiet_step (first | (go_at_call 21; exact Calls.regrown_of (HVA.out _ _)) | (go_at_call 23; exact Calls.regrown_of (HSA.out _ _))))
                    refine wpQuiet_nil ?_
                    intro _ hw'
                    obtain ⟨⟨dq, osq⟩, hw''⟩ := hw'
                    subst hw''
                    have HE : Hid (Below ws.heap.size ws (grow (redrawn wq dq) osq) ∧ OwnS (grow (redrawn wq dq) osq) ws.heap.size (.slice (some ⟨sb, 0, none⟩) (x + 1) sc) ((List.range (x + 1)).map fun k => printT (l k))) := Lib.hid ⟨HK.out.1.trans ((below_regrown wq dq osq).mono HK.out.1.size), ownsRow_below HK.out.2 (below_regrown wq dq osq)⟩
                    clear HK g0 g1 g2 HVA HSA
                    go_wp2_with fail
                    exact ⟨⟨y + 1, by omega, by go_num, HE⟩, by simp [intOf]; omega⟩
                  | false =>
                    have hNe : ¬ printT (l y) = S := fun e => by
                      rw [hSy, ← hSx] at e
                      have e2 : text (l y) = text (l x) := by
                        have := congrArg (fun b : ByteArray => b.data.toList) e
                        simpa using this
                      exact absurd (text_inj (vd_iff.1 HQD.out.1) (vd_iff.1 HSZ.out.2.2) e2) (of_decide_eq_false HQD.out.2)
                    obtain ⟨S2, hS2⟩ : ∃ S2, S2 = printT (l y) := ⟨_, rfl⟩
                    rw [← hS2] at ct hNe
                    have n2 : ¬ S2.toList = S.toList := fun e => hNe (toList_inj.1 e)
                    have n3 : (S2.toList == S.toList) = false := by rw [beq_eq_false_iff_ne]; exact n2
                    have g0 := fun d os => cell_regrown cx d os
                    have g1 := fun d os => cell_regrown cy d os
                    have g2 := fun d os => cell_regrown ct d os
                    clear cx cy ct hSy hSx hS2
                    go_wp2_with fail
                    refine wp_region_quiet_below (by kernel_rfl) (by kernel_rfl) ?_
                    repeat (first | go_big_quiet_step (first | (go_at_call 21; exact Calls.regrown_of (HVA.out _ _)) | (go_at_call 23; exact Calls.regrown_of (HSA.out _ _))) | quiet_step (first | (go_at_call 21; exact Calls.regrown_of (HVA.out _ _)) | (go_at_call 23; exact Calls.regrown_of (HSA.out _ _))))
                    refine wpQuiet_nil ?_
                    intro _ hw'
                    obtain ⟨⟨dq, osq⟩, hw''⟩ := hw'
                    subst hw''
                    have HE : Hid (Below ws.heap.size ws (grow (redrawn wq dq) osq) ∧ OwnS (grow (redrawn wq dq) osq) ws.heap.size (.slice (some ⟨sb, 0, none⟩) (x + 1) sc) ((List.range (x + 1)).map fun k => printT (l k))) := Lib.hid ⟨HK.out.1.trans ((below_regrown wq dq osq).mono HK.out.1.size), ownsRow_below HK.out.2 (below_regrown wq dq osq)⟩
                    clear HK g0 g1 g2 HVA HSA
                    go_wp2_with fail
                    exact ⟨⟨y + 1, by omega, by go_num, HE⟩, by simp [intOf]; omega⟩
            · obtain rfl : y = x := by omega
              go_wp2_with fail
              exact ⟨⟨y + 1, by omega, by go_num, HK⟩, by simp [intOf]; omega⟩
      · obtain rfl : x = 3 := by omega
        go_wp2_with fail
        go_ret
        exact ⟨rfl, HTH.out.b.trans (HI.out.1.mono HTH.out.b.size)⟩
end Go.Proofs.YtcnokccgdiodlaaGreatDoor
