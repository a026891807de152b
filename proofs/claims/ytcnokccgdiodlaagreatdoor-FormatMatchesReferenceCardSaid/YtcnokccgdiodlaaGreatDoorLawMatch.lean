/- The law FormatMatchesReference: it returns true. Conditions: two tables and a list of four-number rows that can be read; ints; what the functions of texts read of memory. -/
import Derived.Test.YtcnokccgdiodlaaGreatDoorLawBent
import Derived.Test.YtcnokccgdiodlaaGreatDoorRefI
import Derived.Test.YtcnokccgdiodlaaGreatDoorRefT
namespace Go.Proofs.YtcnokccgdiodlaaGreatDoor
open Go.RowKit Go.Shelf Fx Go.Sort

/-- A table that all the functions can take. -/
structure Tm (l : List Fm) : Prop where
  few : l.length ≤ 1000
  ints : IntsL l
  fs : ∀ i, i < l.length → (l.getD i zm).fs.length ≤ 1000
  t : ∀ i, i < l.length → ∀ k, k < (l.getD i zm).fs.length → ((l.getD i zm).fs.getD k zf).text.size ≤ 1000
theorem Sm.tm {l : List Fm} (h : Sm l) : Tm l := ⟨by have := h.few; omega, h.ints, fun i hi => by have := h.fs i hi; omega, fun i hi k hk => by have := (h.each i hi k hk).t; omega⟩
theorem Mk.tm {l : List Fm} (h : Mk l) : Tm l := ⟨by have := h.few; omega, h.ints, fun i hi => by have := h.fs i hi; omega, fun i hi k hk => by have := (h.each i hi k hk).t; omega⟩
/-- A row of tables. -/
structure Four (w0 w : World) (N G : Nat) (u : Nat → Value) (l : Nat → List Fm) : Prop where
  b : Below w0.heap.size w0 w
  c : ∀ k, k < N → w.cell? ⟨G, k, none⟩ = some (u k)
  f : ∀ k, k < N → FmsAt (· < w.heap.size) w (u k) (l k)
  i : ∀ k, k < N → Tm (l k)
theorem Four.below {w0 w w' : World} {N G : Nat} {u : Nat → Value} {l : Nat → List Fm} (h : Four w0 w N G u l) (hb : Below w.heap.size w w') : Four w0 w' N G u l :=
  ⟨h.b.trans (hb.mono h.b.size), fun k hk => (hb.cell (p := ⟨G, k, none⟩) (World.block_lt_of_cell? (h := h.c k hk))).trans (h.c k hk), fun k hk => (h.f k hk).below hb, h.i⟩
def of4 {α : Type} (a b c d : α) : Nat → α
  | 0 => a
  | 1 => b
  | 2 => c
  | _ => d
def fzz (o : Option Fm) (id : Int) : Int := if o.isSome then id else 0
def ffs (o : Option Fm) : List Fld := (o.map (·.fs)).getD []
/-- What a search answers. -/
def FoundAt (zz : Int) (fs : List Fld) (q : Bool) (w : World) (e : Ending) (w' : World) : Prop :=
  (∃ a m c, e = .returned (.tuple #[.agg #[.int .i64 zz, .slice a m c], .bool q]) ∧ FldsAt w' (.slice a m c) fs ∧ ∀ g, (Value.slice a m c).ownBlock = some g → g < w'.heap.size) ∧ Below w.heap.size w w'
theorem found_of {o : Option Fm} {id : Int} {w w' : World} {e : Ending} (h : FindPost2 o id w e w') : FoundAt (fzz o id) (ffs o) o.isSome w e w' := by
  unfold FindPost2 at h
  unfold FoundAt
  cases o with
  | none => exact ⟨⟨none, 0, 0, h.1, .inl ⟨_, _, rfl, rfl⟩, fun g hg => by simp [Value.ownBlock] at hg⟩, h.2⟩
  | some f =>
    obtain ⟨⟨v, h1, h2, h3⟩, h4⟩ := h
    obtain ⟨a, c, rfl, _⟩ := h2.slice_
    exact ⟨⟨a, _, c, h1, h2, h3⟩, h4⟩
theorem find_both (v : Value) (l : List Fm) (id : Int) (hT : Tm l) : ∃ (zz : Int) (fs : List Fld) (q : Bool), ∀ w : World, FmsAt (· < w.heap.size) w v l →
    Calls Tryz.prog 16 #[v, .int .i64 id] w (FoundAt zz fs q w) ∧ Calls Tryz.prog 17 #[v, .int .i64 id] w (FoundAt zz fs q w) :=
  ⟨fzz (findO l id) id, ffs (findO l id), (findO l id).isSome, fun w hV => ⟨(Find2_any v l id w hV (fun f hf => by
      obtain ⟨i, hi, rfl⟩ := List.getElem_of_mem hf
      have e : l.getD i zm = l[i] := by simp [List.getD, List.getElem?_eq_getElem hi]
      rw [← e]
      exact ⟨hT.fs i hi, fun k hk => Nat.le_trans (hT.t i hi k hk) (by decide)⟩)).mono fun _ _ h => found_of h, (rFind2_any v l id w hV hT.fs).mono fun _ _ h => found_of h⟩⟩
theorem fms_single {w : World} {b : Nat} {zz : Int} {a : Option Addr} {m c : Nat} {fs : List Fld} (h : w.heap[b]? = some (.cells #[.int .i64 zz, .slice a m c] 34 (0, 0))) (hF : FldsAt w (.slice a m c) fs) (ho : ∀ g, (Value.slice a m c).ownBlock = some g → g < w.heap.size) : FmsAt (· < w.heap.size) w (.slice (some ⟨b, 0, none⟩) 1 1) [⟨zz, fs⟩] :=
  .inr ⟨b, 0, 1, rfl, Nat.le_refl _, Nat.le_refl _, by unfold maxLen; omega, lt_of_heap h, lt_of_heap h, fun i hi => ⟨.slice a m c, by
    have : i = 0 := by simp at hi; omega
    subst this
    exact ⟨cell_of_row _ _ 0 _ _ _ h, cell_of_row _ _ 1 _ _ _ h, hF, ho⟩⟩⟩
set_option maxRecDepth 100000 in
set_option maxHeartbeats 8000000 in
theorem match_law (va vb vq : Value) (la lb : List Fm) (n : Nat) (h0 h1 h2 h3 h4 x : Int) (er : Addr) (w : World) (hA : ArgM w va la) (hI : IntsL la) (hA2 : ArgM w vb lb) (hI2 : IntsL lb) (hQ : QsAt w vq n) (hF0 : -9223372036854775808 ≤ h0 ∧ h0 ≤ 9223372036854775807) (hF1 : -9223372036854775808 ≤ h1 ∧ h1 ≤ 9223372036854775807) (hF2 : -9223372036854775808 ≤ h2 ∧ h2 ≤ 9223372036854775807) (hF3 : -9223372036854775808 ≤ h3 ∧ h3 ≤ 9223372036854775807) (hF4 : -9223372036854775808 ≤ h4 ∧ h4 ≤ 9223372036854775807) (hx0 : -9223372036854775808 ≤ x) (hx1 : x ≤ 9223372036854775807) (hT : Txt w er) :
    Calls Tryz.prog 3 #[va, vb, vq, .agg #[.int .i64 h0, .int .i64 h1, .int .i64 h2, .int .i64 h3, .int .i64 h4], .int .i64 x] w fun e w' => e = .returned (.bool true) ∧ Below w.heap.size w w' := by
  have HT := Lib.hid hT
  have HV := Lib.hid (And.intro hA (And.intro hI (And.intro hA2 (And.intro hI2 (And.intro hQ (Five.mk hF0 hF1 hF2 hF3 hF4))))))
  clear hT hA hI hA2 hI2 hQ hF0 hF1 hF2 hF3 hF4
  go_enter Tryz.func3, Tryz.ntmps3
  go_wp2_with fail
  obtain ⟨w0, hw0⟩ : ∃ w0, w0 = w.alloc (.cells #[.int .i64 h0, .int .i64 h1, .int .i64 h2, .int .i64 h3, .int .i64 h4] 24) := ⟨_, rfl⟩
  rw [← hw0]
  obtain ⟨HB, hHB⟩ : ∃ HB, HB = w.heap.size := ⟨_, rfl⟩
  rw [← hHB]
  have H0 : Hid (Below w.heap.size w w0 ∧ w0.heap[HB]? = some (.cells #[.int .i64 h0, .int .i64 h1, .int .i64 h2, .int .i64 h3, .int .i64 h4] 24 (0, 0))) := Lib.hid ⟨by rw [hw0]; exact bx _, by rw [hw0, hHB]; exact heap_alloc_new _ _⟩
  clear hw0 hHB
  refine (sane_any er w0 (HT.out.below H0.out.1)).mono ?_
  rintro e w1 ⟨rfl, hB⟩
  have H1 : Hid (Below w.heap.size w w1 ∧ w1.heap[HB]? = some (.cells #[.int .i64 h0, .int .i64 h1, .int .i64 h2, .int .i64 h3, .int .i64 h4] 24 (0, 0))) := Lib.hid ⟨H0.out.1.trans (hB.mono H0.out.1.size), (hB.block _ (lt_of_heap H0.out.2)).trans H0.out.2⟩
  clear hB H0
  go_wp2_with fail
  refine (rMake_any vq n w1 (HV.out.2.2.2.2.1.below H1.out.1)).mono ?_
  rintro e w2 ⟨⟨um, lm, rfl, hM, vs, hO⟩, hB⟩
  obtain ⟨ma, mc, rfl, -⟩ := hO.fms.slice_
  obtain ⟨mn, hmn⟩ : ∃ mn, mn = lm.length := ⟨_, rfl⟩
  rw [← hmn] at hO ⊢
  have H2 : Hid (Below w.heap.size w w2 ∧ w2.heap[HB]? = some (.cells #[.int .i64 h0, .int .i64 h1, .int .i64 h2, .int .i64 h3, .int .i64 h4] 24 (0, 0)) ∧ FmsAt (· < w2.heap.size) w2 (.slice ma mn mc) lm ∧ Mk lm) := Lib.hid ⟨H1.out.1.trans (hB.mono H1.out.1.size), (hB.block _ (lt_of_heap H1.out.2)).trans H1.out.2, hO.fms, hM⟩
  clear hB H1 hM hO hmn
  have c0 : w2.cell? ⟨HB, 0, none⟩ = some (.int .i64 h0) := cell_of_row _ _ _ _ _ _ H2.out.2.1
  have c1 : w2.cell? ⟨HB, 1, none⟩ = some (.int .i64 h1) := cell_of_row _ _ _ _ _ _ H2.out.2.1
  have c2 : w2.cell? ⟨HB, 2, none⟩ = some (.int .i64 h2) := cell_of_row _ _ _ _ _ _ H2.out.2.1
  have c3 : w2.cell? ⟨HB, 3, none⟩ = some (.int .i64 h3) := cell_of_row _ _ _ _ _ _ H2.out.2.1
  have c4 : w2.cell? ⟨HB, 4, none⟩ = some (.int .i64 h4) := cell_of_row _ _ _ _ _ _ H2.out.2.1
  have lH := lt_of_heap H2.out.2.1
  have hfew : ∀ (v : Value) (l : List Fm), ArgM w v l → IntsL l → ∀ W : World, Below w2.heap.size w2 W → Calls Tryz.prog 13 #[v] W fun e w' => ∃ aa an ac la', e = .returned (.slice aa an ac) ∧ (FmsAt (· < w'.heap.size) w' (.slice aa an ac) la' ∧ Sm la') ∧ Below W.heap.size W w' := fun v l hv hl W hb => (few_any v l W ((hv.below H2.out.1).below hb) hl).mono fun e w' ⟨⟨u, L, he, hS, _, vs, hO, _⟩, hB⟩ => by
    obtain ⟨a, c, rfl, _⟩ := hO.fms.slice_
    exact ⟨a, _, c, L, he, ⟨hO.fms, hS⟩, hB⟩
  have HFA := Lib.hid (hfew va la HV.out.1 HV.out.2.1)
  have HFB := Lib.hid (hfew vb lb HV.out.2.2.1 HV.out.2.2.2.1)
  have HBT : Hid (∀ W : World, Below w2.heap.size w2 W → Calls Tryz.prog 14 #[.slice ma mn mc, .agg #[.int .i64 h0, .int .i64 h1, .int .i64 h2, .int .i64 h3, .int .i64 h4]] W fun e w' => ∃ ba bn bc lb, e = .returned (.slice ba bn bc) ∧ (FmsAt (· < w'.heap.size) w' (.slice ba bn bc) lb ∧ Sm lb) ∧ Below W.heap.size W w') := Lib.hid fun W hb => (bent_any _ lm h0 h1 h2 h3 h4 W ((ArgM.of_fms H2.out.2.2.1).below hb) H2.out.2.2.2.ints HV.out.2.2.2.2.2).mono fun e w' ⟨⟨u, he, L, h1, h2⟩, hB⟩ => by
    obtain ⟨a, c, rfl, _⟩ := h1.slice_
    exact ⟨a, _, c, L, he, ⟨h1, h2⟩, hB⟩
  clear hfew
  go_wp2_with fail
  go_cut [13] from 25 to 34 (fun t wx => ∃ G u l, t = .slice (some ⟨G, 0, none⟩) 4 4 ∧ Hid (Four w wx 4 G u l ∧ Below w2.heap.size w2 wx))
  case first =>
    have HS0 : Hid (∀ W : World, Below w2.heap.size w2 W → W.cell? ⟨HB, 0, none⟩ = some (.int .i64 h0) ∧ W.cell? ⟨HB, 1, none⟩ = some (.int .i64 h1) ∧ W.cell? ⟨HB, 2, none⟩ = some (.int .i64 h2) ∧ W.cell? ⟨HB, 3, none⟩ = some (.int .i64 h3) ∧ W.cell? ⟨HB, 4, none⟩ = some (.int .i64 h4) ∧ Below w2.heap.size w2 W) := Lib.hid fun W hb =>
      ⟨(hb.cell (p := ⟨HB, 0, none⟩) lH).trans c0, (hb.cell (p := ⟨HB, 1, none⟩) lH).trans c1, (hb.cell (p := ⟨HB, 2, none⟩) lH).trans c2, (hb.cell (p := ⟨HB, 3, none⟩) lH).trans c3, (hb.cell (p := ⟨HB, 4, none⟩) lH).trans c4, hb⟩
    clear c0 c1 c2 c3 c4
    refine wp_region_held_drew (S := (fun w' : World => w'.cell? ⟨HB, 0, none⟩ = some (.int .i64 h0) ∧ w'.cell? ⟨HB, 1, none⟩ = some (.int .i64 h1) ∧ w'.cell? ⟨HB, 2, none⟩ = some (.int .i64 h2) ∧ w'.cell? ⟨HB, 3, none⟩ = some (.int .i64 h3) ∧ w'.cell? ⟨HB, 4, none⟩ = some (.int .i64 h4) ∧ Below w2.heap.size w2 w')) (by kernel_rfl) (HS0.out _ (Below.refl _ _).drew) (fun hHeld => ?_)
    refine wpAnyH_take (i := 0) (oi := ?o0) (v := ?v0) ?h0 ?a0 ?b0 ?c0 ?q0 (Or.inl ⟨?g0, ?y0⟩) ?s0 ?r0
    case h0 => (simp only [List.getElem?_toArray, List.getElem?_cons_zero]; rfl)
    case a0 => kernel_rfl
    case b0 => kernel_rfl
    case c0 => kernel_rfl
    case q0 => exact fun _ _ _ h => h
    case g0 => rfl
    case y0 => (intro wS hSw; (try dsimp only at hSw); go_simp; (try with_reducible rfl))
    case s0 => assumption
    (try simp only [Act.put, List.setIfInBounds_toArray, List.set_cons_zero, List.set_cons_succ])
    refine wpAnyH_take (i := 2) (oi := ?o1) (v := ?v1) ?h1 ?a1 ?b1 ?c1 ?q1 (Or.inl ⟨?g1, ?y1⟩) ?s1 ?r1
    case h1 => (simp only [List.getElem?_toArray, List.getElem?_cons_zero, List.getElem?_cons_succ]; rfl)
    case a1 => kernel_rfl
    case b1 => kernel_rfl
    case c1 => kernel_rfl
    case q1 => exact fun _ _ _ h => h
    case g1 => rfl
    case y1 => (intro wS hSw; (try dsimp only at hSw); go_simp; (try with_reducible rfl))
    case s1 => assumption
    (try simp only [Act.put, List.setIfInBounds_toArray, List.set_cons_zero, List.set_cons_succ])
    refine wpAnyH_take (i := 4) (oi := ?o2) (v := ?v2) ?h2 ?a2 ?b2 ?c2 ?q2 (Or.inl ⟨?g2, ?y2⟩) ?s2 ?r2
    case h2 => (simp only [List.getElem?_toArray, List.getElem?_cons_zero, List.getElem?_cons_succ]; rfl)
    case a2 => kernel_rfl
    case b2 => kernel_rfl
    case c2 => kernel_rfl
    case q2 => exact fun _ _ _ h => h
    case g2 => rfl
    case y2 => (intro wS hSw; (try dsimp only at hSw); go_simp; (try with_reducible rfl))
    case s2 => assumption
    (try simp only [Act.put, List.setIfInBounds_toArray, List.set_cons_zero, List.set_cons_succ])
    refine wpAnyH_take (i := 5) (oi := ?o3) (v := ?v3) ?h3 ?a3 ?b3 ?c3 ?q3 (Or.inl ⟨?g3, ?y3⟩) ?s3 ?r3
    case h3 => (simp only [List.getElem?_toArray, List.getElem?_cons_zero, List.getElem?_cons_succ]; rfl)
    case a3 => kernel_rfl
    case b3 => kernel_rfl
    case c3 => kernel_rfl
    case q3 => exact fun _ _ _ h => h
    case g3 => rfl
    case y3 => (intro wS hSw; (try dsimp only at hSw); go_simp; (try with_reducible rfl))
    case s3 => assumption
    (try simp only [Act.put, List.setIfInBounds_toArray, List.set_cons_zero, List.set_cons_succ])
    refine wpAnyH_take (i := 6) (oi := ?o4) (v := ?v4) ?h4 ?a4 ?b4 ?c4 ?q4 (Or.inl ⟨?g4, ?y4⟩) ?s4 ?r4
    case h4 => (simp only [List.getElem?_toArray, List.getElem?_cons_zero, List.getElem?_cons_succ]; rfl)
    case a4 => kernel_rfl
    case b4 => kernel_rfl
    case c4 => kernel_rfl
    case q4 => exact fun _ _ _ h => h
    case g4 => rfl
    case y4 => (intro wS hSw; obtain ⟨s0, s1, s2, s3, s4, -⟩ := hSw; go_simp; (try with_reducible rfl))
    case s4 => assumption
    (try simp only [Act.put, List.setIfInBounds_toArray, List.set_cons_zero, List.set_cons_succ])
    refine wpAnyH_ready (rs := [1]) (by kernel_rfl) (by simp) ?_
    refine AllReadyH.cons (o := ?oB0) ?hB0 ?kB0 AllReadyH.nil
    case hB0 => (simp only [List.getElem?_toArray, List.getElem?_cons_zero, List.getElem?_cons_succ]; rfl)
    case kB0 =>
     intro K hK
     go_simp
     refine (HFA.out _ (Below.refl _ _).drew).mono ?_
     rintro e w5 ⟨aa, an, ac, la', rfl, hA5, hB5⟩
     have hb25 : Below w2.heap.size w2 w5 := (Below.refl _ _).drew.trans hB5
     refine hK.out _ _ (HS0.out _ hb25) (fun _ => ?_)
     clear hK K
     (try simp only [Act.put, List.setIfInBounds_toArray, List.set_cons_zero, List.set_cons_succ])
     refine wpAnyH_ready (rs := [3]) (by kernel_rfl) (by simp) ?_
     refine AllReadyH.cons (o := ?oB1) ?hB1 ?kB1 AllReadyH.nil
     case hB1 => (simp only [List.getElem?_toArray, List.getElem?_cons_zero, List.getElem?_cons_succ]; rfl)
     case kB1 =>
      intro K hK
      go_simp
      refine (HFB.out _ hb25).mono ?_
      rintro e w6 ⟨ba, bn, bc, lb', rfl, hA6, hB6⟩
      have hb26 : Below w2.heap.size w2 w6 := hb25.trans (hB6.mono hb25.size)
      refine hK.out _ _ (HS0.out _ hb26) (fun _ => ?_)
      clear hK K
      (try simp only [Act.put, List.setIfInBounds_toArray, List.set_cons_zero, List.set_cons_succ])
      refine wpAnyH_ready (rs := [7]) (by kernel_rfl) (by simp) ?_
      refine AllReadyH.cons (o := ?oB2) ?hB2 ?kB2 AllReadyH.nil
      case hB2 => (simp only [List.getElem?_toArray, List.getElem?_cons_zero, List.getElem?_cons_succ]; rfl)
      case kB2 =>
       intro K hK
       go_simp
       refine (HBT.out _ hb26).mono ?_
       rintro e w7 ⟨ca, cn, cc, lc, rfl, hA7, hB7⟩
       have hb27 : Below w2.heap.size w2 w7 := hb26.trans (hB7.mono hb26.size)
       refine hK.out _ _ (HS0.out _ hb27) (fun _ => ?_)
       clear hK K
       (try simp only [Act.put, List.setIfInBounds_toArray, List.set_cons_zero, List.set_cons_succ])
       refine wpAnyH_ready (rs := [8]) (by kernel_rfl) (by simp) ?_
       refine AllReadyH.cons (o := ?oB3) ?hB3 ?kB3 AllReadyH.nil
       case hB3 => (simp only [List.getElem?_toArray, List.getElem?_cons_zero, List.getElem?_cons_succ]; rfl)
       case kB3 =>
        intro K hK
        go_simp
        refine hK.out _ _ (HS0.out _ (hb27.trans ((bx _).mono hb27.size))) (fun hHeld9 => ?_)
        clear hK K
        (try simp only [Act.put, List.setIfInBounds_toArray, List.set_cons_zero, List.set_cons_succ])
        refine wpAnyH_ready (rs := [9]) (by kernel_rfl) (by simp) ?_
        refine AllReadyH.cons (o := ?oB4) ?hB4 ?kB4 AllReadyH.nil
        case hB4 => (simp only [List.getElem?_toArray, List.getElem?_cons_zero, List.getElem?_cons_succ]; rfl)
        case kB4 =>
         intro K hK
         go_simp
         refine hK.out _ _ hHeld9 (fun _ => ?_)
         clear hK K
         (try simp only [Act.put, List.setIfInBounds_toArray, List.set_cons_zero, List.set_cons_succ])
         refine wpAnyH_done (by kernel_rfl) ?_ _
         have HE : Hid (Four w (w7.alloc (.cells #[.slice aa an ac, .slice ba bn bc, .slice ma mn mc, .slice ca cn cc] 22)) 4 w7.heap.size (of4 (.slice aa an ac) (.slice ba bn bc) (.slice ma mn mc) (.slice ca cn cc)) (of4 la' lb' lm lc)) := Lib.hid (by
           have hb27 : Below w2.heap.size w2 w7 := hb26.trans (hB7.mono hb26.size)
           have hb57 : Below w5.heap.size w5 w7 := hB6.trans (hB7.mono hB6.size)
           have ha := bx (w := w7) (.cells #[.slice aa an ac, .slice ba bn bc, .slice ma mn mc, .slice ca cn cc] 22)
           refine ⟨H2.out.1.trans ((hb27.trans (ha.mono hb27.size)).mono H2.out.1.size), fun k hk => ?_, fun k hk => ?_, fun k hk => ?_⟩
           · rw [cell_of_row _ _ _ _ _ _ (heap_alloc_new _ _)]
             obtain rfl | rfl | rfl | rfl : k = 0 ∨ k = 1 ∨ k = 2 ∨ k = 3 := by omega
             all_goals rfl
           · obtain rfl | rfl | rfl | rfl : k = 0 ∨ k = 1 ∨ k = 2 ∨ k = 3 := by omega
             · exact (hA5.1.below hb57).below ha
             · exact (hA6.1.below hB7).below ha
             · exact (H2.out.2.2.1.below hb27).below ha
             · exact hA7.1.below ha
           · obtain rfl | rfl | rfl | rfl : k = 0 ∨ k = 1 ∨ k = 2 ∨ k = 3 := by omega
             · exact hA5.2.tm
             · exact hA6.2.tm
             · exact H2.out.2.2.2.tm
             · exact hA7.2.tm)
         
         have HE2 : Hid (Below w2.heap.size w2 (w7.alloc (.cells #[.slice aa an ac, .slice ba bn bc, .slice ma mn mc, .slice ca cn cc] 22))) := Lib.hid (hb27.trans ((bx _).mono hb27.size))
         clear hA5 hB5 hA6 hB6 hA7 hB7 hb25 hb26 hb27
         go_wp2_with fail
         go_meet
         case rel => exact ⟨_, _, _, rfl, Lib.hid ⟨HE.out, HE2.out⟩⟩
  case rest =>
    obtain ⟨G, u, l, rfl, HTH⟩ := hcut
    obtain ⟨ws, rfl⟩ : ∃ ws, ws = wc := ⟨_, rfl⟩
    obtain ⟨P, hP⟩ : ∃ P, pickI x 22 = P := ⟨_, rfl⟩
    have HP : Hid (∀ V : World, Calls Tryz.prog 15 #[.int .i64 x, .int .i64 22] V fun e w' => e = .returned (.int .i64 P) ∧ w' = V) := Lib.hid fun V => lpick_any x 22 P V hx0 hx1 (by omega) (by omega) hP
    have hP0 : 0 ≤ P := by rw [← hP]; exact pickI_lo (by omega)
    have hP1 : P < 22 := by rw [← hP]; exact pickI_hi (by omega)
    have HTH2 := Lib.hid HTH.out.2
    have HTH := Lib.hid HTH.out.1
    have HMT : Hid (FmsAt (· < ws.heap.size) ws (.slice ma mn mc) lm ∧ Tm lm) := Lib.hid ⟨H2.out.2.2.1.below HTH2.out, H2.out.2.2.2.tm⟩
    clear hP HFA HFB HBT H2 lH c0 c1 c2 c3 c4 HTH2
    go_wp2_with fail
    go_loopw [14] (fun i wr => ∃ k : Nat, k ≤ 4 ∧ i = .int .i64 k ∧ Hid (Below ws.heap.size ws wr)) (fun i _ => 4 - (intOf i).toNat)
    case atStart => exact ⟨0, by omega, rfl, Lib.hid (Below.refl _ _)⟩
    case round =>
      obtain ⟨k, hk, rfl, HI⟩ := hrel
      obtain ⟨wo, rfl⟩ : ∃ wo : World, wo = wr := ⟨_, rfl⟩
      by_cases hk4 : k < 4
      · have T1 := Lib.hid (HTH.out.below HI.out)
        have cx := T1.out.c k hk4
        have hFx := T1.out.f k hk4
        have HTm := Lib.hid (T1.out.i k hk4)
        obtain ⟨ta, tc, hU, -⟩ := hFx.slice_
        obtain ⟨tn, htn⟩ : ∃ tn, tn = (l k).length := ⟨_, rfl⟩
        rw [← htn] at hU
        rw [hU] at cx hFx
        have HFX := Lib.hid hFx
        have lG := World.block_lt_of_cell? (h := cx)
        clear hFx htn
        go_wp2_with fail
        refine (HP.out wo).mono ?_
        rintro e w5 ⟨rfl, rfl⟩
        obtain ⟨W, hW⟩ : ∃ W, W = w5.alloc (.cells #[.int .i64 x, .int .i64 P] 3) := ⟨_, rfl⟩
        obtain ⟨IB, hIB⟩ : ∃ IB, IB = w5.heap.size := ⟨_, rfl⟩
        have hN : W.heap[IB]? = some (.cells #[.int .i64 x, .int .i64 P] 3 (0, 0)) := by rw [hW, hIB]; exact heap_alloc_new _ _
        have HW : Hid (Below w5.heap.size w5 W) := Lib.hid (by rw [hW]; exact bx _)
        have HCL : Hid (∀ j : Nat, j < 2 → ∃ z : Int, W.cell? ⟨IB, j, none⟩ = some (.int .i64 z) ∧ -9223372036854775808 ≤ z ∧ z ≤ 9223372036854775807) := Lib.hid fun j hj => by
          obtain rfl | rfl : j = 0 ∨ j = 1 := by omega
          · exact ⟨x, cell_of_row _ _ _ _ _ _ hN, hx0, hx1⟩
          · exact ⟨P, cell_of_row _ _ _ _ _ _ hN, by omega, by omega⟩
        have lI : IB < W.heap.size := lt_of_heap hN
        clear hN
        go_wp2_with fail
        rw [← hW, ← hIB]
        clear hW hIB
        go_loopw [49] (fun i wr => ∃ j : Nat, j ≤ 2 ∧ i = .int .i64 j ∧ Hid (Below W.heap.size W wr)) (fun i _ => 2 - (intOf i).toNat)
        case atStart => exact ⟨0, by omega, rfl, Lib.hid (Below.refl _ _)⟩
        case round =>
          obtain ⟨j, hj, rfl, HJ⟩ := hrel
          obtain ⟨wq, rfl⟩ : ∃ wq : World, wq = wr := ⟨_, rfl⟩
          by_cases hj2 : j < 2
          · obtain ⟨z, hz, hz0, hz1⟩ := HCL.out j hj2
            have hzq := (HJ.out.cell (p := ⟨IB, j, none⟩) lI).trans hz
            have lz := World.block_lt_of_cell? (h := hzq)
            obtain ⟨zz, fs, q, hFB⟩ := find_both (.slice ta tn tc) (l k) z HTm.out
            have HFB := Lib.hid hFB
            have HB0 : Hid (Below W.heap.size W wq) := Lib.hid HJ.out
            have C5 : Hid (∀ V : World, Below W.heap.size W V → Below w5.heap.size w5 V) := Lib.hid fun V h => HW.out.trans (h.mono HW.out.size)
            have HF1 := Lib.hid (HFX.out.below (C5.out _ HB0.out))
            clear hz hFB
            go_wp2_with fail
            refine (HFB.out wq HF1.out).1.mono ?_
            rintro e w6 ⟨⟨fa, fm, fc, rfl, hA1, hA2⟩, hB6⟩
            have H6 : Hid (Below W.heap.size W w6 ∧ FldsAt w6 (.slice fa fm fc) fs ∧ ∀ g, (Value.slice fa fm fc).ownBlock = some g → g < w6.heap.size) := Lib.hid ⟨HB0.out.trans (hB6.mono HB0.out.size), hA1, hA2⟩
            clear hA1 hA2 hB6
            have HFX7 := Lib.hid ((HFX.out.below (C5.out _ H6.out.1)).below (bx (.cells #[.int .i64 zz, .slice fa fm fc] 34)))
            go_wp2_with fail
            refine (HFB.out _ HFX7.out).2.mono ?_
            rintro e w7 ⟨⟨ga, gm, gc, rfl, hA1, hA2⟩, hB7⟩
            have bA := bx (w := w6) (.cells #[.int .i64 zz, .slice fa fm fc] 34)
            have b67 : Below w6.heap.size w6 w7 := bA.trans (hB7.mono bA.size)
            have hN1 : w7.heap[w6.heap.size]? = some (.cells #[.int .i64 zz, .slice fa fm fc] 34 (0, 0)) := (hB7.block _ (by simp)).trans (heap_alloc_new _ _)
            obtain ⟨W2, hW2⟩ : ∃ W2, W2 = w7.alloc (.cells #[.int .i64 zz, .slice ga gm gc] 34) := ⟨_, rfl⟩
            have b72 : Below w7.heap.size w7 W2 := by rw [hW2]; exact bx _
            have hM1 : W2.heap[w6.heap.size]? = some (.cells #[.int .i64 zz, .slice fa fm fc] 34 (0, 0)) := (b72.block _ (lt_of_heap hN1)).trans hN1
            have hM2 : W2.heap[w7.heap.size]? = some (.cells #[.int .i64 zz, .slice ga gm gc] 34 (0, 0)) := by rw [hW2]; exact heap_alloc_new _ _
            have b62 : Below w6.heap.size w6 W2 := b67.trans (b72.mono b67.size)
            have k10 : w7.cell? ⟨w6.heap.size, 0, none⟩ = some (.int .i64 zz) := cell_of_row _ _ _ _ _ _ hN1
            have k11 : w7.cell? ⟨w6.heap.size, 1, none⟩ = some (.slice fa fm fc) := cell_of_row _ _ _ _ _ _ hN1
            have l1 := lt_of_heap hN1
            have sz : W2.heap.size = w7.heap.size + 1 := by rw [hW2]; simp
            obtain ⟨W3, hW3⟩ : ∃ W3, W3 = (W2.alloc (.cells #[.int .i64 zz, .slice fa fm fc] 34)).alloc (.cells #[.int .i64 zz, .slice ga gm gc] 34) := ⟨_, rfl⟩
            have b23 : Below W2.heap.size W2 W3 := by rw [hW3]; exact (bx _).alloc (by simp) _
            have HS1 : FmsAt (· < W3.heap.size) W3 (.slice (some ⟨W2.heap.size, 0, none⟩) 1 1) [⟨zz, fs⟩] := fms_single (by rw [hW3]; exact heap_alloc2_old _ _ _) ((H6.out.2.1.below b62).below b23) (fun g hg => by have := H6.out.2.2 g hg; have := b62.size; have := b23.size; omega)
            have HS2 : FmsAt (· < W3.heap.size) W3 (.slice (some ⟨W2.heap.size + 1, 0, none⟩) 1 1) [⟨zz, fs⟩] := fms_single (by rw [hW3]; exact heap_alloc2_new _ _ _) ((hA1.below b72).below b23) (fun g hg => by have := hA2 g hg; have := b72.size; have := b23.size; omega)
            have HSM := Lib.hid (rSame_any _ _ [⟨zz, fs⟩] [⟨zz, fs⟩] true W3 HS1 HS2 (by simp))
            rw [sz] at HSM
            have HB3 : Hid (Below W.heap.size W W3) := Lib.hid (H6.out.1.trans ((b62.trans (b23.mono b62.size)).mono H6.out.1.size))
            obtain ⟨R, hR⟩ : ∃ R, least (l k) z = R := ⟨_, rfl⟩
            have HLE : Hid (∀ V : World, Below w5.heap.size w5 V → (Calls Tryz.prog 19 #[.slice ta tn tc, .int .i64 z] V fun e w' => e = .returned (.int .i64 R) ∧ Below V.heap.size V w') ∧ (Calls Tryz.prog 20 #[.slice ta tn tc, .int .i64 z] V fun e w' => e = .returned (.int .i64 R) ∧ Below V.heap.size V w')) := Lib.hid fun V hV =>
              ⟨Least_any _ (l k) z R er V (((HT.out.below HTH.out.b).below HI.out).below hV).err (HFX.out.below hV) HTm.out.ints hz0 hz1 hR, rLeast_any _ (l k) z R V (HFX.out.below hV) HTm.out.ints HTm.out.few hR⟩
            clear hN1 hM1 hM2 b62 b67 b72 bA hA1 hA2 hB7 HS1 HS2 b23 hR HFX7
            cases q
            all_goals
              go_wp2_with fail
              rw [← hW2, ← hW3]
              refine HSM.out.mono ?_
              rintro e w8 ⟨rfl, hB8⟩
              have HB8 : Hid (Below W.heap.size W w8) := Lib.hid (HB3.out.trans (hB8.mono HB3.out.size))
              clear hB8
              go_wp2_with fail
              refine (HLE.out _ (C5.out _ HB8.out)).1.mono ?_
              rintro e w9 ⟨rfl, hB9⟩
              have HB9 : Hid (Below W.heap.size W w9) := Lib.hid (HB8.out.trans (hB9.mono HB8.out.size))
              clear hB9
              go_wp2_with fail
              refine (HLE.out _ (C5.out _ HB9.out)).2.mono ?_
              rintro e w10 ⟨rfl, hB10⟩
              have HBX : Hid (Below W.heap.size W w10) := Lib.hid (HB9.out.trans (hB10.mono HB9.out.size))
              clear hB10
              go_wp2_with fail
              exact ⟨⟨j + 1, by omega, by go_num, HBX⟩, by simp [intOf]; omega⟩
          · obtain rfl : j = 2 := by omega
            have HQ5 : Hid (Below w5.heap.size w5 wq) := Lib.hid (HW.out.trans (HJ.out.mono HW.out.size))
            have T9 := Lib.hid (T1.out.below HQ5.out)
            obtain ⟨za, zc, hZ, -⟩ := (T9.out.f 0 (by omega)).slice_
            obtain ⟨zn, hzn⟩ : ∃ zn, zn = (l 0).length := ⟨_, rfl⟩
            rw [← hzn] at hZ
            have ct := T9.out.c 0 (by omega)
            rw [hZ] at ct
            have HFZ : Hid (FmsAt (· < wq.heap.size) wq (.slice za zn zc) (l 0)) := Lib.hid (by rw [← hZ]; exact T9.out.f 0 (by omega))
            have HFT := Lib.hid (HFX.out.below HQ5.out)
            have HFM : Hid (FmsAt (· < wq.heap.size) wq (.slice ma mn mc) lm) := Lib.hid ((HMT.out.1.below HI.out).below HQ5.out)
            have HER := Lib.hid (((HT.out.below HTH.out.b).below HI.out).below HQ5.out).err
            obtain ⟨Q, hQ⟩ : ∃ Q, vd (l k) = Q := ⟨_, rfl⟩
            obtain ⟨D1, hD1⟩ : ∃ D, decide (l k = l 0) = D := ⟨_, rfl⟩
            obtain ⟨D2, hD2⟩ : ∃ D, decide (l k = lm) = D := ⟨_, rfl⟩
            have HVA : Hid (∀ d os, Calls Tryz.prog 21 #[.slice ta tn tc] (grow (redrawn wq d) os) fun e w' => e = .returned (.bool Q) ∧ Below (grow (redrawn wq d) os).heap.size (grow (redrawn wq d) os) w') := Lib.hid fun d os => by
              have hb := below_regrown wq d os
              exact Valid_any _ (l k) Q er _ (HER.out.below hb) (HFT.out.below hb) HTm.out.ints hQ
            have HRV : Hid (∀ d os, Calls Tryz.prog 22 #[.slice ta tn tc] (grow (redrawn wq d) os) fun e w' => e = .returned (.bool Q) ∧ Below (grow (redrawn wq d) os).heap.size (grow (redrawn wq d) os) w') := Lib.hid fun d os =>
              rValid_any _ (l k) Q _ (HFT.out.below (below_regrown wq d os)) HTm.out.ints HTm.out.few hQ
            have HSA : Hid (∀ (v : Value) (D : Bool), (v = .slice za zn zc ∧ D = D1) ∨ (v = .slice ma mn mc ∧ D = D2) → ∀ d os, Calls Tryz.prog 23 #[.slice ta tn tc, v] (grow (redrawn wq d) os) fun e w' => e = .returned (.bool D) ∧ Below (grow (redrawn wq d) os).heap.size (grow (redrawn wq d) os) w') := Lib.hid fun v D h d os => by
              have hb := below_regrown wq d os
              rcases h with ⟨rfl, rfl⟩ | ⟨rfl, rfl⟩
              · exact Same_any _ _ (l k) (l 0) _ _ (HFT.out.below hb) (HFZ.out.below hb) hD1
              · exact Same_any _ _ (l k) lm _ _ (HFT.out.below hb) (HFM.out.below hb) hD2
            have HRS : Hid (∀ (v : Value) (D : Bool), (v = .slice za zn zc ∧ D = D1) ∨ (v = .slice ma mn mc ∧ D = D2) → ∀ d os, Calls Tryz.prog 18 #[.slice ta tn tc, v] (grow (redrawn wq d) os) fun e w' => e = .returned (.bool D) ∧ Below (grow (redrawn wq d) os).heap.size (grow (redrawn wq d) os) w') := Lib.hid fun v D h d os => by
              have hb := below_regrown wq d os
              rcases h with ⟨rfl, rfl⟩ | ⟨rfl, rfl⟩
              · exact rSame_any _ _ (l k) (l 0) _ _ (HFT.out.below hb) (HFZ.out.below hb) hD1
              · exact rSame_any _ _ (l k) lm _ _ (HFT.out.below hb) (HFM.out.below hb) hD2
            have n1 : (Q != Q) = false := by simp
            have n2 : (D1 != D1) = false := by simp
            have n3 : (D2 != D2) = false := by simp
            have g0 := fun d os => cell_regrown ct d os
            have HQW := Lib.hid (HI.out.trans (HQ5.out.mono HI.out.size))
            clear ct hQ hD1 hD2 hzn hZ T9 HFZ HFT HFM HER
            go_wp2_with fail
            refine wp_region_quiet_below (by kernel_rfl) (by kernel_rfl) ?_
            repeat (first
              | go_big_quiet_step (first | (go_at_call 21; exact Calls.regrown_of (HVA.out _ _)) | (go_at_call 22; exact Calls.regrown_of (HRV.out _ _)) | (go_at_call 23; exact Calls.regrown_of (HSA.out _ _ (by first | exact .inl ⟨rfl, rfl⟩ | exact .inr ⟨rfl, rfl⟩) _ _)) | (go_at_call 18; exact Calls.regrown_of (HRS.out _ _ (by first | exact .inl ⟨rfl, rfl⟩ | exact .inr ⟨rfl, rfl⟩) _ _)))
              | quiet_step (first | (go_at_call 21; exact Calls.regrown_of (HVA.out _ _)) | (go_at_call 22; exact Calls.regrown_of (HRV.out _ _)) | (go_at_call 23; exact Calls.regrown_of (HSA.out _ _ (by first | exact .inl ⟨rfl, rfl⟩ | exact .inr ⟨rfl, rfl⟩) _ _)) | (go_at_call 18; exact Calls.regrown_of (HRS.out _ _ (by first | exact .inl ⟨rfl, rfl⟩ | exact .inr ⟨rfl, rfl⟩) _ _))))
            refine wpQuiet_nil ?_
            intro _ hw'
            obtain ⟨⟨dq, osq⟩, hw''⟩ := hw'
            subst hw''
            have HE : Hid (Below ws.heap.size ws (grow (redrawn wq dq) osq)) := Lib.hid (HQW.out.trans ((below_regrown wq dq osq).mono HQW.out.size))
            clear g0 HVA HRV HSA HRS
            go_wp2_with fail
            exact ⟨⟨k + 1, by omega, by go_num, HE⟩, by simp [intOf]; omega⟩
      · obtain rfl : k = 4 := by omega
        go_wp2_with fail
        go_ret
        exact ⟨rfl, HTH.out.b.trans (HI.out.mono HTH.out.b.size)⟩
end Go.Proofs.YtcnokccgdiodlaaGreatDoor
