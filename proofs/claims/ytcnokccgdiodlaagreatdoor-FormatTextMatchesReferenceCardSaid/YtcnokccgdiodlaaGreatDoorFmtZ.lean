/- Parse: the lines of a string, one after another. Conditions: a string of limited length; what the functions of texts read of memory. -/
import Derived.Test.YtcnokccgdiodlaaGreatDoorFmtY
import Derived.RegionDies
namespace Go.Proofs.YtcnokccgdiodlaaGreatDoor
open Go.RowKit Go.Shelf Fx

/-- A table stays where no block of its own is written. -/
theorem TabAt.own_stay {w w' : World} {P : Nat → Prop} {tb : Nat} {s : St} (h : TabAt w P tb s) (hs : w.heap.size ≤ w'.heap.size) (h1 : ∀ k, k < w.heap.size → ¬ P k → w'.heap[k]? = w.heap[k]?)
    (h2 : ∀ (g : Nat) (cur : Array Value), w.heap[g]? = some (Obj.cells cur 56 (0, 0)) → w'.heap[g]? = w.heap[g]?) : TabAt w' P tb s := by
  obtain ⟨cs, mb, b1, b2, c, b3, vF, vs, vO, hC, hO⟩ := h
  have hl := hC.boxes.lt
  exact ⟨cs, mb, b1, b2, c, b3, vF, vs, vO, { hC with
    blk := (h1 _ hC.blk.lt hC.pT).trans hC.blk
    boxes := hC.boxes.of_blocks fun k hk => h1 k (by unfold BoxB at hk; omega) (hC.pB k hk)
    map := hC.map.of_block (h1 _ hC.map.lt hC.pM)
    rowF := own_keep hC.rowF fun g cur hg hh => h1 g (lt_of_heap hh) (hC.pF g hg)
    done := fun i hi => own_keep (hC.done i hi) fun g cur _ hh => h2 g cur hh
    pin := fun k hk => Nat.lt_of_lt_of_le (hC.pin k hk) hs }, { hO with
    rowO := own_keep hO.rowO fun g cur hg hh => h1 g (lt_of_heap hh) (hO.pO g hg) }⟩
theorem TabAt.cut {w w' : World} {P : Nat → Prop} {tb bm br bp : Nat} {c : UInt8} {ps : List (List UInt8)} {s : St} (h : TabAt w P tb s) (hC : CutAt w bm br bp c ps) (hk : CutTo bm br w w') (h1 : P bm) (h2 : P br) : TabAt w' P tb s :=
  h.own_stay hk.size (fun k hl hp => hk.block k ⟨hl, fun e => hp (e ▸ h1), fun e => hp (e ▸ h2)⟩) (fun g cur hg => by
    obtain ⟨t, ht, _⟩ := hC.rest
    refine hk.block g ⟨lt_of_heap hg, fun e => ?_, fun e => ?_⟩
    · rw [e, hC.more] at hg; cases hg
    · rw [e, ht] at hg; cases hg)
theorem TabAt.put_int {w : World} {P : Nat → Prop} {tb bl : Nat} {cs : Array Value} {s : St} (h : TabAt w P tb s) (hb : Blk w bl 3 cs) (h1 : P bl) (v : Value) : TabAt (w.setCell ⟨bl, 0, none⟩ v) P tb s :=
  h.own_stay (by simp [World.setCell]) (fun k _ hp => Below.heap_setCell _ _ _ _ (fun e => hp (e ▸ h1))) (fun g cur hg => Below.heap_setCell _ _ _ _ (fun e => by
    unfold Blk at hb
    rw [e, hb] at hg; cases hg))
/-- What Parse's function has captured, and what must not be touched. -/
structure PC (P : Nat → Prop) (bl bn bt bx bm br bp : Nat) : Prop where
  l : P bl
  n : P bn
  t : P bt
  x : P bx
  m : P bm
  r : P br
  p : P bp
  e : P 0
  g1 : P 4
  g2 : P 1
  g3 : P 2
  g4 : P 3
  ng : bl ≠ 1
theorem Txt.kept {P : Nat → Prop} {w w' : World} {a : Addr} {bl bn bt bx bm br bp : Nat} (h : Txt w a) (hk : Kept P w w') (hp : PC P bl bn bt bx bm br bp) : Txt w' a := by
  obtain ⟨m, hm⟩ := h.max
  obtain ⟨t1, p1, h1⟩ := h.syn
  obtain ⟨t2, p2, h2⟩ := h.rng
  refine ⟨⟨(hk.cell (p := ⟨_, 0, none⟩) hp.e).trans h.err.cell⟩, ?_, ⟨m, (hk.cell (p := ⟨_, 0, none⟩) hp.g2).trans hm⟩, ⟨t1, p1, (hk.cell (p := ⟨_, 0, none⟩) hp.g3).trans h1⟩, ⟨t2, p2, (hk.cell (p := ⟨_, 0, none⟩) hp.g4).trans h2⟩⟩
  have ht := h.tab
  unfold Lib.TabIs World.var? at ht ⊢
  rw [gPow] at ht ⊢
  simp only [Option.bind_some] at ht ⊢
  rw [hk.block _ hp.g1]
  exact ht
theorem CutAt.kept {P : Nat → Prop} {w w' : World} {bl bn bt bx bm br bp : Nat} {c : UInt8} {ps : List (List UInt8)} (h : CutAt w bm br bp c ps) (hk : Kept P w w') (hp : PC P bl bn bt bx bm br bp) : CutAt w' bm br bp c ps :=
  h.keep fun k e => hk.block k (by
    rcases e with rfl | rfl | rfl
    · exact hp.m
    · exact hp.r
    · exact hp.p)
/-- What stands while lines are read. -/
structure LM (P : Nat → Prop) (tb bl bn bt bx bm br bp N : Nat) (er : Addr) (w : World) (k : Nat) (ps : List (List UInt8)) (s : St) : Prop where
  sh : Short ps
  cut : CutAt w bm br bp 10 ps
  tab : TabAt w P tb s
  good : Fx.Good s
  hl : w.heap[bl]? = some (.cells #[.int .i64 k] 3 (0, 0))
  hn : w.heap[bn]? = some (.cells #[.int .i64 N] 3 (0, 0))
  ht : w.heap[bt]? = some (.cells #[adr tb] 65 (0, 0))
  hx : w.heap[bx]? = some (.cells #[cutV bm br bp] 83 (0, 0))
  nl : bl ≠ bn
  txt : Txt w er
/-- What a round of the lines keeps. -/
abbrev PQ (P : Nat → Prop) (bl bm br : Nat) : Nat → Prop := fun k => P k ∧ k ≠ bl ∧ k ≠ bm ∧ k ≠ br
section
variable {P : Nat → Prop} {tb bl bn bt bx bm br bp N : Nat} {er : Addr} {w w' : World} {k : Nat} {p : List UInt8} {ps : List (List UInt8)} {s s1 : St}
theorem LM.pin (h : LM P tb bl bn bt bx bm br bp N er w k ps s) : ∀ k, P k → k < w.heap.size := by
  obtain ⟨_, _, _, _, _, _, _, _, _, h2⟩ := h.tab.cells_
  exact h2
theorem LM.next (h : LM P tb bl bn bt bx bm br bp N er w k (p :: ps) s) (hp : PC P bl bn bt bx bm br bp) : Calls Tryz.prog 66 #[adr bm, adr br, adr bp] w fun e w' =>
    e = .returned (.string (bs p)) ∧ LM P tb bl bn bt bx bm br bp N er w' k ps s ∧ Kept (PQ P bl bm br) w w' := by
  refine (next_any bm br bp 10 (p :: ps) er w h.cut h.txt).mono ?_
  rintro e w1 ⟨rfl, hC, hk⟩
  refine ⟨rfl, ⟨fun q hq => h.sh q (List.mem_cons_of_mem _ hq), hC, h.tab.cut h.cut hk hp.m hp.r, h.good, ?_, ?_, ?_, ?_, h.nl, h.txt.cut h.cut hk⟩, hk.mono fun i hi => ⟨h.pin i hi.1, hi.2.2.1, hi.2.2.2⟩⟩
  · exact (h.cut.far hk _ _ _ _ h.hl (by simp) (by simp)).trans h.hl
  · exact (h.cut.far hk _ _ _ _ h.hn (by simp) (by simp)).trans h.hn
  · exact (h.cut.far hk _ _ _ _ h.ht (by simp) (by simp)).trans h.ht
  · exact (h.cut.far hk _ _ _ _ h.hx (by simp) (by simp)).trans h.hx
theorem LM.step (h : LM P tb bl bn bt bx bm br bp N er w k ps s) (hp : PC P bl bn bt bx bm br bp) (hk : Kept P w w') (hT : TabAt w' P tb s1) (hG : Fx.Good s1) : LM P tb bl bn bt bx bm br bp N er w' k ps s1 :=
  ⟨h.sh, h.cut.kept hk hp, hT, hG, (hk.block _ hp.l).trans h.hl, (hk.block _ hp.n).trans h.hn, (hk.block _ hp.t).trans h.ht, (hk.block _ hp.x).trans h.hx, h.nl, h.txt.kept hk hp⟩
theorem LM.drew (h : LM P tb bl bn bt bx bm br bp N er w k ps s) : LM P tb bl bn bt bx bm br bp N er w.drew k ps s :=
  ⟨h.sh, h.cut.below (Below.refl _ _).drew, h.tab.below (Below.refl _ _).drew, h.good, h.hl, h.hn, h.ht, h.hx, h.nl, h.txt.below (Below.refl _ _).drew⟩
theorem LM.incr (h : LM P tb bl bn bt bx bm br bp N er w k ps s) (hp : PC P bl bn bt bx bm br bp) (j : Nat) : LM P tb bl bn bt bx bm br bp N er (w.setCell ⟨bl, 0, none⟩ (.int .i64 j)) j ps s ∧ Kept (PQ P bl bm br) w (w.setCell ⟨bl, 0, none⟩ (.int .i64 j)) := by
  have ne : ∀ g, g ≠ bl → (w.setCell ⟨bl, 0, none⟩ (.int .i64 j)).heap[g]? = w.heap[g]? := fun g hg => Below.heap_setCell _ _ _ _ hg
  have e1 : ∀ {g : Nat} {cs : Array Value} {t : TypeId}, t ≠ 3 → w.heap[g]? = some (.cells cs t (0, 0)) → (w.setCell ⟨bl, 0, none⟩ (.int .i64 j)).heap[g]? = some (.cells cs t (0, 0)) := fun {g cs t} ht hg => by
    rw [ne g (fun e => by rw [e, h.hl] at hg; cases hg; exact ht rfl)]; exact hg
  obtain ⟨t, ht, ht2, ht3⟩ := h.cut.rest
  have hk : Kept (fun k => P k ∧ k ≠ bl) w (w.setCell ⟨bl, 0, none⟩ (.int .i64 j)) := ⟨rfl, rfl, rfl, by simp [World.setCell], fun k hk => ne k hk.2⟩
  refine ⟨⟨h.sh, ⟨e1 (by decide) h.cut.more, ⟨t, e1 (by decide) ht, ht2, ht3⟩, e1 (by decide) h.cut.sep, h.cut.nr⟩, h.tab.put_int (cs := #[.int .i64 k]) h.hl hp.l _, h.good, ?_, (ne _ (Ne.symm h.nl)).trans h.hn, e1 (by decide) h.ht, e1 (by decide) h.hx, h.nl, ?_⟩, hk.mono fun i hi => ⟨hi.1, hi.2.1⟩⟩
  · exact Blk.set_ (w := w) h.hl 0 (.int .i64 j)
  · have hX := h.txt
    have far : ∀ {g : Nat} {cs : Array Value} {t : TypeId} {fr : Nat × Nat}, w.heap[g]? = some (.cells cs t fr) → (∀ n : Nat, cs ≠ #[.int .i64 n]) → g ≠ bl := fun hg hn e => by
      rw [e, h.hl] at hg; cases hg; exact hn _ rfl
    have fc : ∀ {g : Nat} {v : Value}, w.cell? ⟨g, 0, none⟩ = some v → (∀ n : Nat, v ≠ .int .i64 n) → (w.setCell ⟨bl, 0, none⟩ (.int .i64 j)).cell? ⟨g, 0, none⟩ = some v := fun {g v} hg hv => by
      obtain ⟨cs, t, fr, hh, h0⟩ := cell_heap hg
      have := ne g (far hh fun n e => by subst e; simp at h0; exact hv n h0.symm)
      rw [World.cell?_of_block (w := w) (a := ⟨g, 0, none⟩) this]; exact hg
    obtain ⟨m, hm⟩ := hX.max
    obtain ⟨t1, p1, h1⟩ := hX.syn
    obtain ⟨t2, p2, h2⟩ := hX.rng
    refine ⟨⟨fc hX.err.cell (by simp)⟩, ?_, ⟨m, ?_⟩, ⟨t1, p1, fc h1 (by simp)⟩, ⟨t2, p2, fc h2 (by simp)⟩⟩
    · have ht := hX.tab
      unfold Lib.TabIs World.var? at ht ⊢
      rw [gPow] at ht ⊢
      simp only [Option.bind_some] at ht ⊢
      split at ht
      · rename_i cs t fr hh
        have hsz : cs.size = Lib.pow10Tab.length := by
          have := Option.some.inj ht
          rw [this]; simp
        have hne : Lib.pow10Tab.length ≠ 1 := by decide
        rw [ne _ (far hh fun n e => hne (by rw [← hsz, e]; rfl)), hh]
        exact ht
      · cases ht
    · rw [World.cell?_of_block (w := w) (a := ⟨1, 0, none⟩) (ne _ (Ne.symm hp.ng))]; exact hm
end
/-- What stands at each line. -/
structure LS (P : Nat → Prop) (tb bl bn bt bx bm br bp N : Nat) (R : PR) (er : Addr) (w : World) (k : Nat) (ps : List (List UInt8)) (s : St) : Prop where
  len : ps.length + k = N + 1
  ne : ps ≠ []
  res : parseL s ps k = R
  m : LM P tb bl bn bt bx bm br bp N er w k ps s
/-- What the reading of lines ends in. -/
def LinesPost (P : Nat → Prop) (tb bl : Nat) (R : PR) (er : Addr) (e : Ending) (w' : World) : Prop :=
  match R with
  | .ok s => e = .returned (.tuple #[]) ∧ TabEnd w' P tb s
  | .bad k => e = .panicked [{ v := errV er, recovered := false }] ∧ w'.heap[bl]? = some (.cells #[.int .i64 k] 3 (0, 0))
theorem bad_post {P : Nat → Prop} {tb bl bm br : Nat} {R : PR} {er : Addr} {k : Nat} {w w' : World} (hR : R = .bad k) (h1 : w'.heap[bl]? = some (.cells #[.int .i64 k] 3 (0, 0))) (hk : Kept (PQ P bl bm br) w w') :
    LinesPost P tb bl R er (.panicked [{ v := errV er, recovered := false }]) w' ∧ Kept (PQ P bl bm br) w w' := by
  subst hR
  exact ⟨⟨rfl, h1⟩, hk⟩
set_option maxRecDepth 100000 in
set_option maxHeartbeats 4000000 in
theorem lines_any (P : Nat → Prop) (tb bl bn bt bx bm br bp N : Nat) (R : PR) (er : Addr) (w : World) (ps0 : List (List UInt8)) (hN : N ≤ 1000000000) (hPC : PC P bl bn bt bx bm br bp) (hL : LS P tb bl bn bt bx bm br bp N R er w 1 ps0 st0) :
    Calls Tryz.prog 47 #[adr bl, adr bn, adr bt, adr bx] w fun e w' => LinesPost P tb bl R er e w' ∧ Kept (PQ P bl bm br) w w' := by
  have HP := Lib.hid hPC
  have HL := Lib.hid hL
  clear hPC hL
  go_enter Tryz.func47, Tryz.ntmps47
  go_wp2_with fail
  go_loopw [] (fun wr => ∃ (k : Nat) (ps : List (List UInt8)) (s : St), Hid (LS P tb bl bn bt bx bm br bp N R er wr k ps s ∧ Kept (PQ P bl bm br) w wr)) (fun wr => N - (intOf ((wr.cell? ⟨bl, 0, none⟩).getD undef)).toNat)
  case atStart => exact ⟨1, ps0, st0, Lib.hid ⟨HL.out, Kept.refl _ _⟩⟩
  case round =>
    obtain ⟨k, ps, s, HI⟩ := hrel
    have hM := HI.out.1.m
    have q1 : wr.cell? ⟨bl, 0, none⟩ = some (.int .i64 k) := cell_of_row _ _ _ _ _ _ hM.hl
    have q2 : wr.cell? ⟨bn, 0, none⟩ = some (.int .i64 N) := cell_of_row _ _ _ _ _ _ hM.hn
    have q3 : wr.cell? ⟨bt, 0, none⟩ = some (adr tb) := cell_of_row _ _ _ _ _ _ hM.ht
    have q4 : wr.cell? ⟨bx, 0, none⟩ = some (cutV bm br bp) := cell_of_row _ _ _ _ _ _ hM.hx
    cases ps with
    | nil => exact absurd rfl HI.out.1.ne
    | cons p ps =>
      cases ps with
      | nil =>
        have hkN : k = N := by have := HI.out.1.len; simp at this; omega
        have d1 : ¬ (k : Int) < (N : Int) := by omega
        have HR : Hid ((if p = [] then (match endO s with | some s1 => PR.ok s1 | none => .bad k) else .bad k) = R) := Lib.hid HI.out.1.res
        have HN := Lib.hid (hM.next HP.out)
        have HK := Lib.hid HI.out.2
        clear hM HI
        go_wp2_with fail
        refine HN.out.mono ?_
        rintro e w1 ⟨rfl, h1, hk1⟩
        have H1 := Lib.hid (And.intro h1 (HK.out.trans hk1))
        clear h1 hk1 HN HK
        by_cases hp : p = []
        · subst hp
          have hst : bs ([] : List UInt8) = (⟨#[]⟩ : ByteArray) := rfl
          rw [hst]
          have HRU : Hid ((match endO s with | some s1 => PR.ok s1 | none => .bad k) = R) := Lib.hid (by rw [← HR.out, if_pos rfl])
          clear HR
          have g3 : w1.cell? ⟨bt, 0, none⟩ = some (adr tb) := cell_of_row _ _ _ _ _ _ H1.out.1.ht
          go_wp2_with fail
          refine (require_any true er _ H1.out.1.txt.err).mono ?_
          rintro e w2 ⟨rfl, rfl⟩
          unfold ends
          go_wp2_with fail
          refine (end_any P tb s er w1 H1.out.1.tab H1.out.1.txt.err H1.out.1.good).mono ?_
          rintro e w2 ⟨rfl, hk2, hT2⟩
          have hk3 : Kept (PQ P bl bm br) w w2 := H1.out.2.trans (hk2.mono fun i hi => hi.1)
          have hb2 : w2.heap[bl]? = some (.cells #[.int .i64 k] 3 (0, 0)) := (hk2.block _ HP.out.l).trans H1.out.1.hl
          obtain ⟨E, hE⟩ : ∃ E, E = endO s := ⟨_, rfl⟩
          have HR3 := Lib.hid HRU.out
          rw [← hE] at HR3 hT2 ⊢
          have H2 := Lib.hid (And.intro hk3 (And.intro hb2 hT2))
          clear hk2 hT2 hk3 hb2 H1 HRU hE
          cases E with
          | none =>
            simp only [Option.isSome_none]
            unfold ends
            go_wp2_with fail
            exact ⟨rfl, bad_post HR3.out.symm H2.out.2.1 H2.out.1⟩
          | some s1 =>
            simp only [Option.isSome_some]
            have hR : R = .ok s1 := HR3.out.symm
            unfold ends
            go_wp2_with fail
            go_end0
            subst hR
            exact ⟨⟨rfl, H2.out.2.2 s1 rfl⟩, H2.out.1⟩
        · have hR : R = .bad k := by rw [← HR.out, if_neg hp]
          have hv : (p == []) = false := beq_false_of_ne hp
          clear hp HR
          go_wp2_with fail
          refine (require_any false er _ H1.out.1.txt.err).mono ?_
          rintro e w2 ⟨rfl, rfl⟩
          unfold ends
          go_wp2_with fail
          exact ⟨rfl, bad_post hR H1.out.1.hl H1.out.2⟩
      | cons q qs =>
        have hkN : k < N := by have := HI.out.1.len; simp at this; omega
        have d1 : (k : Int) < (N : Int) := by omega
        have hres := HI.out.1.res
        rw [parseL_more (by simp)] at hres
        have HLEN := Lib.hid HI.out.1.len
        have hps := hM.sh p (by simp)
        have HN : Hid (∀ w', w' = wr ∨ w' = wr.drew → Calls Tryz.prog 66 #[adr bm, adr br, adr bp] w' fun e w1 => e = .returned (.string (bs p)) ∧ LM P tb bl bn bt bx bm br bp N er w1 k (q :: qs) s ∧ Kept (PQ P bl bm br) w' w1) := Lib.hid (fun w' h => by
          rcases h with rfl | rfl
          · exact hM.next HP.out
          · exact hM.drew.next HP.out)
        have HK := Lib.hid HI.out.2
        have HK1 := Lib.hid HI.out.2.drew
        have EN : Enters 66 := enters_of Tryz.func66 (by kernel_rfl) (by kernel_rfl)
        unfold Enters at EN
        obtain ⟨rd, hrd⟩ : ∃ rd, rd = readO s p := ⟨_, rfl⟩
        rw [← hrd] at hres
        have HRD := Lib.hid hrd
        clear hM HI hrd
        cases rd with
        | none =>
          have hR : R = .bad k := hres.symm
          clear hres
          go_wp2_with fail
          refine wp_region_any (by kernel_rfl) ?_
          try (change wpAny _ _ _ _ _ _ _ (World.drew _))
          refine wpAny_ready (rs := [0,1]) (by kernel_rfl) (by simp) ?_
          refine AllReady.cons rfl (fun K hK => ?_) ?_
          · go_simp
            (refine hK _ _ ?_; clear hK K)
            refine wpAny_ready (rs := [1]) (by kernel_rfl) (by simp) ?_
            refine AllReady.cons rfl (fun K hK => ?_) ?_
            · go_simp
              (refine hK _ _ ?_; clear hK K)
              refine wpAny_ready (rs := [2]) (by kernel_rfl) (by simp) ?_
              refine AllReady.cons rfl (fun K hK => ?_) ?_
              · go_simp
                go_wp2_with (go_at_call 66; refine (HN.out _ (by first | exact .inl rfl | exact .inr rfl)).mono ?_; rintro e w1 ⟨rfl, h1, hk1⟩; have q5 := cell_of_row _ _ 0 _ _ _ h1.ht; have q6 := cell_of_row _ _ 0 _ _ _ h1.hx)
                refine wpAny_ready (rs := [3]) (by kernel_rfl) (by simp) ?_
                refine AllReady.cons rfl (fun K hK => ?_) ?_
                · go_simp
                  go_wp2_with (go_at_call 48; refine (read1_any P tb s p er _ h1.tab h1.txt HP.out.e h1.good hps).mono ?_; rintro e w2 ⟨rfl, hk2, hT2⟩; rw [← HRD.out]; simp only [Option.isSome_none]; unfold ends; exact ⟨rfl, bad_post hR ((hk2.block _ HP.out.l).trans h1.hl) (Kept.trans (by first | exact HK1.out | exact HK.out) (hk1.trans (hk2.mono fun i hi => hi.1)))⟩)
                exact AllReady.nil
              exact AllReady.nil
            exact AllReady.nil
          refine AllReady.cons rfl (fun K hK => ?_) ?_
          · go_simp
            (refine hK _ _ ?_; clear hK K)
            refine wpAny_ready (rs := [0,2]) (by kernel_rfl) (by simp) ?_
            refine AllReady.cons rfl (fun K hK => ?_) ?_
            · go_simp
              (refine hK _ _ ?_; clear hK K)
              refine wpAny_ready (rs := [2]) (by kernel_rfl) (by simp) ?_
              refine AllReady.cons rfl (fun K hK => ?_) ?_
              · go_simp
                go_wp2_with (go_at_call 66; refine (HN.out _ (by first | exact .inl rfl | exact .inr rfl)).mono ?_; rintro e w1 ⟨rfl, h1, hk1⟩; have q5 := cell_of_row _ _ 0 _ _ _ h1.ht; have q6 := cell_of_row _ _ 0 _ _ _ h1.hx)
                refine wpAny_ready (rs := [3]) (by kernel_rfl) (by simp) ?_
                refine AllReady.cons rfl (fun K hK => ?_) ?_
                · go_simp
                  go_wp2_with (go_at_call 48; refine (read1_any P tb s p er _ h1.tab h1.txt HP.out.e h1.good hps).mono ?_; rintro e w2 ⟨rfl, hk2, hT2⟩; rw [← HRD.out]; simp only [Option.isSome_none]; unfold ends; exact ⟨rfl, bad_post hR ((hk2.block _ HP.out.l).trans h1.hl) (Kept.trans (by first | exact HK1.out | exact HK.out) (hk1.trans (hk2.mono fun i hi => hi.1)))⟩)
                exact AllReady.nil
              exact AllReady.nil
            refine AllReady.cons rfl (fun K hK => ?_) ?_
            · go_simp
              go_wp2_with (go_at_call 66; refine (HN.out _ (by first | exact .inl rfl | exact .inr rfl)).mono ?_; rintro e w1 ⟨rfl, h1, hk1⟩; have q5 := cell_of_row _ _ 0 _ _ _ h1.ht; have q6 := cell_of_row _ _ 0 _ _ _ h1.hx)
              refine wpAny_ready (rs := [0]) (by kernel_rfl) (by simp) ?_
              refine AllReady.cons rfl (fun K hK => ?_) ?_
              · go_simp
                (refine hK _ _ ?_; clear hK K)
                refine wpAny_ready (rs := [3]) (by kernel_rfl) (by simp) ?_
                refine AllReady.cons rfl (fun K hK => ?_) ?_
                · go_simp
                  go_wp2_with (go_at_call 48; refine (read1_any P tb s p er _ h1.tab h1.txt HP.out.e h1.good hps).mono ?_; rintro e w2 ⟨rfl, hk2, hT2⟩; rw [← HRD.out]; simp only [Option.isSome_none]; unfold ends; exact ⟨rfl, bad_post hR ((hk2.block _ HP.out.l).trans h1.hl) (Kept.trans (by first | exact HK1.out | exact HK.out) (hk1.trans (hk2.mono fun i hi => hi.1)))⟩)
                exact AllReady.nil
              exact AllReady.nil
            exact AllReady.nil
          exact AllReady.nil
        | some s1 =>
          have HR : Hid (parseL s1 (q :: qs) (k + 1) = R) := Lib.hid hres
          clear hres
          go_wp2_with fail
          go_region_with (first | (go_at_call 66; refine (HN.out _ (by first | exact .inl rfl | exact .inr rfl)).mono ?_; rintro e w1 ⟨rfl, h1, hk1⟩; have q5 := cell_of_row _ _ 0 _ _ _ h1.ht; have q6 := cell_of_row _ _ 0 _ _ _ h1.hx) | (go_at_call 48; refine (read1_any P tb s p er _ h1.tab h1.txt HP.out.e h1.good hps).mono ?_; rintro e w2 ⟨rfl, hk2, hT2⟩; rw [← HRD.out]; simp only [Option.isSome_some]; unfold ends))
          all_goals
            have hG1 : Fx.Good s1 := by
              have h := HRD.out.symm
              unfold readO at h
              split at h
              · cases h
              · rename_i x _
                cases x with
                | head id => exact Fx.Good.begin_ h1.good h
                | fld f => exact Fx.Good.add_ h1.good h
            have HF := Lib.hid (And.intro (h1.step HP.out hk2 (hT2 s1 HRD.out.symm) hG1) (Kept.trans (a := w) (P := PQ P bl bm br) (by first | exact HK1.out | exact HK.out) (hk1.trans (hk2.mono fun i hi => hi.1))))
            clear hT2 hk2 h1 hk1 hG1 HN HK HK1 HRD q5 q6
            have q1 : w2.cell? ⟨bl, 0, none⟩ = some (.int .i64 k) := cell_of_row _ _ _ _ _ _ HF.out.1.hl
            have q5 : w2.frozen? ⟨bl, 0, none⟩ = false := Blk.frozen (w := w2) HF.out.1.hl 0
            go_wp2_with fail
            refine ⟨⟨k + 1, q :: qs, s1, Lib.hid ?_⟩, ?_⟩
            · have e : ((k : Int) + 1) = ((k + 1 : Nat) : Int) := by omega
              rw [e]
              have hi := HF.out.1.incr HP.out (k + 1)
              exact ⟨⟨by have := HLEN.out; simp at this ⊢; omega, by simp, HR.out, hi.1⟩, HF.out.2.trans hi.2⟩
            · have e : (w2.setCell ⟨bl, 0, none⟩ (.int .i64 ((k : Int) + 1))).cell? ⟨bl, 0, none⟩ = some (.int .i64 ((k : Int) + 1)) := by
                have hi := (HF.out.1.incr HP.out (k + 1)).1.hl
                exact cell_of_row _ _ 0 _ _ _ hi
              have qb : wr.cell? ⟨bl, 0, none⟩ = some (.int .i64 k) := by assumption
              rw [e, qb]
              simp [intOf]; omega
end Go.Proofs.YtcnokccgdiodlaaGreatDoor
