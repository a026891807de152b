/- A value is written, by induction over the formats. Conditions: the writer lies in memory, the formats are valid, the values are short. A value is recognised, by induction over the formats. Conditions: as for its fields. -/
import Derived.Test.YtlhobhfmombjjaaGreatDoorPa16
namespace Go.Proofs.YtlhobhfmombjjaaGreatDoor
section WrR
open Go.RowKit Fx Rec

theorem enters_w_literal : Enters 77 := fun args w => by simp [callFunc, Tryz.func77, Tryz.f77]
theorem enters_w_number : Enters 78 := fun args w => by simp [callFunc, Tryz.func78, Tryz.f78]
theorem enters_w_bytes : Enters 79 := fun args w => by simp [callFunc, Tryz.func79, Tryz.f79]
theorem enters_w_list : Enters 80 := fun args w => by simp [callFunc, Tryz.func80, Tryz.f80]
theorem enters_w_inside : Enters 81 := fun args w => by simp [callFunc, Tryz.func81, Tryz.f81]
theorem enters_w_check : Enters 82 := fun args w => by simp [callFunc, Tryz.func82, Tryz.f82]
section
variable {w w' w1 : World} {o : Wo} {top db : Nat} {fs : List Fld} {u : Value} {j st0 : Nat} {d : Dr} {cs : List Value} {L : List Fm} {σ : Ws} {f : Fld} {k N : Nat}
theorem wkind_any (h : WrAt w o top L σ 0) (hd : DrAt w o top db fs u j st0 d cs) (hj : d.counts.length = j) (h16 : j < 16) (hin : WIn fs st0 d σ) (hc : σ.checks.length < σ.parts) (hfk : FOkW L N fs j f) (hf : f = fs.getD j zf) (hC : ∀ id i, At L id i → i < N → WSubC o top L (wval L N) id) :
    ∃ fn, lkV (kindsW o.wb) f.kind = some (.func (.func fn) #[ptr o.wb] #[]) ∧ Enters fn ∧ Calls Tryz.prog fn #[ptr o.wb, ptr db, fldV f] w fun e w' => KW w o top L 0 db fs u j st0 d (wkind (wval L N) fs st0 j f d σ) e w' := by
  have h1 := hfk.ok.lo
  have h2 := hfk.ok.hi
  have hl := hd.cl
  have hp : σ.parts ≤ 5000 := by obtain ⟨_, _, _, _, _, _, hm⟩ := h; exact hm.pl
  unfold wkind
  obtain e | e | e | e | e | e : f.kind = 1 ∨ f.kind = 2 ∨ f.kind = 3 ∨ f.kind = 4 ∨ f.kind = 5 ∨ f.kind = 6 := by omega
  · refine ⟨_, by rw [e]; rfl, enters_w_literal, ?_⟩
    rw [if_pos e]
    exact kw_literal h hd hj hf e (hfk.ok.k1 e)
  · refine ⟨_, by rw [e]; rfl, enters_w_number, ?_⟩
    rw [if_neg (by omega), if_pos e]
    exact kw_number h hd hj h16 (hfk.ok.k2 (.inl e)).1 (hfk.ok.k2 (.inl e)).2
  · refine ⟨_, by rw [e]; rfl, enters_w_bytes, ?_⟩
    rw [if_neg (by omega), if_neg (by omega), if_pos e]
    refine kw_bytes h hd hj hf e ?_ hin.room hin.tame.short
    rcases hfk.k3 e with h3 | ⟨q, q1, q2, q3, q4, q5⟩
    · exact .inl h3
    · exact .inr ⟨q, q1, by omega, q4, q5, q3⟩
  · refine ⟨_, by rw [e]; rfl, enters_w_list, ?_⟩
    rw [if_neg (by omega), if_neg (by omega), if_neg (by omega), if_pos e]
    obtain ⟨⟨q, e1, hq⟩, i, hi, hiN⟩ := hfk.ok.k4 (.inl e)
    exact kw_list h hd hj hf e q e1 hq hin.small hin.tame (hC _ i hi hiN)
  · refine ⟨_, by rw [e]; rfl, enters_w_inside, ?_⟩
    rw [if_neg (by omega), if_neg (by omega), if_neg (by omega), if_neg (by omega), if_pos e]
    obtain ⟨-, i, hi, hiN⟩ := hfk.ok.k4 (.inr e)
    obtain ⟨q, q1, q2, q3, q4, q5⟩ := hfk.k5 e
    exact kw_inside h hd hj hf e q ⟨q1, by omega, q4, q5, q3⟩ hin.room hin.tame (hC _ i hi hiN)
  · refine ⟨_, by rw [e]; rfl, enters_w_check, ?_⟩
    rw [if_neg (by omega), if_neg (by omega), if_neg (by omega), if_neg (by omega), if_neg (by omega)]
    exact kw_check h hd hj hf e (hfk.ok.k2 (.inr e)).1 (hfk.ok.k2 (.inr e)).2 (by omega)
/-- A block that was not there is not safe. -/
theorem StepW.inner (h1 : StepW o NoX w w1) (h2 : StepW o (At1 db) w1 w') (hd : w.heap.size ≤ db) : StepW o NoX w w' :=
  ⟨h1.base.trans (h2.base.mono fun q hq => ⟨h1.safe q hq.1, fun e => by
    have h3 := hq.1.lt
    have h4 : q = db := e
    omega⟩), fun q hq => h2.safe q (h1.safe q hq), fun _ _ h => h.elim⟩
/-- The number of the field is written. -/
theorem DrAt.field_ (h : DrAt w o top db fs u j st0 d cs) (hw : WrAt w o top L σ k) (i : Nat) :
    StepW o (At1 db) w (w.setCell ⟨db, 1, none⟩ (.int .i64 (i : Nat))) ∧ WrAt (w.setCell ⟨db, 1, none⟩ (.int .i64 (i : Nat))) o top L σ k ∧ DrAt (w.setCell ⟨db, 1, none⟩ (.int .i64 (i : Nat))) o top db fs u i st0 d cs := by
  obtain ⟨h1, h2, h3⟩ := hw.draft_ h.safe h.top_ h.blk 1 (.int .i64 (i : Nat)) (by decide)
  have hX : ∀ q, At1 db q → top ≤ q := fun q hq => hq ▸ h.top_
  refine ⟨h1, h2, { h with blk := h.blk.set_ 1 _, lens := fun q q1 q2 q3 => ?_, flds := h.flds.keep h1.base.size fun b hb => h1.old hX (h.ub b hb), ub := fun b hb => ⟨h3 _ (h.ub b hb).1, (h.ub b hb).2⟩, safe := h3 _ h.safe }⟩
  obtain ⟨x, e1, e2⟩ := h.lens q q1 q2 q3
  exact ⟨x, e1, e2.step h1⟩
/-- A field has begun. -/
theorem WrAt.part_ (h : WrAt w o top L σ k) (hp : σ.parts < 5000) : (w.cell? ⟨o.wb, 3, none⟩ = some (.int .i64 (σ.parts : Nat)) ∧ w.frozen? ⟨o.wb, 3, none⟩ = false) ∧
    StepW o NoX w (w.setCell ⟨o.wb, 3, none⟩ (.int .i64 ((σ.parts + 1 : Nat) : Int))) ∧ WrAt (w.setCell ⟨o.wb, 3, none⟩ (.int .i64 ((σ.parts + 1 : Nat) : Int))) o top L { σ with parts := σ.parts + 1 } k := by
  obtain ⟨hf, vv, vst, vch, vs, chs, hm⟩ := h
  have hP := hm.poke (σ' := { σ with parts := σ.parts + 1 }) (Below.refl _ _) 3 (.int .i64 ((σ.parts + 1 : Nat) : Int)) (vv' := vv) (hm.blk.set_ 3 _) rfl rfl hm.vals hm.sv (by show σ.parts + 1 ≤ 5000; omega)
  exact ⟨⟨by rw [hm.blk.cell]; rfl, hm.blk.frozen 3⟩, hP.1, hf.step hP.1 (fun _ h => h.elim), _, _, _, _, _, hP.2⟩
theorem WrAt.parts_ (h : WrAt w o top L σ k) : w.cell? ⟨o.wb, 3, none⟩ = some (.int .i64 (σ.parts : Nat)) ∧ o.wb < w.heap.size ∧ σ.parts ≤ 5000 := by
  obtain ⟨hf, vv, vst, vch, vs, chs, hm⟩ := h
  exact ⟨by rw [hm.blk.cell]; rfl, hm.blk.lt, hm.pl⟩
theorem WrAt.maps_ (h : WrAt w o top L σ k) : w.cell? ⟨o.wb, 0, none⟩ = some (.map (some o.fb)) ∧ w.cell? ⟨o.wb, 1, none⟩ = some (.map (some o.kb)) := by
  obtain ⟨hf, vv, vst, vch, vs, chs, hm⟩ := h
  exact ⟨by rw [hm.blk.cell]; rfl, by rw [hm.blk.cell]; rfl⟩
theorem wflds_at {sub : WSub} {fs : List Fld} {start k : Nat} {d : Dr} {σ : Ws} (hk : k < fs.length) : wflds sub fs start (fs.drop k) k d σ = (wnext sub fs start k (fs.getD k zf) d σ).bind fun p => wflds sub fs start (fs.drop (k + 1)) (k + 1) ⟨d.counts ++ [p.1], d.lens ++ [p.2.1]⟩ p.2.2 := by
  rw [List.drop_eq_getElem_cons hk, wflds, show fs[k] = fs.getD k zf by rw [List.getD_eq_getElem?_getD, List.getElem?_eq_getElem hk]; rfl]
end
set_option maxRecDepth 20000 in
set_option maxHeartbeats 4000000 in
theorem wval_step (o : Wo) (top : Nat) (L : List Fm) (n : Nat) (hok : Ok L) (hC : ∀ id i, At L id i → i < n → WSubC o top L (wval L n) id) (id : Int) (i : Nat) (hat : At L id i) (hin : i < n + 1) : WSubC o top L (wval L (n + 1)) id := by
  refine ⟨fun w σ h ht => ?_, wval_grows hok (n + 1) id i hat hin⟩
  obtain ⟨fs, hfs⟩ : ∃ fs, fs = (L.getD i zm).fs := ⟨_, rfl⟩
  have hfo : fieldsOf L id = fs := by rw [hfs]; exact fieldsOf_at hok hat
  have hfok : ∀ k, k < fs.length → FOkW L n fs k (fs.getD k zf) := fun k hk => by rw [hfs] at hk ⊢; exact fokw_of hok hat.1 (by omega) hk
  have hfm := hok.each i hat.1
  have hsome := hfm.some_
  have hfew := hfm.few
  rw [← hfs] at hsome hfew
  have hflds := h.1.flds i hat.1
  have hub := fun b hb => h.1.su i b hat.1 hb
  rw [← hfs] at hflds
  obtain ⟨u, hu⟩ : ∃ u, u = o.us.getD i undef := ⟨_, rfl⟩
  rw [← hu] at hflds hub
  obtain ⟨ua, uc, rfl, hul⟩ := hflds.slice_
  obtain ⟨m, hm⟩ : ∃ m, m = fs.length := ⟨_, rfl⟩
  rw [← hm] at hsome hfew hul hu hub
  have hlk : lkV (fieldsE L o.us) id = some (.slice ua m uc) := by rw [hu]; exact fieldsE_at hok h.1.ul hat
  obtain ⟨ub, uo, rfl, -, -, -, hum, -⟩ := hflds.at_ (by omega)
  obtain ⟨sa, sc, c4, hle⟩ := h.stream_
  obtain ⟨c0, -⟩ := h.maps_
  obtain ⟨n0, hn0⟩ : ∃ n0 : Nat, n0 = σ.st.length := ⟨_, rfl⟩
  rw [← hn0] at c4 hle
  obtain ⟨RR, hRR⟩ : ∃ RR, RR = wval L (n + 1) id σ := ⟨_, rfl⟩
  rw [← hRR]
  have HRR : Hid (RR = wflds (wval L n) fs n0 (fs.drop 0) 0 ⟨[], []⟩ σ) := Lib.hid (hRR.trans (show wflds (wval L n) (fieldsOf L id) σ.st.length (fieldsOf L id) 0 ⟨[], []⟩ σ = _ by rw [hfo, ← hn0]; rfl))
  have hlook : ∀ q, (Instr.lookup 108 (.map (some o.fb)) (.int .i64 id) false).run Tryz.prog (w.drewN q) = .ok (.slice (some ⟨ub, uo, none⟩) m uc) (w.drewN q) := fun q =>
    ((h.below (drewN_below w q)).2.2.1.fields).look_ Tryz.underlying108 Tryz.underlying3 hlk false
  have HI0 : Hid (∀ W1 : World, W1 = (w.alloc (.cells #[.slice (some ⟨ub, uo, none⟩) m uc, .int .i64 0, .int .i64 (n0 : Nat), .int .i64 0, .int .i64 0, .int .i64 0, .int .i64 0, .int .i64 0, .int .i64 0, .int .i64 0, .int .i64 0, .int .i64 0, .int .i64 0, .int .i64 0, .int .i64 0, .int .i64 0, .int .i64 0, .int .i64 0, .int .i64 0, .nilFunc, .nilFunc, .nilFunc, .nilFunc, .nilFunc, .nilFunc, .nilFunc, .nilFunc, .nilFunc, .nilFunc, .nilFunc, .nilFunc, .nilFunc, .nilFunc, .nilFunc, .nilFunc] 152)).drew → Below w.heap.size w W1 ∧ DrAt W1 o top w.heap.size fs (.slice (some ⟨ub, uo, none⟩) m uc) 0 n0 ⟨[], []⟩ (List.replicate 16 (.int .i64 0) ++ List.replicate 16 .nilFunc)) := Lib.hid fun W1 hW1 => by
    have hb : Below w.heap.size w W1 := by rw [hW1]; exact (bx _).trans ((drewN_below _ 1).mono (by simp))
    obtain ⟨g1, g2, g3⟩ := h.below hb
    refine ⟨hb, { blk := by rw [hW1]; exact Blk.new w _ _, len := rfl, cnt := fun i hi => ?_, lens := fun i hi => absurd hi (Nat.not_lt_zero _), cl := rfl, flds := by rw [hm]; exact hflds.below hb, ub := fun b hb2 => ⟨g1.safe _ (hub b hb2).1, (hub b hb2).2⟩, safe := g2 _ (Nat.le_refl _) (by rw [hW1]; show w.heap.size < (w.alloc _).heap.size; simp), top_ := h.1.tp }⟩
    rw [List.getElem?_append_left (by simpa using hi), List.getElem?_replicate, if_pos hi]
    simp
  have HH := Lib.hid (And.intro h (And.intro ht (And.intro hfok (And.intro hm (And.intro hfew hn0)))))
  have HC := Lib.hid hC
  clear h ht hfok hu hfs hfo hfm hflds hlk hRR hfew hat hub hn0 hC hok hm
  unfold maxLen at hum
  go_enter Tryz.func83, Tryz.ntmps83
  go_wp2_with fail
  refine wp_region_T 12 (fun w' : World => ∃ n : Nat, w' = w.drewN n) (by kernel_rfl) ⟨1, rfl⟩ (fun hHeld => ?_)
  refine wpAnyT_any (i := 0) (oi := ?o2) (v := ?v2) ?h2 ?a2 ?b2 ?c2 ?d2 ?e2 ?j2 ?q2 (Or.inl ⟨?g2, ?y2⟩) ?s2 ?r2
  case h2 => (simp only [List.getElem?_toArray, List.getElem?_cons_zero]; rfl)
  case a2 => kernel_rfl
  case b2 => kernel_rfl
  case c2 => kernel_rfl
  case d2 => kernel_rfl
  case e2 => kernel_rfl
  case j2 => kernel_rfl
  case q2 => exact fun _ _ _ h => h
  case g2 => rfl
  case y2 => (intro wS _; go_simp; (try with_reducible rfl))
  case s2 => exact fun _ => by assumption
  (try simp only [Act.put, List.setIfInBounds_toArray, List.set_cons_zero, List.set_cons_succ])
  refine wpAnyT_any (i := 1) (oi := ?o4) (v := ?v4) ?h4 ?a4 ?b4 ?c4 ?d4 ?e4 ?j4 ?q4 (Or.inl ⟨?g4, ?y4⟩) ?s4 ?r4
  case h4 => (simp only [List.getElem?_toArray, List.getElem?_cons_zero, List.getElem?_cons_succ]; rfl)
  case a4 => kernel_rfl
  case b4 => kernel_rfl
  case c4 => kernel_rfl
  case d4 => kernel_rfl
  case e4 => kernel_rfl
  case j4 => kernel_rfl
  case q4 => exact fun _ _ _ h => h
  case g4 => rfl
  case y4 => (intro wS _; go_simp; (try with_reducible rfl))
  case s4 => exact fun _ => by assumption
  (try simp only [Act.put, List.setIfInBounds_toArray, List.set_cons_zero, List.set_cons_succ])
  refine wpAnyT_any (i := 2) (oi := ?o6) (v := ?v6) ?h6 ?a6 ?b6 ?c6 ?d6 ?e6 ?j6 ?q6 (Or.inl ⟨?g6, ?y6⟩) ?s6 ?r6
  case h6 => (simp only [List.getElem?_toArray, List.getElem?_cons_zero, List.getElem?_cons_succ]; rfl)
  case a6 => kernel_rfl
  case b6 => kernel_rfl
  case c6 => kernel_rfl
  case d6 => kernel_rfl
  case e6 => kernel_rfl
  case j6 => kernel_rfl
  case q6 => exact fun _ _ _ h => h
  case g6 => rfl
  case y6 => (intro wS _; go_simp; (try with_reducible rfl))
  case s6 => exact fun _ => by assumption
  (try simp only [Act.put, List.setIfInBounds_toArray, List.set_cons_zero, List.set_cons_succ])
  refine wpAnyT_take (i := 3) (oi := ?o7) (v := ?v7) ?h7 ?a7 ?b7 ?c7 ?d7 ?e7 ?f7 ?j7 ?q7 (Or.inl ⟨?g7, ?y7⟩) ?s7 ?r7
  case h7 => (simp only [List.getElem?_toArray, List.getElem?_cons_zero, List.getElem?_cons_succ]; rfl)
  case a7 => kernel_rfl
  case b7 => kernel_rfl
  case c7 => kernel_rfl
  case d7 => kernel_rfl
  case e7 => kernel_rfl
  case f7 => kernel_rfl
  case j7 => kernel_rfl
  case q7 => exact fun _ _ _ h => h
  case g7 => rfl
  case y7 => (intro wS hSw; obtain ⟨nS, rfl⟩ := hSw; go_simp; (try with_reducible rfl))
  case s7 => assumption
  (try simp only [Act.put, List.setIfInBounds_toArray, List.set_cons_zero, List.set_cons_succ])
  refine wpAnyT_any (i := 4) (oi := ?o9) (v := ?v9) ?h9 ?a9 ?b9 ?c9 ?d9 ?e9 ?j9 ?q9 (Or.inl ⟨?g9, ?y9⟩) ?s9 ?r9
  case h9 => (simp only [List.getElem?_toArray, List.getElem?_cons_zero, List.getElem?_cons_succ]; rfl)
  case a9 => kernel_rfl
  case b9 => kernel_rfl
  case c9 => kernel_rfl
  case d9 => kernel_rfl
  case e9 => kernel_rfl
  case j9 => kernel_rfl
  case q9 => exact fun _ _ _ h => h
  case g9 => rfl
  case y9 => (intro wS _; go_simp; (try with_reducible rfl))
  case s9 => exact fun _ => by assumption
  (try simp only [Act.put, List.setIfInBounds_toArray, List.set_cons_zero, List.set_cons_succ])
  refine wpAnyT_take (i := 5) (oi := ?o10) (v := ?v10) ?h10 ?a10 ?b10 ?c10 ?d10 ?e10 ?f10 ?j10 ?q10 (Or.inl ⟨?g10, ?y10⟩) ?s10 ?r10
  case h10 => (simp only [List.getElem?_toArray, List.getElem?_cons_zero, List.getElem?_cons_succ]; rfl)
  case a10 => kernel_rfl
  case b10 => kernel_rfl
  case c10 => kernel_rfl
  case d10 => kernel_rfl
  case e10 => kernel_rfl
  case f10 => kernel_rfl
  case j10 => kernel_rfl
  case q10 => exact fun _ _ _ h => h
  case g10 => rfl
  case y10 => (intro wS hSw; obtain ⟨nS, rfl⟩ := hSw; go_simp; (try with_reducible rfl))
  case s10 => assumption
  (try simp only [Act.put, List.setIfInBounds_toArray, List.set_cons_zero, List.set_cons_succ])
  refine wpAnyT_any (i := 6) (oi := ?o12) (v := ?v12) ?h12 ?a12 ?b12 ?c12 ?d12 ?e12 ?j12 ?q12 (Or.inl ⟨?g12, ?y12⟩) ?s12 ?r12
  case h12 => (simp only [List.getElem?_toArray, List.getElem?_cons_zero, List.getElem?_cons_succ]; rfl)
  case a12 => kernel_rfl
  case b12 => kernel_rfl
  case c12 => kernel_rfl
  case d12 => kernel_rfl
  case e12 => kernel_rfl
  case j12 => kernel_rfl
  case q12 => exact fun _ _ _ h => h
  case g12 => rfl
  case y12 => (intro wS _; go_simp; (try with_reducible rfl))
  case s12 => exact fun _ => by assumption
  (try simp only [Act.put, List.setIfInBounds_toArray, List.set_cons_zero, List.set_cons_succ])
  refine wpAnyT_any (i := 7) (oi := ?o14) (v := ?v14) ?h14 ?a14 ?b14 ?c14 ?d14 ?e14 ?j14 ?q14 (Or.inl ⟨?g14, ?y14⟩) ?s14 ?r14
  case h14 => (simp only [List.getElem?_toArray, List.getElem?_cons_zero, List.getElem?_cons_succ]; rfl)
  case a14 => kernel_rfl
  case b14 => kernel_rfl
  case c14 => kernel_rfl
  case d14 => kernel_rfl
  case e14 => kernel_rfl
  case j14 => kernel_rfl
  case q14 => exact fun _ _ _ h => h
  case g14 => rfl
  case y14 => (intro wS _; go_simp; (try with_reducible rfl))
  case s14 => exact fun _ => by assumption
  (try simp only [Act.put, List.setIfInBounds_toArray, List.set_cons_zero, List.set_cons_succ])
  refine wpAnyT_any (i := 8) (oi := ?o16) (v := ?v16) ?h16 ?a16 ?b16 ?c16 ?d16 ?e16 ?j16 ?q16 (Or.inl ⟨?g16, ?y16⟩) ?s16 ?r16
  case h16 => (simp only [List.getElem?_toArray, List.getElem?_cons_zero, List.getElem?_cons_succ]; rfl)
  case a16 => kernel_rfl
  case b16 => kernel_rfl
  case c16 => kernel_rfl
  case d16 => kernel_rfl
  case e16 => kernel_rfl
  case j16 => kernel_rfl
  case q16 => exact fun _ _ _ h => h
  case g16 => rfl
  case y16 => (intro wS _; go_simp; (try with_reducible rfl))
  case s16 => exact fun _ => by assumption
  (try simp only [Act.put, List.setIfInBounds_toArray, List.set_cons_zero, List.set_cons_succ])
  refine wpAnyT_take (i := 9) (oi := ?o17) (v := ?v17) ?h17 ?a17 ?b17 ?c17 ?d17 ?e17 ?f17 ?j17 ?q17 (Or.inl ⟨?g17, ?y17⟩) ?s17 ?r17
  case h17 => (simp only [List.getElem?_toArray, List.getElem?_cons_zero, List.getElem?_cons_succ]; rfl)
  case a17 => kernel_rfl
  case b17 => kernel_rfl
  case c17 => kernel_rfl
  case d17 => kernel_rfl
  case e17 => kernel_rfl
  case f17 => kernel_rfl
  case j17 => kernel_rfl
  case q17 => exact fun _ _ _ h => h
  case g17 => rfl
  case y17 => (intro wS hSw; obtain ⟨nS, rfl⟩ := hSw; go_simp; (try with_reducible rfl))
  case s17 => assumption
  (try simp only [Act.put, List.setIfInBounds_toArray, List.set_cons_zero, List.set_cons_succ])
  refine wpAnyT_take (i := 10) (oi := ?o18) (v := ?v18) ?h18 ?a18 ?b18 ?c18 ?d18 ?e18 ?f18 ?j18 ?q18 (Or.inl ⟨?g18, ?y18⟩) ?s18 ?r18
  case h18 => (simp only [List.getElem?_toArray, List.getElem?_cons_zero, List.getElem?_cons_succ]; rfl)
  case a18 => kernel_rfl
  case b18 => kernel_rfl
  case c18 => kernel_rfl
  case d18 => kernel_rfl
  case e18 => kernel_rfl
  case f18 => kernel_rfl
  case j18 => kernel_rfl
  case q18 => exact fun _ _ _ h => h
  case g18 => rfl
  case y18 => (intro wS hSw; obtain ⟨nS, rfl⟩ := hSw; go_simp; (try with_reducible rfl))
  case s18 => assumption
  (try simp only [Act.put, List.setIfInBounds_toArray, List.set_cons_zero, List.set_cons_succ])
  refine wpAnyT_any (i := 11) (oi := ?o20) (v := ?v20) ?h20 ?a20 ?b20 ?c20 ?d20 ?e20 ?j20 ?q20 (Or.inl ⟨?g20, ?y20⟩) ?s20 ?r20
  case h20 => (simp only [List.getElem?_toArray, List.getElem?_cons_zero, List.getElem?_cons_succ]; rfl)
  case a20 => kernel_rfl
  case b20 => kernel_rfl
  case c20 => kernel_rfl
  case d20 => kernel_rfl
  case e20 => kernel_rfl
  case j20 => kernel_rfl
  case q20 => exact fun _ _ _ h => h
  case g20 => rfl
  case y20 => (intro wS _; go_simp; (try with_reducible rfl))
  case s20 => exact fun _ => by assumption
  (try simp only [Act.put, List.setIfInBounds_toArray, List.set_cons_zero, List.set_cons_succ])
  refine wpAnyT_ready (rs := [12]) (by kernel_rfl) (by simp) ?_
  refine AllReadyT.cons (o := ?oB21) ?hB21 ?kB21 AllReadyT.nil
  case hB21 => (simp only [List.getElem?_toArray, List.getElem?_cons_zero, List.getElem?_cons_succ]; rfl)
  case kB21 =>
    intro K hK
    go_simp
    refine hK.out _ _ (no_more (by kernel_rfl)) ?_
    clear hK K
    (try simp only [Act.put, List.setIfInBounds_toArray, List.set_cons_zero, List.set_cons_succ])
    generalize hW1 : (w.alloc (.cells #[.slice (some ⟨ub, uo, none⟩) m uc, .int .i64 0, .int .i64 (n0 : Nat), .int .i64 0, .int .i64 0, .int .i64 0, .int .i64 0, .int .i64 0, .int .i64 0, .int .i64 0, .int .i64 0, .int .i64 0, .int .i64 0, .int .i64 0, .int .i64 0, .int .i64 0, .int .i64 0, .int .i64 0, .int .i64 0, .nilFunc, .nilFunc, .nilFunc, .nilFunc, .nilFunc, .nilFunc, .nilFunc, .nilFunc, .nilFunc, .nilFunc, .nilFunc, .nilFunc, .nilFunc, .nilFunc, .nilFunc, .nilFunc] 152)).drew = W1 at *
    refine wpAnyT_any (i := 13) (oi := ?o22) (v := ?v22) ?h22 ?a22 ?b22 ?c22 ?d22 ?e22 ?j22 ?q22 (Or.inl ⟨?g22, ?y22⟩) ?s22 ?r22
    case h22 => (simp only [List.getElem?_toArray, List.getElem?_cons_zero, List.getElem?_cons_succ]; rfl)
    case a22 => kernel_rfl
    case b22 => kernel_rfl
    case c22 => kernel_rfl
    case d22 => kernel_rfl
    case e22 => kernel_rfl
    case j22 => kernel_rfl
    case q22 => exact fun _ _ _ h => h
    case g22 => rfl
    case y22 => (intro wS _; go_simp; (try with_reducible rfl))
    case s22 => exact no_more (by kernel_rfl)
    (try simp only [Act.put, List.setIfInBounds_toArray, List.set_cons_zero, List.set_cons_succ])
    refine wpAnyT_done (by kernel_rfl) ?_ _
    have HI1 := Lib.hid (HI0.out W1 rfl)
    have e0 := HI1.out.2.c0
    clear hlook c0 c4 hW1
    go_wp2_with fail
    have HI2 : Hid (StepW o NoX w W1 ∧ WrAt W1 o top L σ 0 ∧ DrAt W1 o top w.heap.size fs (.slice (some ⟨ub, uo, none⟩) m uc) 0 n0 ⟨[], []⟩ (List.replicate 16 (.int .i64 0) ++ List.replicate 16 .nilFunc) ∧ WIn fs n0 ⟨[], []⟩ σ ∧ wflds (wval L n) fs n0 (fs.drop 0) 0 ⟨[], []⟩ σ = RR) := Lib.hid (by
      obtain ⟨g1, g2, g3⟩ := HH.out.1.below HI1.out.1
      refine ⟨g1, g3, HI1.out.2, ?_, HRR.out.symm⟩
      rw [HH.out.2.2.2.2.2]; exact WIn.first HH.out.2.1)
    clear e0
    go_loopw [25] (fun i wr => ∃ (j jf : Nat) (d : Dr) (σ1 : Ws) (cs : List Value), j ≤ m ∧ i = .int .i64 j ∧ d.counts.length = j ∧ Hid (StepW o NoX w wr ∧ WrAt wr o top L σ1 0 ∧ DrAt wr o top w.heap.size fs (.slice (some ⟨ub, uo, none⟩) m uc) jf n0 d cs ∧ WIn fs n0 d σ1 ∧ wflds (wval L n) fs n0 (fs.drop j) j d σ1 = RR)) (fun i _ => m - (intOf i).toNat)
    case atStart => exact ⟨0, 0, ⟨[], []⟩, σ, _, Nat.zero_le _, rfl, rfl, HI2⟩
    case round =>
      obtain ⟨j, jf, d, σ1, cs, hjm, rfl, hdj, HJ⟩ := hrel
      obtain ⟨wq, rfl⟩ : ∃ wq, wq = wr := ⟨_, rfl⟩
      have hfew := HH.out.2.2.2.2.1
      by_cases hlt : j < m
      · obtain ⟨ub', uo', e0, -, -, -, -, hfl⟩ := HJ.out.2.2.1.flds.at_ (by rw [← HH.out.2.2.2.1]; omega)
        cases e0
        obtain ⟨f, hf⟩ : ∃ f, f = fs.getD j zf := ⟨_, rfl⟩
        have hfa := hfl j (by rw [← HH.out.2.2.2.1]; exact hlt)
        rw [← hf] at hfa
        have g0 := hfa.c0
        have g1 := hfa.c1
        have g2 := hfa.c2
        have g3 := hfa.c3
        have hki : (0 : Int) ≤ (j : Int) ∧ (j : Int) < (m : Int) := by omega
        have hwf : wflds (wval L n) fs n0 (fs.drop j) j d σ1 = _ := wflds_at (by rw [← HH.out.2.2.2.1]; exact hlt)
        rw [HJ.out.2.2.2.2, ← hf] at hwf
        obtain ⟨p3, plt, p5⟩ := HJ.out.2.1.parts_
        obtain ⟨p, hp⟩ : ∃ p : Nat, p = σ1.parts := ⟨_, rfl⟩
        rw [← hp] at p3 p5
        have Hf := Lib.hid (And.intro hf (And.intro hwf (And.intro hp hdj)))
        obtain ⟨W2, hW2⟩ : ∃ W2, W2 = wq.alloc (.cells #[.int .i64 f.kind, .int .i64 f.n, .int .i64 f.frm, .string f.text] 56) := ⟨_, rfl⟩
        have hb2 : Below wq.heap.size wq W2 := by rw [hW2]; exact bx _
        obtain ⟨s1, s2, s3⟩ := HJ.out.2.1.below hb2
        have hB2 : Blk W2 wq.heap.size 56 #[.int .i64 f.kind, .int .i64 f.n, .int .i64 f.frm, .string f.text] := by rw [hW2]; exact Blk.new wq _ _
        have HS2 := Lib.hid (And.intro s1 (And.intro (s2 wq.heap.size (Nat.le_refl _) hB2.lt) (And.intro s3 (And.intro (HJ.out.2.2.1.step s1) hB2))))
        have HL2 := Lib.hid (show w.heap.size < wq.heap.size from HJ.out.2.2.1.safe.lt)
        clear hfl hfa hf hwf hp hdj hb2 s1 s2 s3 hB2
        by_cases hp5 : p < 5000
        · have hd : decide ((p : Int) < 5000) = true := by rw [decide_eq_true_eq]; omega
          go_wp2_with fail
          rw [← hW2]
          clear hW2
          refine (require_yes _).mono ?_
          rintro e w5 ⟨rfl, rfl⟩
          obtain ⟨⟨p3', y3⟩, t1, t2⟩ := HS2.out.2.2.1.part_ (by rw [← Hf.out.2.2.1]; exact hp5)
          rw [← Hf.out.2.2.1] at p3' t1 t2
          have ep : ((p + 1 : Nat) : Int) = (p : Int) + 1 := by omega
          rw [ep] at t1 t2
          have hd3 := HS2.out.2.2.2.1.step t1
          obtain ⟨t4, t5, t6⟩ := hd3.field_ t2 j
          have f1 := hd3.blk.frozen 1
          have z1 := hd3.c1
          have hfb : Blk ((w5.setCell ⟨o.wb, 3, none⟩ (.int .i64 ((p : Int) + 1))).setCell ⟨w.heap.size, 1, none⟩ (.int .i64 (j : Nat))) wq.heap.size 56 #[.int .i64 f.kind, .int .i64 f.n, .int .i64 f.frm, .string f.text] := by
            have hne : wq.heap.size ≠ w.heap.size := by have := HL2.out; omega
            exact (Below.heap_setCell _ _ _ _ hne).trans ((t1.same HS2.out.2.1).trans HS2.out.2.2.2.2)
          have HS3 := Lib.hid (And.intro (((HJ.out.1.trans HS2.out.1).trans t1).inner t4 (Nat.le_refl _)) (And.intro t5 (And.intro t6 hfb)))
          clear t1 t2 t4 t5 t6 hd3 hfb ep hd
          go_wp2_with fail
          clear p3 p3' y3 f1 z1 g0 g1 g2 g3 plt
          generalize (w5.setCell ⟨o.wb, 3, none⟩ (.int .i64 ((p : Int) + 1))).setCell ⟨w.heap.size, 1, none⟩ (.int .i64 (j : Nat)) = W4 at *
          obtain ⟨u1, -, u3⟩ := HS3.out.2.1.below (drewN_below W4 1)
          have hdj := Hf.out.2.2.2
          have hfk : FOkW L n fs j f := by rw [Hf.out.1]; exact HH.out.2.2.1 j (by rw [← HH.out.2.2.2.1]; exact hlt)
          have hwi := HJ.out.2.2.2.1
          have hcn := hwi.tame.cnt
          rw [← Hf.out.2.2.1] at hcn
          obtain ⟨fn, hlk, hen, hcon⟩ := wkind_any u3 (HS3.out.2.2.1.step u1) hdj (by omega) (⟨hwi.small, hwi.room, ⟨hwi.tame.short, Nat.le_trans hcn (Nat.le_succ p), hwi.tame.each, hwi.tame.ord⟩, hwi.st⟩ : WIn fs n0 d { σ1 with parts := p + 1 }) (Nat.lt_succ_of_le hcn) hfk Hf.out.1 HC.out
          have HCON := Lib.hid hcon
          have hlook : ∀ q, (Instr.lookup 119 (.map (some o.kb)) (.int .i64 f.kind) false).run Tryz.prog (W4.drewN q) = .ok (.func (.func fn) #[ptr o.wb] #[]) (W4.drewN q) := fun q =>
            ((HS3.out.2.1.below (drewN_below W4 q)).2.2.1.kinds).look_ Tryz.underlying119 Tryz.underlying3 hlk false
          unfold Enters at hen
          have d0 := HS3.out.2.2.2.cell 0
          have d1 := HS3.out.2.2.2.cell 1
          have d2 := HS3.out.2.2.2.cell 2
          have d3 := HS3.out.2.2.2.cell 3
          simp only [List.getElem?_toArray, List.getElem?_cons_zero, List.getElem?_cons_succ] at d0 d1 d2 d3
          have ck := HS3.out.2.1.maps_.2
          have HWN : Hid (wnext (wval L n) fs n0 j f d σ1 = wkind (wval L n) fs n0 j f d { σ1 with parts := p + 1 }) := Lib.hid (by
            unfold wnext
            rw [← Hf.out.2.2.1, if_pos hp5])
          have HU := Lib.hid (And.intro (HS3.out.1.trans u1) hfk)
          clear hlk hcon u1 u3 hdj hfk hwi hcn
          rcases hwk : wkind (wval L n) fs n0 j f d { σ1 with parts := p + 1 } with _ | pl
          · have HV : Hid (Calls Tryz.prog fn #[ptr o.wb, ptr w.heap.size, fldV f] W4.drew fun e w' => StepW o (At1 w.heap.size) W4.drew w' ∧ e = Stops zRf) := Lib.hid (by have := HCON.out; rw [hwk] at this; exact this)
            have HNO : Hid (∀ w', StepW o (At1 w.heap.size) W4.drew w' → WPost w o top L 0 RR (Stops zRf) w') := Lib.hid fun w' hs => WPost.stop (by rw [Hf.out.2.1, HWN.out, hwk]; rfl) (HU.out.1.inner hs (Nat.le_refl _))
            clear hwk HCON
            refine wp_region_T 9 (fun w' : World => ∃ n : Nat, w' = W4.drewN n) (by kernel_rfl) ⟨1, rfl⟩ (fun hHeld => ?_)
            refine wpAnyT_any (i := 0) (oi := ?o24) (v := ?v24) ?h24 ?a24 ?b24 ?c24 ?d24 ?e24 ?j24 ?q24 (Or.inl ⟨?g24, ?y24⟩) ?s24 ?r24
            case h24 => (simp only [List.getElem?_toArray, List.getElem?_cons_zero]; rfl)
            case a24 => kernel_rfl
            case b24 => kernel_rfl
            case c24 => kernel_rfl
            case d24 => kernel_rfl
            case e24 => kernel_rfl
            case j24 => kernel_rfl
            case q24 => exact fun _ _ _ h => h
            case g24 => rfl
            case y24 => (intro wS _; go_simp; (try with_reducible rfl))
            case s24 => exact fun _ => by assumption
            (try simp only [Act.put, List.setIfInBounds_toArray, List.set_cons_zero, List.set_cons_succ])
            refine wpAnyT_any (i := 1) (oi := ?o26) (v := ?v26) ?h26 ?a26 ?b26 ?c26 ?d26 ?e26 ?j26 ?q26 (Or.inl ⟨?g26, ?y26⟩) ?s26 ?r26
            case h26 => (simp only [List.getElem?_toArray, List.getElem?_cons_zero, List.getElem?_cons_succ]; rfl)
            case a26 => kernel_rfl
            case b26 => kernel_rfl
            case c26 => kernel_rfl
            case d26 => kernel_rfl
            case e26 => kernel_rfl
            case j26 => kernel_rfl
            case q26 => exact fun _ _ _ h => h
            case g26 => rfl
            case y26 => (intro wS _; go_simp; (try with_reducible rfl))
            case s26 => exact fun _ => by assumption
            (try simp only [Act.put, List.setIfInBounds_toArray, List.set_cons_zero, List.set_cons_succ])
            refine wpAnyT_any (i := 2) (oi := ?o28) (v := ?v28) ?h28 ?a28 ?b28 ?c28 ?d28 ?e28 ?j28 ?q28 (Or.inl ⟨?g28, ?y28⟩) ?s28 ?r28
            case h28 => (simp only [List.getElem?_toArray, List.getElem?_cons_zero, List.getElem?_cons_succ]; rfl)
            case a28 => kernel_rfl
            case b28 => kernel_rfl
            case c28 => kernel_rfl
            case d28 => kernel_rfl
            case e28 => kernel_rfl
            case j28 => kernel_rfl
            case q28 => exact fun _ _ _ h => h
            case g28 => rfl
            case y28 => (intro wS _; go_simp; (try with_reducible rfl))
            case s28 => exact fun _ => by assumption
            (try simp only [Act.put, List.setIfInBounds_toArray, List.set_cons_zero, List.set_cons_succ])
            refine wpAnyT_take (i := 3) (oi := ?o29) (v := ?v29) ?h29 ?a29 ?b29 ?c29 ?d29 ?e29 ?f29 ?j29 ?q29 (Or.inl ⟨?g29, ?y29⟩) ?s29 ?r29
            case h29 => (simp only [List.getElem?_toArray, List.getElem?_cons_zero, List.getElem?_cons_succ]; rfl)
            case a29 => kernel_rfl
            case b29 => kernel_rfl
            case c29 => kernel_rfl
            case d29 => kernel_rfl
            case e29 => kernel_rfl
            case f29 => kernel_rfl
            case j29 => kernel_rfl
            case q29 => exact fun _ _ _ h => h
            case g29 => rfl
            case y29 => (intro wS hSw; obtain ⟨nS, rfl⟩ := hSw; go_simp; (try with_reducible rfl))
            case s29 => assumption
            (try simp only [Act.put, List.setIfInBounds_toArray, List.set_cons_zero, List.set_cons_succ])
            refine wpAnyT_any (i := 4) (oi := ?o31) (v := ?v31) ?h31 ?a31 ?b31 ?c31 ?d31 ?e31 ?j31 ?q31 (Or.inl ⟨?g31, ?y31⟩) ?s31 ?r31
            case h31 => (simp only [List.getElem?_toArray, List.getElem?_cons_zero, List.getElem?_cons_succ]; rfl)
            case a31 => kernel_rfl
            case b31 => kernel_rfl
            case c31 => kernel_rfl
            case d31 => kernel_rfl
            case e31 => kernel_rfl
            case j31 => kernel_rfl
            case q31 => exact fun _ _ _ h => h
            case g31 => rfl
            case y31 => (intro wS _; go_simp; (try with_reducible rfl))
            case s31 => exact fun _ => by assumption
            (try simp only [Act.put, List.setIfInBounds_toArray, List.set_cons_zero, List.set_cons_succ])
            refine wpAnyT_take (i := 5) (oi := ?o32) (v := ?v32) ?h32 ?a32 ?b32 ?c32 ?d32 ?e32 ?f32 ?j32 ?q32 (Or.inl ⟨?g32, ?y32⟩) ?s32 ?r32
            case h32 => (simp only [List.getElem?_toArray, List.getElem?_cons_zero, List.getElem?_cons_succ]; rfl)
            case a32 => kernel_rfl
            case b32 => kernel_rfl
            case c32 => kernel_rfl
            case d32 => kernel_rfl
            case e32 => kernel_rfl
            case f32 => kernel_rfl
            case j32 => kernel_rfl
            case q32 => exact fun _ _ _ h => h
            case g32 => rfl
            case y32 => (intro wS hSw; obtain ⟨nS, rfl⟩ := hSw; go_simp; (try with_reducible rfl))
            case s32 => assumption
            (try simp only [Act.put, List.setIfInBounds_toArray, List.set_cons_zero, List.set_cons_succ])
            refine wpAnyT_take (i := 6) (oi := ?o33) (v := ?v33) ?h33 ?a33 ?b33 ?c33 ?d33 ?e33 ?f33 ?j33 ?q33 (Or.inl ⟨?g33, ?y33⟩) ?s33 ?r33
            case h33 => (simp only [List.getElem?_toArray, List.getElem?_cons_zero, List.getElem?_cons_succ]; rfl)
            case a33 => kernel_rfl
            case b33 => kernel_rfl
            case c33 => kernel_rfl
            case d33 => kernel_rfl
            case e33 => kernel_rfl
            case f33 => kernel_rfl
            case j33 => kernel_rfl
            case q33 => exact fun _ _ _ h => h
            case g33 => rfl
            case y33 => (intro wS hSw; obtain ⟨nS, rfl⟩ := hSw; go_simp; (try with_reducible rfl))
            case s33 => assumption
            (try simp only [Act.put, List.setIfInBounds_toArray, List.set_cons_zero, List.set_cons_succ])
            refine wpAnyT_any (i := 7) (oi := ?o35) (v := ?v35) ?h35 ?a35 ?b35 ?c35 ?d35 ?e35 ?j35 ?q35 (Or.inl ⟨?g35, ?y35⟩) ?s35 ?r35
            case h35 => (simp only [List.getElem?_toArray, List.getElem?_cons_zero, List.getElem?_cons_succ]; rfl)
            case a35 => kernel_rfl
            case b35 => kernel_rfl
            case c35 => kernel_rfl
            case d35 => kernel_rfl
            case e35 => kernel_rfl
            case j35 => kernel_rfl
            case q35 => exact fun _ _ _ h => h
            case g35 => rfl
            case y35 => (intro wS _; go_simp; (try with_reducible rfl))
            case s35 => exact fun _ => by assumption
            (try simp only [Act.put, List.setIfInBounds_toArray, List.set_cons_zero, List.set_cons_succ])
            refine wpAnyT_take (i := 8) (oi := ?o36) (v := ?v36) ?h36 ?a36 ?b36 ?c36 ?d36 ?e36 ?f36 ?j36 ?q36 (Or.inl ⟨?g36, ?y36⟩) ?s36 ?r36
            case h36 => (simp only [List.getElem?_toArray, List.getElem?_cons_zero, List.getElem?_cons_succ]; rfl)
            case a36 => kernel_rfl
            case b36 => kernel_rfl
            case c36 => kernel_rfl
            case d36 => kernel_rfl
            case e36 => kernel_rfl
            case f36 => kernel_rfl
            case j36 => kernel_rfl
            case q36 => exact fun _ _ _ h => h
            case g36 => rfl
            case y36 => (intro wS hSw; obtain ⟨nS, rfl⟩ := hSw; go_simp; (try with_reducible rfl))
            case s36 => assumption
            (try simp only [Act.put, List.setIfInBounds_toArray, List.set_cons_zero, List.set_cons_succ])
            refine wpAnyT_ready (rs := [9]) (by kernel_rfl) (by simp) ?_
            refine AllReadyT.cons (o := ?oB37) ?hB37 ?kB37 AllReadyT.nil
            case hB37 => (simp only [List.getElem?_toArray, List.getElem?_cons_zero, List.getElem?_cons_succ]; rfl)
            case kB37 =>
              intro K hK
              go_simp
              refine HV.out.mono ?_
              rintro e w7 ⟨hs7, rfl⟩
              exact ⟨rfl, HNO.out _ hs7⟩
          · have HV : Hid (Calls Tryz.prog fn #[ptr o.wb, ptr w.heap.size, fldV f] W4.drew fun e w' => StepW o (At1 w.heap.size) W4.drew w' ∧ e = .returned (.tuple #[]) ∧ WrAt w' o top L pl.2.2 0 ∧ ∃ cs', DrAt w' o top w.heap.size fs (.slice (some ⟨ub, uo, none⟩) m uc) j n0 ⟨d.counts ++ [pl.1], d.lens ++ [pl.2.1]⟩ cs') := Lib.hid (by have := HCON.out; rw [hwk] at this; exact this)
            have HWK := Lib.hid hwk
            clear hwk HCON
            refine wp_region_T 9 (fun w' : World => ∃ n : Nat, w' = W4.drewN n) (by kernel_rfl) ⟨1, rfl⟩ (fun hHeld => ?_)
            refine wpAnyT_any (i := 0) (oi := ?o39) (v := ?v39) ?h39 ?a39 ?b39 ?c39 ?d39 ?e39 ?j39 ?q39 (Or.inl ⟨?g39, ?y39⟩) ?s39 ?r39
            case h39 => (simp only [List.getElem?_toArray, List.getElem?_cons_zero]; rfl)
            case a39 => kernel_rfl
            case b39 => kernel_rfl
            case c39 => kernel_rfl
            case d39 => kernel_rfl
            case e39 => kernel_rfl
            case j39 => kernel_rfl
            case q39 => exact fun _ _ _ h => h
            case g39 => rfl
            case y39 => (intro wS _; go_simp; (try with_reducible rfl))
            case s39 => exact fun _ => by assumption
            (try simp only [Act.put, List.setIfInBounds_toArray, List.set_cons_zero, List.set_cons_succ])
            refine wpAnyT_any (i := 1) (oi := ?o41) (v := ?v41) ?h41 ?a41 ?b41 ?c41 ?d41 ?e41 ?j41 ?q41 (Or.inl ⟨?g41, ?y41⟩) ?s41 ?r41
            case h41 => (simp only [List.getElem?_toArray, List.getElem?_cons_zero, List.getElem?_cons_succ]; rfl)
            case a41 => kernel_rfl
            case b41 => kernel_rfl
            case c41 => kernel_rfl
            case d41 => kernel_rfl
            case e41 => kernel_rfl
            case j41 => kernel_rfl
            case q41 => exact fun _ _ _ h => h
            case g41 => rfl
            case y41 => (intro wS _; go_simp; (try with_reducible rfl))
            case s41 => exact fun _ => by assumption
            (try simp only [Act.put, List.setIfInBounds_toArray, List.set_cons_zero, List.set_cons_succ])
            refine wpAnyT_any (i := 2) (oi := ?o43) (v := ?v43) ?h43 ?a43 ?b43 ?c43 ?d43 ?e43 ?j43 ?q43 (Or.inl ⟨?g43, ?y43⟩) ?s43 ?r43
            case h43 => (simp only [List.getElem?_toArray, List.getElem?_cons_zero, List.getElem?_cons_succ]; rfl)
            case a43 => kernel_rfl
            case b43 => kernel_rfl
            case c43 => kernel_rfl
            case d43 => kernel_rfl
            case e43 => kernel_rfl
            case j43 => kernel_rfl
            case q43 => exact fun _ _ _ h => h
            case g43 => rfl
            case y43 => (intro wS _; go_simp; (try with_reducible rfl))
            case s43 => exact fun _ => by assumption
            (try simp only [Act.put, List.setIfInBounds_toArray, List.set_cons_zero, List.set_cons_succ])
            refine wpAnyT_take (i := 3) (oi := ?o44) (v := ?v44) ?h44 ?a44 ?b44 ?c44 ?d44 ?e44 ?f44 ?j44 ?q44 (Or.inl ⟨?g44, ?y44⟩) ?s44 ?r44
            case h44 => (simp only [List.getElem?_toArray, List.getElem?_cons_zero, List.getElem?_cons_succ]; rfl)
            case a44 => kernel_rfl
            case b44 => kernel_rfl
            case c44 => kernel_rfl
            case d44 => kernel_rfl
            case e44 => kernel_rfl
            case f44 => kernel_rfl
            case j44 => kernel_rfl
            case q44 => exact fun _ _ _ h => h
            case g44 => rfl
            case y44 => (intro wS hSw; obtain ⟨nS, rfl⟩ := hSw; go_simp; (try with_reducible rfl))
            case s44 => assumption
            (try simp only [Act.put, List.setIfInBounds_toArray, List.set_cons_zero, List.set_cons_succ])
            refine wpAnyT_any (i := 4) (oi := ?o46) (v := ?v46) ?h46 ?a46 ?b46 ?c46 ?d46 ?e46 ?j46 ?q46 (Or.inl ⟨?g46, ?y46⟩) ?s46 ?r46
            case h46 => (simp only [List.getElem?_toArray, List.getElem?_cons_zero, List.getElem?_cons_succ]; rfl)
            case a46 => kernel_rfl
            case b46 => kernel_rfl
            case c46 => kernel_rfl
            case d46 => kernel_rfl
            case e46 => kernel_rfl
            case j46 => kernel_rfl
            case q46 => exact fun _ _ _ h => h
            case g46 => rfl
            case y46 => (intro wS _; go_simp; (try with_reducible rfl))
            case s46 => exact fun _ => by assumption
            (try simp only [Act.put, List.setIfInBounds_toArray, List.set_cons_zero, List.set_cons_succ])
            refine wpAnyT_take (i := 5) (oi := ?o47) (v := ?v47) ?h47 ?a47 ?b47 ?c47 ?d47 ?e47 ?f47 ?j47 ?q47 (Or.inl ⟨?g47, ?y47⟩) ?s47 ?r47
            case h47 => (simp only [List.getElem?_toArray, List.getElem?_cons_zero, List.getElem?_cons_succ]; rfl)
            case a47 => kernel_rfl
            case b47 => kernel_rfl
            case c47 => kernel_rfl
            case d47 => kernel_rfl
            case e47 => kernel_rfl
            case f47 => kernel_rfl
            case j47 => kernel_rfl
            case q47 => exact fun _ _ _ h => h
            case g47 => rfl
            case y47 => (intro wS hSw; obtain ⟨nS, rfl⟩ := hSw; go_simp; (try with_reducible rfl))
            case s47 => assumption
            (try simp only [Act.put, List.setIfInBounds_toArray, List.set_cons_zero, List.set_cons_succ])
            refine wpAnyT_take (i := 6) (oi := ?o48) (v := ?v48) ?h48 ?a48 ?b48 ?c48 ?d48 ?e48 ?f48 ?j48 ?q48 (Or.inl ⟨?g48, ?y48⟩) ?s48 ?r48
            case h48 => (simp only [List.getElem?_toArray, List.getElem?_cons_zero, List.getElem?_cons_succ]; rfl)
            case a48 => kernel_rfl
            case b48 => kernel_rfl
            case c48 => kernel_rfl
            case d48 => kernel_rfl
            case e48 => kernel_rfl
            case f48 => kernel_rfl
            case j48 => kernel_rfl
            case q48 => exact fun _ _ _ h => h
            case g48 => rfl
            case y48 => (intro wS hSw; obtain ⟨nS, rfl⟩ := hSw; go_simp; (try with_reducible rfl))
            case s48 => assumption
            (try simp only [Act.put, List.setIfInBounds_toArray, List.set_cons_zero, List.set_cons_succ])
            refine wpAnyT_any (i := 7) (oi := ?o50) (v := ?v50) ?h50 ?a50 ?b50 ?c50 ?d50 ?e50 ?j50 ?q50 (Or.inl ⟨?g50, ?y50⟩) ?s50 ?r50
            case h50 => (simp only [List.getElem?_toArray, List.getElem?_cons_zero, List.getElem?_cons_succ]; rfl)
            case a50 => kernel_rfl
            case b50 => kernel_rfl
            case c50 => kernel_rfl
            case d50 => kernel_rfl
            case e50 => kernel_rfl
            case j50 => kernel_rfl
            case q50 => exact fun _ _ _ h => h
            case g50 => rfl
            case y50 => (intro wS _; go_simp; (try with_reducible rfl))
            case s50 => exact fun _ => by assumption
            (try simp only [Act.put, List.setIfInBounds_toArray, List.set_cons_zero, List.set_cons_succ])
            refine wpAnyT_take (i := 8) (oi := ?o51) (v := ?v51) ?h51 ?a51 ?b51 ?c51 ?d51 ?e51 ?f51 ?j51 ?q51 (Or.inl ⟨?g51, ?y51⟩) ?s51 ?r51
            case h51 => (simp only [List.getElem?_toArray, List.getElem?_cons_zero, List.getElem?_cons_succ]; rfl)
            case a51 => kernel_rfl
            case b51 => kernel_rfl
            case c51 => kernel_rfl
            case d51 => kernel_rfl
            case e51 => kernel_rfl
            case f51 => kernel_rfl
            case j51 => kernel_rfl
            case q51 => exact fun _ _ _ h => h
            case g51 => rfl
            case y51 => (intro wS hSw; obtain ⟨nS, rfl⟩ := hSw; go_simp; (try with_reducible rfl))
            case s51 => assumption
            (try simp only [Act.put, List.setIfInBounds_toArray, List.set_cons_zero, List.set_cons_succ])
            refine wpAnyT_ready (rs := [9]) (by kernel_rfl) (by simp) ?_
            refine AllReadyT.cons (o := ?oB52) ?hB52 ?kB52 AllReadyT.nil
            case hB52 => (simp only [List.getElem?_toArray, List.getElem?_cons_zero, List.getElem?_cons_succ]; rfl)
            case kB52 =>
              intro K hK
              go_simp
              refine HV.out.mono ?_
              rintro e w7 ⟨hs7, rfl, hw7, cs7, hd7⟩
              refine hK.out _ _ (no_more (by kernel_rfl)) ?_
              clear hK K
              (try simp only [Act.put, List.setIfInBounds_toArray, List.set_cons_zero, List.set_cons_succ])
              refine wpAnyT_done (by kernel_rfl) ?_ _
              have HE : Hid ((d.counts ++ [pl.1]).length = j + 1 ∧ StepW o NoX w w7 ∧ WIn fs n0 ⟨d.counts ++ [pl.1], d.lens ++ [pl.2.1]⟩ pl.2.2 ∧ wflds (wval L n) fs n0 (fs.drop (j + 1)) (j + 1) ⟨d.counts ++ [pl.1], d.lens ++ [pl.2.1]⟩ pl.2.2 = RR) := Lib.hid (by
                have hfk := HU.out.2
                have hdl := HJ.out.2.2.1.cl
                rw [Hf.out.2.2.2] at hdl
                refine ⟨by rw [List.length_append, Hf.out.2.2.2]; rfl, HU.out.1.inner hs7 (Nat.le_refl _), ?_, ?_⟩
                · rw [Hf.out.1] at hfk
                  refine (wnext_out hfk hdl.symm (fun hkd => ?_) HJ.out.2.2.2.1 (by rw [← Hf.out.1, HWN.out, HWK.out])).1
                  obtain ⟨-, i2, hi, hiN⟩ := hfk.ok.k4 hkd
                  exact (HC.out _ i2 hi hiN).grows
                · rw [Hf.out.2.1, HWN.out, HWK.out]; rfl)
              have HW7 := Lib.hid (And.intro hw7 hd7)
              clear hs7 hw7 hd7 d0 d1 d2 d3 ck hlook hen hHeld
              go_wp2_with fail
              exact ⟨⟨j + 1, j, _, pl.2.2, cs7, by omega, by go_num, HE.out.1, Lib.hid ⟨HE.out.2.1, HW7.out.1, HW7.out.2, HE.out.2.2.1, HE.out.2.2.2⟩⟩, by simp [intOf]; omega⟩
        · have hd : decide ((p : Int) < 5000) = false := by rw [decide_eq_false_iff_not]; omega
          have HY : Hid (WPost w o top L 0 RR (Stops zRf) W2) := Lib.hid (WPost.stop (by rw [Hf.out.2.1]; unfold wnext; rw [← Hf.out.2.2.1, if_neg hp5]; rfl) (HJ.out.1.trans HS2.out.1))
          go_wp2_with fail
          rw [← hW2]
          clear hW2
          refine (require_no _).mono ?_
          rintro e w5 ⟨rfl, rfl⟩
          exact ⟨rfl, HY.out⟩
      · obtain rfl : j = m := by omega
        have HY : Hid (WPost w o top L 0 RR (.returned (.tuple #[])) wq) := Lib.hid (WPost.yes (σ := σ1) (by
          rw [← HJ.out.2.2.2.2, HH.out.2.2.2.1, List.drop_length]; rfl) HJ.out.1 HJ.out.2.1)
        go_wp2_with fail
        first | go_end0 | go_ret
        exact HY.out
/-- Values are written. -/
theorem wvalC (o : Wo) (top : Nat) (L : List Fm) (hok : Ok L) : ∀ n id i, At L id i → i < n → WSubC o top L (wval L n) id
  | 0, _, _, _, hi => absurd hi (Nat.not_lt_zero _)
  | n + 1, id, i, hat, hi => wval_step o top L n hok (wvalC o top L hok n) id i hat hi
end WrR
section RecP
open Go.RowKit Fx Rec

theorem Rd.fields_ {w : World} {P : Nat → Prop} {o : Ro} {rb : Nat} {L : List Fm} {s : ByteArray} {ps : List Pt} (h : Rd w P o rb L s ps) : w.cell? ⟨rb, 0, none⟩ = some (.map (some o.fb)) := by
  obtain ⟨_, vp, k, vs, hm⟩ := h
  rw [hm.blk.cell]; rfl
/-- A value, the first k of its fields recognised. -/
structure VCur (v : Vl) (id depth : Int) (st l k E : Nat) (nums : List Int) : Prop where
  d_ : v.depth = depth
  f_ : v.format = id
  s_ : v.start = st
  a_ : v.at_ = E
  l_ : v.limit = l
  n_ : v.nums = nums ++ List.replicate (16 - k) 0
  len : nums.length = k
  small : Small nums
  dep : 0 ≤ depth ∧ depth ≤ 100
  ord : st ≤ E ∧ E ≤ l ∧ l ≤ 65536
theorem VCur.ok {v : Vl} {id depth : Int} {st l k E : Nat} {nums : List Int} (h : VCur v id depth st l k E nums) : VOk v := by
  have h1 := h.ord
  refine ⟨by rw [h.a_]; omega, by rw [h.a_, h.l_]; omega, by rw [h.l_]; omega, by rw [h.s_]; omega, by rw [h.s_, h.a_]; omega, by rw [h.d_]; exact h.dep, fun i _ => by rw [h.n_]; exact h.small.pad _ i⟩
theorem VAt.field_ {w : World} {vb : Nat} {v : Vl} (h : VAt w vb v) (n : Int) : VAt (w.setCell ⟨vb, 2, none⟩ (.int .i64 n)) vb { v with field := n } := by
  refine ⟨?_, h.len⟩
  have h1 := h.blk.set_ 2 (.int .i64 n)
  exact h1

set_option maxRecDepth 20000 in
set_option maxHeartbeats 4000000 in
theorem val_step (o : Ro) (rb : Nat) (L : List Fm) (s : ByteArray) (n : Nat) (hC : ValC o rb L s n) : ValC o rb L s (n + 1) := by
  intro w P ps id depth i st l h hat hin hd0 hdn hsl hl
  obtain ⟨fs, hfs⟩ : ∃ fs, fs = (L.getD i zm).fs := ⟨_, rfl⟩
  have hfo : fieldsOf L id = fs := by rw [hfs]; exact fieldsOf_at h.1.ok hat
  have hfok : ∀ k, k < fs.length → FOk L n (fs.getD k zf) := fun k hk => by rw [hfs] at hk ⊢; exact fok_of h.1.ok hat.1 (by omega) hk
  have hfm := h.1.ok.each i hat.1
  have hsome := hfm.some_
  have hfew := hfm.few
  rw [← hfs] at hsome hfew
  have hflds := h.1.flds i hat.1
  rw [← hfs] at hflds
  obtain ⟨u, hu⟩ : ∃ u, u = o.us.getD i undef := ⟨_, rfl⟩
  rw [← hu] at hflds
  obtain ⟨ua, uc, rfl, hul⟩ := hflds.slice_
  obtain ⟨m, hm⟩ : ∃ m, m = fs.length := ⟨_, rfl⟩
  rw [← hm] at hsome hfew hul hu
  have hlk : lkV (fieldsE L o.us) id = some (.slice ua m uc) := by rw [hu]; exact fieldsE_at h.1.ok h.1.ul hat
  have hmax := h.1.max
  have hB0 := bx (w := w) (.cells #[.int .i64 depth, .int .i64 id, .int .i64 0, .int .i64 (st : Int), .int .i64 (st : Int), .int .i64 (l : Int), .int .i64 0, .int .i64 0, .int .i64 0, .int .i64 0, .int .i64 0, .int .i64 0, .int .i64 0, .int .i64 0, .int .i64 0, .int .i64 0, .int .i64 0, .int .i64 0, .int .i64 0, .int .i64 0, .int .i64 0, .int .i64 0] 145)
  have hv0 : VAt (w.alloc (.cells #[.int .i64 depth, .int .i64 id, .int .i64 0, .int .i64 (st : Int), .int .i64 (st : Int), .int .i64 (l : Int), .int .i64 0, .int .i64 0, .int .i64 0, .int .i64 0, .int .i64 0, .int .i64 0, .int .i64 0, .int .i64 0, .int .i64 0, .int .i64 0, .int .i64 0, .int .i64 0, .int .i64 0, .int .i64 0, .int .i64 0, .int .i64 0] 145)) w.heap.size ⟨depth, id, 0, st, st, l, [] ++ List.replicate (16 - 0) 0⟩ := ⟨Blk.new w _ _, rfl⟩
  have hr0 := h.below hB0
  have hlook : (Instr.lookup 108 (.map (some o.fb)) (.int .i64 id) false).run Tryz.prog (w.alloc (.cells #[.int .i64 depth, .int .i64 id, .int .i64 0, .int .i64 (st : Int), .int .i64 (st : Int), .int .i64 (l : Int), .int .i64 0, .int .i64 0, .int .i64 0, .int .i64 0, .int .i64 0, .int .i64 0, .int .i64 0, .int .i64 0, .int .i64 0, .int .i64 0, .int .i64 0, .int .i64 0, .int .i64 0, .int .i64 0, .int .i64 0, .int .i64 0] 145)) = .ok (.slice ua m uc) (w.alloc (.cells #[.int .i64 depth, .int .i64 id, .int .i64 0, .int .i64 (st : Int), .int .i64 (st : Int), .int .i64 (l : Int), .int .i64 0, .int .i64 0, .int .i64 0, .int .i64 0, .int .i64 0, .int .i64 0, .int .i64 0, .int .i64 0, .int .i64 0, .int .i64 0, .int .i64 0, .int .i64 0, .int .i64 0, .int .i64 0, .int .i64 0, .int .i64 0] 145)) :=
    hr0.1.fields.look_ Tryz.underlying108 Tryz.underlying3 hlk false
  obtain ⟨ub, uo, rfl, -, -, -, hum, -⟩ := hflds.at_ (by omega)
  have c0 := hr0.fields_
  obtain ⟨RR, hRR⟩ : ∃ RR, RR = val L s (n + 1) id depth st l ps.length := ⟨_, rfl⟩
  rw [← hRR]
  have HRR : Hid (RR = Rec.ends (flds s (val L s n) id depth st l ps.length fs m)) := Lib.hid (by rw [hRR, val]; show Rec.ends (flds s (val L s n) id depth st l ps.length (fieldsOf L id) (fieldsOf L id).length) = _; rw [hfo, ← hm])
  have HH := Lib.hid (And.intro h (And.intro hC (And.intro hfok (And.intro hu (And.intro hm hfs)))))
  have HI := Lib.hid (And.intro hat hflds)
  have HV0 := Lib.hid (And.intro hB0 (And.intro hr0 hv0))
  clear h hC hfok hu hfs hfo hfm hflds hlk hRR hm hat hB0 hr0 hv0
  unfold maxLen at hum
  go_enter Tryz.func73, Tryz.ntmps73
  go_wp2_with fail
  clear hlook c0
  have HI0 : Hid (Kept P w (w.alloc (.cells #[.int .i64 depth, .int .i64 id, .int .i64 0, .int .i64 (st : Int), .int .i64 (st : Int), .int .i64 (l : Int), .int .i64 0, .int .i64 0, .int .i64 0, .int .i64 0, .int .i64 0, .int .i64 0, .int .i64 0, .int .i64 0, .int .i64 0, .int .i64 0, .int .i64 0, .int .i64 0, .int .i64 0, .int .i64 0, .int .i64 0, .int .i64 0] 145)) ∧
      Rd (w.alloc (.cells #[.int .i64 depth, .int .i64 id, .int .i64 0, .int .i64 (st : Int), .int .i64 (st : Int), .int .i64 (l : Int), .int .i64 0, .int .i64 0, .int .i64 0, .int .i64 0, .int .i64 0, .int .i64 0, .int .i64 0, .int .i64 0, .int .i64 0, .int .i64 0, .int .i64 0, .int .i64 0, .int .i64 0, .int .i64 0, .int .i64 0, .int .i64 0] 145)) P o rb L s (ps ++ []) ∧
      VAt (w.alloc (.cells #[.int .i64 depth, .int .i64 id, .int .i64 0, .int .i64 (st : Int), .int .i64 (st : Int), .int .i64 (l : Int), .int .i64 0, .int .i64 0, .int .i64 0, .int .i64 0, .int .i64 0, .int .i64 0, .int .i64 0, .int .i64 0, .int .i64 0, .int .i64 0, .int .i64 0, .int .i64 0, .int .i64 0, .int .i64 0, .int .i64 0, .int .i64 0] 145)) w.heap.size ⟨depth, id, 0, st, st, l, [] ++ List.replicate (16 - 0) 0⟩ ∧
      VCur ⟨depth, id, 0, st, st, l, [] ++ List.replicate (16 - 0) 0⟩ id depth st l 0 st [] ∧ flds s (val L s n) id depth st l ps.length fs 0 = .ok (st, [], [])) :=
    Lib.hid ⟨Kept.of_below HV0.out.1 HH.out.1.1.pin, by rw [List.append_nil]; exact HV0.out.2.1, HV0.out.2.2, ⟨rfl, rfl, rfl, rfl, rfl, rfl, rfl, small_nil, ⟨hd0, by omega⟩, ⟨Nat.le_refl _, hsl, by omega⟩⟩, rfl⟩
  go_loopw [28] (fun i wr => ∃ (k E : Nat) (v : Vl) (nums : List Int) (qs : List Pt), k ≤ m ∧ i = .int .i64 k ∧ Hid (Kept P w wr ∧ Rd wr P o rb L s (ps ++ qs) ∧ VAt wr w.heap.size v ∧ VCur v id depth st l k E nums ∧ flds s (val L s n) id depth st l ps.length fs k = .ok (E, nums, qs))) (fun i _ => m - (intOf i).toNat)
  case atStart => exact ⟨0, st, _, [], [], Nat.zero_le _, rfl, HI0⟩
  case round =>
    obtain ⟨k, E, v, nums, qs, hkm, rfl, HJ⟩ := hrel
    obtain ⟨wq, rfl⟩ : ∃ wq, wq = wr := ⟨_, rfl⟩
    by_cases hlt : k < m
    · have hflq := HJ.out.2.1.1.flds i HI.out.1.1
      rw [← HH.out.2.2.2.1, ← HH.out.2.2.2.2.2] at hflq
      obtain ⟨ub', uo', e0, -, -, -, -, hfl⟩ := hflq.at_ (by rw [← HH.out.2.2.2.2.1]; omega)
      cases e0
      obtain ⟨f, hf⟩ : ∃ f, f = fs.getD k zf := ⟨_, rfl⟩
      have hfa := hfl k (by rw [← HH.out.2.2.2.2.1]; exact hlt)
      rw [← hf] at hfa
      have g0 := hfa.c0
      have g1 := hfa.c1
      have g2 := hfa.c2
      have g3 := hfa.c3
      have hv := HJ.out.2.2.1
      have c2 := hv.cells.2.2.1
      have y2 := hv.blk.frozen 2
      have lvb := hv.blk.lt
      have hki : (0 : Int) ≤ (k : Int) ∧ (k : Int) < (m : Int) := by omega
      have Hf := Lib.hid hf
      clear hflq hfl hfa hf hv
      go_wp2_with fail
      have hv2 : VAt ((wq.setCell ⟨w.heap.size, 2, none⟩ (.int .i64 (k : Int))).alloc (.cells #[.int .i64 f.kind, .int .i64 f.n, .int .i64 f.frm, .string f.text] 56)) w.heap.size { v with field := (k : Int) } :=
        (HJ.out.2.2.1.field_ k).keep ((bx _).block _ (by simpa using lvb))
      have hpv : ¬ P w.heap.size := fun hp => absurd (HH.out.1.1.pin _ hp) (by omega)
      have hke : Kept (fun j => j ≠ w.heap.size) wq (wq.setCell ⟨w.heap.size, 2, none⟩ (.int .i64 (k : Int))) := (Kept.refl _ _).setCell (by simp) _
      have hr2 : Rd ((wq.setCell ⟨w.heap.size, 2, none⟩ (.int .i64 (k : Int))).alloc (.cells #[.int .i64 f.kind, .int .i64 f.n, .int .i64 f.frm, .string f.text] 56)) P o rb L s (ps ++ qs) :=
        (HJ.out.2.1.write HJ.out.2.2.1.blk hpv (by decide) (by decide) (by decide) (by decide) hke).below (bx _)
      have hk2 : Kept P wq ((wq.setCell ⟨w.heap.size, 2, none⟩ (.int .i64 (k : Int))).alloc (.cells #[.int .i64 f.kind, .int .i64 f.n, .int .i64 f.frm, .string f.text] 56)) :=
        ((Kept.refl _ _).setCell (p := ⟨w.heap.size, 2, none⟩) hpv _).alloc (fun j hj => by simpa using HJ.out.2.1.1.pin j hj) _
      have hc := HJ.out.2.2.2.1
      have hc2 : VCur { v with field := (k : Int) } id depth st l k E nums := ⟨hc.d_, hc.f_, hc.s_, hc.a_, hc.l_, hc.n_, hc.len, hc.small, hc.dep, hc.ord⟩
      have hfo : FOk L n f := by rw [Hf.out]; exact HH.out.2.2.1 k (by rw [← HH.out.2.2.2.2.1]; exact hlt)
      have hn := rd_next hr2 hv2 hpv hc2.ok (⟨hc.a_, hc.l_, hc.s_, rfl⟩ : VNat { v with field := (k : Int) } E l st k) (by omega) hl n hfo HH.out.2.1 (by rw [show ({ v with field := (k : Int) } : Vl).depth = depth from hc.d_]; omega)
      rw [show ({ v with field := (k : Int) } : Vl).format = id from hc.f_, show ({ v with field := (k : Int) } : Vl).depth = depth from hc.d_, show ({ v with field := (k : Int) } : Vl).nums = nums ++ List.replicate (16 - k) 0 from hc.n_, next_pad, List.length_append] at hn
      have HN := Lib.hid hn
      have HK := Lib.hid (HJ.out.1.trans hk2)
      have hfl1 : flds s (val L s n) id depth st l ps.length fs (k + 1) = match next s (val L s n) id depth st l k f nums E (ps.length + qs.length) with
        | .error r => .error r
        | .ok (e, n, qs1) => .ok (e, nums ++ [n], qs ++ (⟨depth, id, k, E, e, n⟩ :: qs1)) := by
        rw [flds, HJ.out.2.2.2.2, Hf.out]
        rfl
      have hin2 := fun (y : Nat × Int × List Pt) (h : next s (val L s n) id depth st l k f nums E (ps.length + qs.length) = .ok y) => next_in (val_in L s n) hc.ord.2.1 h
      have hnum := fun (y : Nat × Int × List Pt) (h : next s (val L s n) id depth st l k f nums E (ps.length + qs.length) = .ok y) => next_num hfo hc.small h
      have HC2 := Lib.hid (And.intro hc2 (And.intro hfl1 (And.intro hin2 hnum)))
      clear hv2 hr2 hk2 hke hc hc2 hfo hn hfl1 hin2 hnum g0 g1 g2 g3 c2 y2
      cases hnx : next s (val L s n) id depth st l k f nums E (ps.length + qs.length) with
      | error rf =>
        have HV := HN.out
        rw [hnx] at HV
        refine HV.mono ?_
        rintro e w7 ⟨hk7, rfl, ps', hr7⟩
        refine ⟨rfl, HK.out.trans hk7, ?_⟩
        rw [show RR = .error rf by
          have h1 := HC2.out.2.1
          rw [hnx] at h1
          rw [HRR.out, flds_le h1 (by omega)]; rfl]
        exact ⟨rfl, ps', hr7⟩
      | ok x =>
        obtain ⟨E2, n2, qs2⟩ := x
        have HV := HN.out
        rw [hnx] at HV
        refine HV.mono ?_
        rintro e w7 ⟨hk7, rfl, hr7, hv7⟩
        have h1 := HC2.out.2.1
        have h2 := HC2.out.2.2.1 _ hnx
        have h3 := HC2.out.2.2.2 _ hnx
        rw [hnx] at h1
        have HE := Lib.hid (And.intro (HK.out.trans hk7) (And.intro hr7 (And.intro hv7 (And.intro h1 (And.intro h2 h3)))))
        clear HV hk7 hr7 hv7 h1 h2 h3 hnx
        go_wp2_with fail
        refine ⟨⟨k + 1, E2, _, nums ++ [n2], qs ++ (⟨depth, id, k, E, E2, n2⟩ :: qs2), by omega, by go_num, Lib.hid ⟨HE.out.1, by rw [← List.append_assoc]; exact HE.out.2.1, HE.out.2.2.1, ?_, HE.out.2.2.2.1⟩⟩, by simp [intOf]; omega⟩
        have hc := HC2.out.1
        have hlen := hc.len
        exact ⟨rfl, rfl, hc.s_, rfl, hc.l_, pad_set hc.len (by omega) n2, by simp [hlen], hc.small.snoc HE.out.2.2.2.2.2.1 HE.out.2.2.2.2.2.2, hc.dep, ⟨by have := hc.ord.1; have := HE.out.2.2.2.2.1.2.1; omega, HE.out.2.2.2.2.1.2.2, hc.ord.2.2⟩⟩
    · obtain rfl : k = m := by omega
      have c4 := HJ.out.2.2.1.cells.2.2.2.2.1
      rw [HJ.out.2.2.2.1.a_] at c4
      go_wp2_with fail
      go_ret
      refine ⟨HJ.out.1, ?_⟩
      rw [show RR = .ok (E, qs) by rw [HRR.out, HJ.out.2.2.2.2]; rfl]
      exact ⟨rfl, HJ.out.2.1⟩

theorem valC (o : Ro) (rb : Nat) (L : List Fm) (s : ByteArray) : ∀ n, ValC o rb L s n
  | 0 => fun _ _ _ _ _ _ _ _ _ _ h _ _ _ _ => absurd h (by omega)
  | n + 1 => val_step o rb L s n (valC o rb L s n)
end RecP
end Go.Proofs.YtlhobhfmombjjaaGreatDoor
