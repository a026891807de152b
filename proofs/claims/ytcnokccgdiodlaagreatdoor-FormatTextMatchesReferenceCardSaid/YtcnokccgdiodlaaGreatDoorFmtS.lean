/- cutter: the parts of a string, one call after another. Conditions: a separator of one byte; a string of limited length. -/
import Derived.Test.YtcnokccgdiodlaaGreatDoorFmtR
namespace Go.Proofs.YtcnokccgdiodlaaGreatDoor
open Go.RowKit Fx

/-- A cutter's boxes hold what is left to be cut. -/
structure CutAt (w : World) (bm br bp : Nat) (c : UInt8) (ps : List (List UInt8)) : Prop where
  more : w.heap[bm]? = some (.cells #[.bool (!ps.isEmpty)] 4 (0, 0))
  rest : ∃ s : ByteArray, w.heap[br]? = some (.cells #[.string s] 9 (0, 0)) ∧ (ps ≠ [] → sp c s.data.toList = ps) ∧ s.size ≤ 100000000
  sep : w.heap[bp]? = some (.cells #[.string ⟨#[c]⟩] 9 (0, 0))
  nr : br ≠ bp
/-- All blocks are as they were but for a cutter's. -/
abbrev CutTo (bm br : Nat) (w w' : World) : Prop := Kept (fun k => k < w.heap.size ∧ k ≠ bm ∧ k ≠ br) w w'
theorem CutTo.trans {bm br : Nat} {a b c : World} (h : CutTo bm br a b) (k : CutTo bm br b c) : CutTo bm br a c :=
  Kept.trans h (k.mono fun _ hi => ⟨Nat.lt_of_lt_of_le hi.1 h.size, hi.2⟩)
theorem CutTo.of_below {bm br : Nat} {a b : World} (h : Below a.heap.size a b) : CutTo bm br a b := Kept.of_below h fun _ hk => hk.1
theorem CutTo.below {bm br B : Nat} {a b : World} (h : CutTo bm br a b) (hB : B ≤ a.heap.size) (h1 : B ≤ bm) (h2 : B ≤ br) : Below B a b := Kept.below h fun k hk => ⟨by omega, by omega, by omega⟩
theorem CutAt.lt {w : World} {bm br bp : Nat} {c : UInt8} {ps : List (List UInt8)} (h : CutAt w bm br bp c ps) : bm < w.heap.size ∧ br < w.heap.size ∧ bp < w.heap.size := by
  obtain ⟨s, h2, _⟩ := h.rest
  exact ⟨lt_of_heap h.more, lt_of_heap h2, lt_of_heap h.sep⟩
theorem CutAt.ne {w : World} {bm br bp : Nat} {c : UInt8} {ps : List (List UInt8)} (h : CutAt w bm br bp c ps) : bm ≠ br ∧ bm ≠ bp := by
  obtain ⟨s, h2, _⟩ := h.rest
  refine ⟨fun e => ?_, fun e => ?_⟩
  · have := h.more; rw [e, h2] at this; cases this
  · have := h.more; rw [e, h.sep] at this; cases this
theorem CutAt.keep {w w' : World} {bm br bp : Nat} {c : UInt8} {ps : List (List UInt8)} (h : CutAt w bm br bp c ps) (hb : ∀ k, k = bm ∨ k = br ∨ k = bp → w'.heap[k]? = w.heap[k]?) : CutAt w' bm br bp c ps := by
  obtain ⟨s, h2, h3⟩ := h.rest
  exact ⟨(hb _ (.inl rfl)).trans h.more, ⟨s, (hb _ (.inr (.inl rfl))).trans h2, h3⟩, (hb _ (.inr (.inr rfl))).trans h.sep, h.nr⟩
theorem CutAt.below {w w' : World} {bm br bp : Nat} {c : UInt8} {ps : List (List UInt8)} (h : CutAt w bm br bp c ps) (hb : Below w.heap.size w w') : CutAt w' bm br bp c ps := by
  obtain ⟨h1, h2, h3⟩ := h.lt
  exact h.keep fun k hk => hb.block k (by rcases hk with rfl | rfl | rfl <;> assumption)
theorem CutAt.far {w w' : World} {bm br bp : Nat} {c : UInt8} {ps : List (List UInt8)} (h : CutAt w bm br bp c ps) (hk : CutTo bm br w w') (g : Nat) (cs : Array Value) (t : TypeId) (fr : Nat × Nat) (hg : w.heap[g]? = some (Obj.cells cs t fr)) (h1 : ∀ b, cs ≠ #[.bool b]) (h2 : ∀ s, cs ≠ #[.string s]) : w'.heap[g]? = w.heap[g]? := by
  obtain ⟨s, hs, _⟩ := h.rest
  refine hk.block g ⟨lt_of_heap hg, fun e => ?_, fun e => ?_⟩
  · rw [e, h.more] at hg; cases hg; exact h1 _ rfl
  · rw [e, hs] at hg; cases hg; exact h2 _ rfl
theorem cell_heap {w : World} {g : Nat} {v : Value} (h : w.cell? ⟨g, 0, none⟩ = some v) : ∃ cs t fr, w.heap[g]? = some (Obj.cells cs t fr) ∧ cs[0]? = some v := by
  unfold World.cell? at h
  split at h
  · rename_i cs t fr hh
    exact ⟨cs, t, fr, hh, by simpa using h⟩
  · cases h
theorem CutAt.cell_far {w w' : World} {bm br bp : Nat} {c : UInt8} {ps : List (List UInt8)} (h : CutAt w bm br bp c ps) (hk : CutTo bm br w w') {g : Nat} {v : Value} (hg : w.cell? ⟨g, 0, none⟩ = some v) (h1 : ∀ b, v ≠ .bool b) (h2 : ∀ s, v ≠ .string s) : w'.cell? ⟨g, 0, none⟩ = some v := by
  obtain ⟨cs, t, fr, hh, hv⟩ := cell_heap hg
  have := h.far hk g cs t fr hh (fun b e => by subst e; simp at hv; exact h1 b hv.symm) (fun s e => by subst e; simp at hv; exact h2 s hv.symm)
  rw [World.cell?_of_block (w := w) (a := ⟨g, 0, none⟩) this]
  exact hg
theorem Txt.cut {w w' : World} {a : Addr} {bm br bp : Nat} {c : UInt8} {ps : List (List UInt8)} (h : Txt w a) (hC : CutAt w bm br bp c ps) (hk : CutTo bm br w w') : Txt w' a := by
  obtain ⟨m, hm⟩ := h.max
  obtain ⟨t1, p1, h1⟩ := h.syn
  obtain ⟨t2, p2, h2⟩ := h.rng
  refine ⟨⟨hC.cell_far hk h.err.cell (by simp) (by simp)⟩, ?_, ⟨m, hC.cell_far hk hm (by simp) (by simp)⟩, ⟨t1, p1, hC.cell_far hk h1 (by simp) (by simp)⟩, ⟨t2, p2, hC.cell_far hk h2 (by simp) (by simp)⟩⟩
  have ht := h.tab
  unfold Lib.TabIs World.var? at ht ⊢
  rw [gPow] at ht ⊢
  simp only [Option.bind_some] at ht ⊢
  split at ht
  · rename_i cs t fr hh
    have hsz : cs.size = Lib.pow10Tab.length := by
      have := Option.some.inj ht
      rw [this]; simp
    have hne : Lib.pow10Tab.length ≠ 1 := by decide
    rw [hC.far hk _ cs t fr hh (fun b e => hne (by rw [← hsz, e]; rfl)) (fun s e => hne (by rw [← hsz, e]; rfl)), hh]
    exact ht
  · cases ht

theorem cutter_any (s : ByteArray) (c : UInt8) (w : World) (hs : s.size ≤ 100000000) :
    Calls Tryz.prog 44 #[.string s, .string ⟨#[c]⟩] w fun e w' =>
      e = .returned (clo 66 #[adr (w.heap.size + 2), adr (w.heap.size + 1), adr w.heap.size]) ∧ CutAt w' (w.heap.size + 2) (w.heap.size + 1) w.heap.size c (sp c s.data.toList) ∧ Below w.heap.size w w' := by
  have hmf : ∀ (fn : Fn) (first cap : Array Value) (w : World), (Instr.makeFunc fn first cap).run Tryz.prog w = .ok (.func fn first cap) w := fun _ _ _ _ => rfl
  have HS := Lib.hid hs
  clear hs
  go_enter Tryz.func44, Tryz.ntmps44
  go_wp2_with fail
  go_ret
  refine ⟨?_, ?_, ?_⟩
  · simp
  · refine ⟨?_, ⟨s, ?_, fun _ => rfl, HS.out⟩, ?_, by omega⟩
    · have e : (!(sp c s.data.toList).isEmpty) = true := by
        have := sp_ne c s.data.toList
        cases h : sp c s.data.toList with
        | nil => exact absurd h this
        | cons => rfl
      rw [e]
      have := heap_alloc_new ((w.alloc (.cells #[.string ⟨#[c]⟩] 9)).alloc (.cells #[.string s] 9)) (.cells #[.bool true] 4)
      simpa using this
    · exact (Below.heap_alloc _ _ _ (by simp)).trans (heap_alloc2_new _ _ _)
    · exact (Below.heap_alloc _ _ _ (by simp; omega)).trans (heap_alloc2_old _ _ _)
  · exact (((Below.refl _ _).alloc (Nat.le_refl _) _).alloc (by simp) _).alloc (by simp; omega) _

/-- What a call for a string ends in. -/
def outS (a : Addr) : Option (List UInt8) → Ending
  | some p => .returned (.string (bs p))
  | none => .panicked [{ v := errV a, recovered := false }]
theorem next_any (bm br bp : Nat) (c : UInt8) (ps : List (List UInt8)) (a : Addr) (w : World) (hC : CutAt w bm br bp c ps) (hT : Txt w a) :
    Calls Tryz.prog 66 #[adr bm, adr br, adr bp] w fun e w' => e = outS a ps.head? ∧ CutAt w' bm br bp c ps.tail ∧ CutTo bm br w w' := by
  obtain ⟨s, hr, hsp, hsz⟩ := hC.rest
  have cm : w.cell? ⟨bm, 0, none⟩ = some (.bool (!ps.isEmpty)) := cell_of_row _ _ _ _ _ _ hC.more
  have cr : w.cell? ⟨br, 0, none⟩ = some (.string s) := cell_of_row _ _ _ _ _ _ hr
  have cp : w.cell? ⟨bp, 0, none⟩ = some (.string ⟨#[c]⟩) := cell_of_row _ _ _ _ _ _ hC.sep
  have HT := Lib.hid hT
  have HC := Lib.hid hC
  cases ps with
  | nil =>
    simp only [List.isEmpty_nil, Bool.not_true] at cm
    have HE := Lib.hid hT.err
    clear hC hT hr hsp
    go_enter Tryz.func66, Tryz.ntmps66
    go_wp2_with fail
    refine (require_any false a _ HE.out).mono ?_
    rintro e w2 ⟨rfl, rfl⟩
    unfold ends
    go_wp2_with fail
    exact ⟨rfl, rfl, HC.out, Kept.refl _ _⟩
  | cons q qs =>
    simp only [List.isEmpty_cons, Bool.not_false] at cm
    obtain ⟨p, ps', hsp2, hcase⟩ := cut_sp c s.data.toList
    rw [hsp (by simp)] at hsp2
    obtain ⟨rfl, rfl⟩ := List.cons.inj hsp2
    obtain ⟨L, R, f, hcut, hp, hps⟩ : ∃ (L R : ByteArray) (f : Bool), Lib.cut s.data.toList [c] = (L.data.toList, R.data.toList, f) ∧ bs q = L ∧ (f = !qs.isEmpty ∧ (qs ≠ [] → sp c R.data.toList = qs) ∧ R.size ≤ 100000000) := by
      rcases hcase with ⟨rfl, rfl, h⟩ | ⟨h1, h2, h3, h⟩
      · exact ⟨bs s.data.toList, bs [], false, h, rfl, rfl, by simp, by decide⟩
      · refine ⟨bs q, bs (jn c qs), true, h, rfl, ?_, fun _ => h2, ?_⟩
        · cases qs with
          | nil => exact absurd rfl h1
          | cons => rfl
        · have e1 : s.data.toList.length = s.size := by simp
          have e2 := congrArg List.length h3
          have e3 : (bs (jn c qs)).size = (jn c qs).length := rfl
          rw [List.length_append, List.length_cons] at e2
          omega
    have HCU := Lib.hid (cut_any s L R c f a w hsz hT hcut)
    have HE := Lib.hid hT.err
    have HP := Lib.hid (And.intro hp hps)
    have ne1 := hC.ne.1
    clear hC hT hsp hsp2 hcase hcut hp hps
    go_enter Tryz.func66, Tryz.ntmps66
    go_wp2_with fail
    refine (require_any true a _ HE.out).mono ?_
    rintro e w2 ⟨rfl, rfl⟩
    unfold ends
    go_wp2_with fail
    refine HCU.out.mono ?_
    rintro e w1 ⟨rfl, hb⟩
    have hm1 : w1.heap[bm]? = some (.cells #[.bool (!(q :: qs).isEmpty)] 4 (0, 0)) := (hb.block _ HC.out.lt.1).trans HC.out.more
    have hr1 : w1.heap[br]? = some (.cells #[.string s] 9 (0, 0)) := (hb.block _ HC.out.lt.2.1).trans hr
    have cm1 : w1.cell? ⟨bm, 0, none⟩ = some (.bool (!(q :: qs).isEmpty)) := cell_of_row _ _ _ _ _ _ hm1
    have cr1 : w1.cell? ⟨br, 0, none⟩ = some (.string s) := cell_of_row _ _ _ _ _ _ hr1
    have fm1 : w1.frozen? ⟨bm, 0, none⟩ = false := Blk.frozen (w := w1) hm1 0
    have fr1 : w1.frozen? ⟨br, 0, none⟩ = false := Blk.frozen (w := w1) hr1 0
    have HB := Lib.hid hb
    clear hb hm1 hr1
    go_wp2_with fail
    go_ret
    obtain ⟨hp, hf, hR, hRs⟩ := HP.out
    have q1 : ∀ g, g ≠ bm → g ≠ br → ((w1.setCell ⟨br, 0, none⟩ (.string R)).setCell ⟨bm, 0, none⟩ (.bool f)).heap[g]? = w.heap[g]? ∨ w.heap.size ≤ g := fun g g1 g2 => by
      rcases Nat.lt_or_ge g w.heap.size with h | h
      · exact .inl (((Below.heap_setCell _ _ _ _ g1).trans (Below.heap_setCell _ _ _ _ g2)).trans (HB.out.block _ h))
      · exact .inr h
    refine ⟨?_, ⟨?_, ⟨R, ?_, hR, hRs⟩, ?_, HC.out.nr⟩, ⟨HB.out.os, HB.out.tape, HB.out.output, ?_, fun k hk => ?_⟩⟩
    · rw [← hp]; rfl
    · have h1 : Blk (w1.setCell ⟨br, 0, none⟩ (.string R)) bm 4 #[.bool (!(q :: qs).isEmpty)] := (Below.heap_setCell _ _ _ _ ne1).trans ((HB.out.block _ HC.out.lt.1).trans HC.out.more)
      have := h1.set_ 0 (.bool f)
      rw [hf] at this ⊢
      exact this
    · have h1 : Blk w1 br 9 #[.string s] := (HB.out.block _ HC.out.lt.2.1).trans hr
      exact (Below.heap_setCell _ _ _ _ ne1.symm).trans (h1.set_ 0 (.string R))
    · rcases q1 bp (fun e => HC.out.ne.2 e.symm) (fun e => HC.out.nr e.symm) with h | h
      · exact h.trans HC.out.sep
      · have := HC.out.lt.2.2; omega
    · have := HB.out.size; simpa [World.setCell] using this
    · rcases q1 k hk.2.1 hk.2.2 with h | h
      · exact h
      · have := hk.1; omega
end Go.Proofs.YtcnokccgdiodlaaGreatDoor
