/- Parse. Conditions: a string of limited length; what the functions of texts read of memory. -/
import Derived.Test.YtcnokccgdiodlaaGreatDoorFmtZ
namespace Go.Proofs.YtcnokccgdiodlaaGreatDoor
open Go.RowKit Go.Shelf Fx

theorem sp_count (c : UInt8) : ∀ l, (sp c l).length = Lib.countByte l c + 1
  | [] => by simp [sp, Lib.countByte]
  | x :: t => by
    have ih := sp_count c t
    unfold sp
    split
    · rename_i h
      subst h
      simp only [List.length_cons, ih, Lib.countByte, List.count_cons_self]
    · rename_i h
      have e : Lib.countByte (x :: t) c = Lib.countByte t c := by
        unfold Lib.countByte
        rw [List.count_cons_of_ne h]
      rw [e, ← ih]
      have hne := sp_ne c t
      generalize sp c t = q at hne
      match q, hne with
      | r :: rs, _ => rfl
theorem TabAt.widen_ {w w' : World} {P : Nat → Prop} {tb : Nat} {s : St} (h : TabAt w P tb s) (hb : Below w.heap.size w w') : TabAt w' (Wide P w w') tb s := h.widen hb
/-- What the lines leave. -/
def LinesQ (P : Nat → Prop) (tb bl : Nat) (R : PR) (w' : World) : Prop :=
  match R with
  | .ok s => TabEnd w' P tb s
  | .bad k => w'.heap[bl]? = some (.cells #[.int .i64 k] 3 (0, 0))
def _root_.Go.Proofs.YtcnokccgdiodlaaGreatDoor.Fx.PR.isOk : PR → Bool
  | .ok _ => true
  | .bad _ => false
theorem LinesPost.split {P : Nat → Prop} {tb bl : Nat} {R : PR} {er : Addr} {e : Ending} {w' : World} (h : LinesPost P tb bl R er e w') : e = ends er R.isOk ∧ LinesQ P tb bl R w' := by
  cases R with
  | ok s => exact ⟨h.1, h.2⟩
  | bad k => exact ⟨h.1, h.2⟩
theorem LinesQ.narrow {P Q : Nat → Prop} {tb bl : Nat} {R : PR} {w' : World} (h : LinesQ P tb bl R w') (hq : ∀ k, Q k → P k) : LinesQ Q tb bl R w' := by
  cases R with
  | ok s => exact TabEnd.narrow h hq
  | bad k => exact h
theorem four (w : World) (a b c d : Obj) : ∃ W, W = (((w.alloc a).alloc b).alloc c).alloc d ∧ W.heap.size = w.heap.size + 4 ∧ Below w.heap.size w W ∧ W.heap[w.heap.size]? = some a ∧ W.heap[w.heap.size + 1]? = some b ∧ W.heap[w.heap.size + 1 + 1]? = some c ∧ W.heap[w.heap.size + 1 + 1 + 1]? = some d := by
  refine ⟨_, rfl, by simp, (((bx a).alloc (by simp) b).alloc (by simp; omega) c).alloc (by simp; omega) d, ?_, ?_, ?_, ?_⟩
  · exact (Below.heap_alloc _ _ _ (by simp; omega)).trans ((Below.heap_alloc _ _ _ (by simp; omega)).trans (heap_alloc2_old _ _ _))
  · exact (Below.heap_alloc _ _ _ (by simp)).trans ((Below.heap_alloc _ _ _ (by simp)).trans (heap_alloc2_new _ _ _))
  · have := heap_alloc2_old ((w.alloc a).alloc b) c d
    simpa using this
  · have := heap_alloc2_new ((w.alloc a).alloc b) c d
    simpa using this
/-- What Parse ends in. -/
def ParsePost (R : PR) (w : World) (e : Ending) (w' : World) : Prop :=
  (match R with
  | .ok s => ∃ v, e = .returned (.tuple #[v, .int .i64 (0), .int .i64 (0)]) ∧ FmsAt (· < w'.heap.size) w' v s.d
  | .bad k => e = .returned (.tuple #[.slice none 0 0, .int .i64 k, .int .i64 40])) ∧ Below w.heap.size w w'
set_option maxRecDepth 100000 in
set_option maxHeartbeats 2000000 in
theorem Parse_any (l : List UInt8) (er : Addr) (w : World) (hX : Txt w er) (hl : l.length ≤ 10000000) :
    Calls Tryz.prog 26 #[.string (bs l)] w (ParsePost (parseO l) w) := by
  have hmf : ∀ (fn : Fn) (first cap : Array Value) (w : World), (Instr.makeFunc fn first cap).run Tryz.prog w = .ok (.func fn first cap) w := fun _ _ _ _ => rfl
  have hen : Enters 47 := enters_of Tryz.func47 (by kernel_rfl) (by kernel_rfl)
  have HEN := Lib.hid hen
  have HX := Lib.hid hX
  have hls : (bs l).size ≤ 10000000 := hl
  obtain ⟨N, hN⟩ : ∃ N, N = Lib.countByte l 10 + 1 := ⟨_, rfl⟩
  have hN2 : N ≤ 10000001 := by
    have : Lib.countByte l 10 ≤ l.length := List.count_le_length
    omega
  have hNc : ((Lib.countByte l 10 : Nat) : Int) + 1 = (N : Int) := by omega
  have HN := Lib.hid hN
  clear hX hen hN
  go_enter Tryz.func26, Tryz.ntmps26
  go_wp2_with fail
  refine (empty_any (· < w.heap.size) w (fun _ h => h)).mono ?_
  rintro e w1 ⟨⟨tb, rfl, hT1⟩, hB1⟩
  have HT1 := Lib.hid (And.intro hT1 hB1)
  clear hT1 hB1
  go_wp2_with fail
  refine (cutter_any (bs l) 10 w1 (Nat.le_trans hl (by decide))).mono ?_
  rintro e w2 ⟨rfl, hC2, hB2⟩
  have HC2 := Lib.hid (And.intro hC2 hB2)
  clear hC2 hB2
  go_wp2_with fail
  refine (count_any (bs l) 10 _).mono ?_
  rintro e w3' ⟨rfl, rfl⟩
  have e0 : (bs l).data.toList = l := by simp
  rw [e0]
  go_wp2_with fail
  obtain ⟨w4, hw4, s4, hB4, k0, k1, k2, k3⟩ := four w2 (.cells #[adr tb] 65) (.cells #[cutV (w1.heap.size + 2) (w1.heap.size + 1) w1.heap.size] 83) (.cells #[.int .i64 (1 : Nat)] 3) (.cells #[.int .i64 N] 3)
  have hw4' : w4 = (((w2.alloc (.cells #[.pointer (some ⟨tb, 0, none⟩)] 65)).alloc (.cells #[.func (.func 66) #[] #[adr (w1.heap.size + 2), adr (w1.heap.size + 1), adr w1.heap.size]] 83)).alloc (.cells #[.int .i64 1] 3)).alloc (.cells #[.int .i64 N] 3) := hw4
  rw [← hw4']
  clear hw4 hw4'
  have H4 := Lib.hid (And.intro s4 (And.intro hB4 (And.intro k0 (And.intro k1 (And.intro k2 k3)))))
  clear s4 hB4 k0 k1 k2 k3 e0
  refine (completes_any 47 #[adr (w2.heap.size + 1 + 1), adr (w2.heap.size + 1 + 1 + 1), adr w2.heap.size, adr (w2.heap.size + 1)] (parseO l).isOk er w4
    (fun w' => Below w.heap.size w w' ∧ (∃ cur, w'.heap[w4.heap.size]? = some (.cells cur 4 (0, 0))) ∧ w'.heap[w2.heap.size]? = some (.cells #[adr tb] 65 (0, 0)) ∧ LinesQ (· < w.heap.size) tb (w2.heap.size + 1 + 1) (parseO l) w') HEN.out ?_ ?_).mono ?_
  · obtain ⟨s4, hB4, k0, k1, k2, k3⟩ := H4.out
    obtain ⟨w5, hw5⟩ : ∃ w5, w5 = w4.alloc (.cells #[.bool false] 4) := ⟨_, rfl⟩
    rw [← hw5]
    have hB5 : Below w4.heap.size w4 w5 := by rw [hw5]; exact bx _
    have s5 : w5.heap.size = w4.heap.size + 1 := by rw [hw5]; simp
    have h5 : w5.heap[w4.heap.size]? = some (.cells #[.bool false] 4 (0, 0)) := by rw [hw5]; exact heap_alloc_new _ _
    obtain ⟨hT1, hB1⟩ := HT1.out
    obtain ⟨hC2, hB2⟩ := HC2.out
    have s1 := hB1.size
    have s2 := hB2.size
    have hlt := hC2.lt
    have b24 : Below w2.heap.size w2 w5 := hB4.trans (hB5.mono hB4.size)
    have b15 : Below w1.heap.size w1 w5 := hB2.trans (b24.mono s2)
    have b05 : Below w.heap.size w w5 := hB1.trans (b15.mono s1)
    have hT5 := hT1.widen_ b15
    have HPC : PC (Wide (· < w.heap.size) w1 w5) (w2.heap.size + 1 + 1) (w2.heap.size + 1 + 1 + 1) w2.heap.size (w2.heap.size + 1) (w1.heap.size + 2) (w1.heap.size + 1) w1.heap.size := by
      obtain ⟨m, hm⟩ := HX.out.max
      obtain ⟨t1, p1, h1⟩ := HX.out.syn
      obtain ⟨t2, p2, h2⟩ := HX.out.rng
      have l1 := HX.out.err.lt
      have l2 := World.block_lt_of_cell? (h := hm)
      have l3 := World.block_lt_of_cell? (h := h1)
      have l4 := World.block_lt_of_cell? (h := h2)
      have l5 : 4 < w.heap.size := by
        have ht := HX.out.tab
        unfold Lib.TabIs World.var? at ht
        rw [gPow] at ht
        simp only [Option.bind_some] at ht
        split at ht
        · rename_i hh; exact lt_of_heap hh
        · cases ht
      refine ⟨.inr ⟨?_, ?_⟩, .inr ⟨?_, ?_⟩, .inr ⟨?_, ?_⟩, .inr ⟨?_, ?_⟩, .inr ⟨?_, ?_⟩, .inr ⟨?_, ?_⟩, .inr ⟨?_, ?_⟩, .inl l1, .inl l5, .inl l2, .inl l3, .inl l4, ?_⟩
      all_goals first | omega | (show _ ≠ _; omega)
    have up : ∀ {g : Nat} {o : Obj}, g < w4.heap.size → w4.heap[g]? = some o → w5.heap[g]? = some o := fun hg h => (hB5.block _ hg).trans h
    have hLS : LS (Wide (· < w.heap.size) w1 w5) tb (w2.heap.size + 1 + 1) (w2.heap.size + 1 + 1 + 1) w2.heap.size (w2.heap.size + 1) (w1.heap.size + 2) (w1.heap.size + 1) w1.heap.size N (parseO l) er w5 1 (sp 10 l) st0 :=
      ⟨by rw [sp_count, HN.out], sp_ne _ _, rfl, ⟨fun q hq => Nat.le_trans (sp_short 10 l q hq) hl, (hC2.below b24), hT5, good0, up (by omega) k2, up (by omega) k3, up (by omega) k0, up (by omega) k1, by omega, HX.out.below b05⟩⟩
    refine (lines_any _ tb _ _ _ _ _ _ _ N (parseO l) er w5 (sp 10 l) (by omega) HPC hLS).mono ?_
    rintro e w6 ⟨hp, hk⟩
    obtain ⟨rfl, hq⟩ := hp.split
    have hk0 : ∀ g, (g < w.heap.size ∨ g = w2.heap.size ∨ g = w4.heap.size) → w6.heap[g]? = w5.heap[g]? := fun g hg => hk.block g ⟨by
      rcases hg with h | rfl | rfl
      · exact .inl h
      · exact .inr ⟨by omega, by omega⟩
      · exact .inr ⟨by omega, by omega⟩, by omega, by omega, by omega⟩
    refine ⟨rfl, (hk0 _ (by omega)).trans h5, b05.trans ⟨hk.os, hk.tape, hk.output, hk.size, fun g hg => hk0 g (.inl hg)⟩, ⟨_, (hk0 _ (by omega)).trans h5⟩, (hk0 _ (by omega)).trans (up (by omega) k0), hq.narrow fun k hk => .inl hk⟩
  · rintro w6 v ⟨hb, ⟨cur, hok⟩, hcell, hq⟩
    obtain ⟨s4, hB4, k0, k1, k2, k3⟩ := H4.out
    have s1 := HT1.out.2.size
    have s2 := HC2.out.2.size
    have ne : ∀ g, g ≠ w4.heap.size → (w6.setCell ⟨w4.heap.size, 0, none⟩ v).heap[g]? = w6.heap[g]? := fun g hg => Below.heap_setCell _ _ _ _ hg
    refine ⟨hb.setCell (p := ⟨w4.heap.size, 0, none⟩) (by show _ ≤ w4.heap.size; omega) v, ⟨_, Blk.set_ (w := w6) hok 0 v⟩, (ne _ (by omega)).trans hcell, ?_⟩
    obtain ⟨R, hR⟩ : ∃ R, R = parseO l := ⟨_, rfl⟩
    rw [← hR] at hq ⊢
    cases R with
    | ok s =>
      exact TabEnd.far (w := w6) hq (by simp [World.setCell]) (fun g cur' t n1 hg => ne g (fun e => by rw [e, hok] at hg; cases hg; exact n1 rfl)) (fun g es m hg => ne g (fun e => by rw [e, hok] at hg; cases hg))
    | bad k => exact (ne _ (by omega)).trans hq
  · rintro e w6 ⟨rfl, hb, -, hcell, hq⟩
    have g5 : w6.cell? ⟨w2.heap.size, 0, none⟩ = some (adr tb) := cell_of_row _ _ _ _ _ _ hcell
    have HB := Lib.hid hb
    obtain ⟨R, hR⟩ : ∃ R, R = parseO l := ⟨_, rfl⟩
    rw [← hR] at hq ⊢
    have HR := Lib.hid hR
    clear hb hR hcell
    cases R with
    | ok s =>
      obtain ⟨vF, hc, htb, hv⟩ := TabEnd.fms hq
      have HV := Lib.hid hv
      have e1 : PR.isOk (.ok s) = true := rfl
      rw [e1]
      clear hq hv e1
      go_wp2_with fail
      refine bodyPost_ret (v := .tuple #[vF, .int .i64 (0), .int .i64 (0)]) (by simp [results, Tryz.results26, go_sem]) rfl ?_
      rw [← HR.out]
      exact ⟨⟨vF, rfl, HV.out⟩, HB.out⟩
    | bad k =>
      have e1 : PR.isOk (.bad k) = false := rfl
      have g6 : w6.cell? ⟨w2.heap.size + 1 + 1, 0, none⟩ = some (.int .i64 k) := cell_of_row _ _ _ _ _ _ hq
      rw [e1]
      clear hq e1
      go_wp2_with fail
      go_region
      all_goals
        go_wp2_with fail
        refine bodyPost_ret (v := .tuple #[.slice none 0 0, .int .i64 k, .int .i64 40]) (by simp [results, Tryz.results26, go_sem]) rfl ?_
        rw [← HR.out]
        exact ⟨rfl, HB.out.drew⟩
end Go.Proofs.YtcnokccgdiodlaaGreatDoor
