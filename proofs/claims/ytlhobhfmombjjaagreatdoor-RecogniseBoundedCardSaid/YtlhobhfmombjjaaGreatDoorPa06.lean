/- end: the open format is completed, or the reading stops. Conditions: the table lies there. begin: the open format is completed, and the next one opened, or the reading stops. Conditions: the table lies there; the number is an int. What completes gives of a function that comes to its end, and of one that is stopped. No condition of its own. build: a table is read from a list of formats. Conditions: the list is readable; its numbers are ints; the variable of the error holds a pointer. -/
import Derived.Test.YtlhobhfmombjjaaGreatDoorPa05
import Derived.Deep.DeepCutAuto
import Derived.StillTailTactics
import Derived.Defers
import Derived.Recover
import Derived.Laws.Pointers
namespace Go.Proofs.YtlhobhfmombjjaaGreatDoor
section FmtJ
open Go.RowKit Fx Go.Sort

/-- What end ends in. -/
def EndPost (P : Nat → Prop) (tb : Nat) (s : St) (er : Addr) (w : World) (e : Ending) (w' : World) : Prop :=
  e = ends er (endO s).isSome ∧ Kept P w w' ∧ ∀ s1, endO s = some s1 → TabEnd w' P tb s1

theorem end_zero (P : Nat → Prop) (tb : Nat) (s : St) (er : Addr) (w : World) (hT : TabAt w P tb s) (h0 : s.o.id = 0) :
    Calls Tryz.prog 116 #[adr tb] w (EndPost P tb s er w) := by
  obtain ⟨a, c, q1, q2, q3, q4, q5, q6, q7, q8⟩ := hT.cells_
  have HP : Hid (EndPost P tb s er w (.returned (.tuple #[])) w) := Lib.hid (by
    have e : endO s = some s := by unfold endO; rw [if_pos h0]
    exact ⟨by rw [e]; rfl, Kept.refl _ _, fun s1 h1 => by rw [e] at h1; cases h1; exact hT.end_⟩)
  have d0 : ((s.o.id : Int) == 0) = true := by simpa using h0
  clear hT q2 q3 q4 q5 q7 q8 h0
  go_enter Tryz.func116, Tryz.ntmps116
  go_wp2
  go_end0
  exact HP.out
theorem end_none (P : Nat → Prop) (tb : Nat) (s : St) (er : Addr) (w : World) (hT : TabAt w P tb s) (hE : ErrAt w er) (h0 : s.o.id ≠ 0) (h1 : s.o.fs.length = 0) :
    Calls Tryz.prog 116 #[adr tb] w (EndPost P tb s er w) := by
  obtain ⟨a, c, q1, q2, q3, q4, q5, q6, q7, q8⟩ := hT.cells_
  rw [h1] at q2
  have HP : Hid (EndPost P tb s er w (ends er false) w) := Lib.hid (by
    have e : endO s = none := by unfold endO; rw [if_neg h0, if_pos h1]
    exact ⟨by rw [e]; rfl, Kept.refl _ _, fun s1 h1 => by rw [e] at h1; cases h1⟩)
  have HE := Lib.hid hE
  have d0 : ((s.o.id : Int) == 0) = false := by simpa using h0
  clear hT q3 q4 q5 q7 q8 h0 h1 hE
  go_enter Tryz.func116, Tryz.ntmps116
  go_wp2_with fail
  refine (require_any false er _ HE.out).mono ?_
  rintro e w' ⟨rfl, rfl⟩
  unfold ends
  go_wp2_with fail
  exact ⟨rfl, HP.out⟩
theorem lm_len (d : List Fm) : (lm d).length = d.length := by
  unfold lm
  have : ∀ (d : List Fm) (m : List (Int × Int)), (d.foldl (fun m f => (f.id, ls m f.fs) :: m) m).length = m.length + d.length := by
    intro d
    induction d with
    | nil => intro m; simp
    | cons f t ih => intro m; rw [List.foldl_cons, ih]; simp; omega
  rw [this]; simp
/-- What stands behind the append, and behind the store into the map. -/
theorem end_mem {P : Nat → Prop} {tb : Nat} {s : St} {er : Addr} {w W0 w1 : World} {cs : Array Value} {mb b1 b2 c b3 : Nat} {vF vO v1 : Value} {vs : List Value} (hC : Core w P tb s cs mb b1 b2 c b3 vF vs) (hO : Open w P s cs vs vO) (hG : Fx.Good s)
    (h0 : s.o.id ≠ 0) (h1 : s.o.fs.length ≠ 0) (hB : Below w.heap.size w W0) (hGr : Grew W0 w1 0 52 2 vF v1 (s.d.length + 1) (flatM s.d vs ++ [.int .i64 s.o.id, vO])) :
    ∃ w2 w3, w2 = w1.setCell ⟨tb, 35, none⟩ v1 ∧ w2.cell? ⟨tb, 36, none⟩ = some (.map (some mb)) ∧ w2.cell? ⟨tb, 37, none⟩ = some (.int .i64 s.o.id) ∧ w2.cell? ⟨tb, 39, none⟩ = some (.int .i64 (ls (lm s.d) s.o.fs)) ∧ tb < w2.heap.size ∧
      (Instr.mapUpdate 187 (.map (some mb)) (.int .i64 s.o.id) (.int .i64 (ls (lm s.d) s.o.fs))).run Tryz.prog w2.drew = .ok () w3 ∧ EndPost P tb s er w (.returned (.tuple #[])) w3 := by
  have hR : W0.ownsRow 0 52 2 vF s.d.length (flatM s.d vs) := ownsRow_below hC.rowF hB
  have hblk : Blk w1 tb 190 cs := hGr.blkOther hR (hC.blk.below hB) (by decide)
  obtain ⟨w2, hw2⟩ : ∃ w2, w2 = w1.setCell ⟨tb, 35, none⟩ v1 := ⟨_, rfl⟩
  have hblk2 := hblk.set_ 35 v1
  rw [← hw2] at hblk2
  have hsz := hC.sz
  have far : ∀ (g : Nat) (cur : Array Value) (t : TypeId) (fr : Nat × Nat), t ≠ 52 → t ≠ 190 → w.heap[g]? = some (Obj.cells cur t fr) → w2.heap[g]? = w.heap[g]? := fun g cur t fr n1 n2 hg => by
    have hl := lt_of_heap hg
    have e1 : W0.heap[g]? = w.heap[g]? := hB.block g hl
    have e2 : w1.heap[g]? = W0.heap[g]? := hGr.heapOther hR (Nat.lt_of_lt_of_le hl hB.size) (fun cur' fr' h => by rw [e1, hg] at h; cases h; exact n1 rfl)
    have e3 : w2.heap[g]? = w1.heap[g]? := by
      rw [hw2]; exact Below.heap_setCell _ _ _ _ (by
        intro e
        have hh : w.heap[g]? = some (.cells cs 190 (0, 0)) := by rw [e]; exact hC.blk
        rw [hg] at hh
        cases hh
        exact n2 rfl)
    rw [e3, e2, e1]
  have hm2 : MapIs w2 mb (lm s.d) := by
    have hl := hC.map.lt
    have e1 : W0.heap[mb]? = w.heap[mb]? := hB.block mb hl
    have e2 : w1.heap[mb]? = W0.heap[mb]? := hGr.heapOther hR (Nat.lt_of_lt_of_le hl hB.size) (fun cur' fr' h => by rw [e1] at h; exact hC.map.heap_ne h rfl)
    have e3 : w2.heap[mb]? = w1.heap[mb]? := by rw [hw2]; exact Below.heap_setCell _ _ _ _ (fun e => hC.map.heap_ne hC.blk e.symm)
    exact hC.map.of_block (by rw [e3, e2, e1])
  have hk2 : Kept P w w2 := by
    rw [hw2]
    exact Kept.setCell (Kept.grown (Kept.of_below hB hC.pin) hGr.grown (fun k hk => Nat.lt_of_lt_of_le (hC.pin k hk) hB.size) (fun k hk => hC.pF k hk)) hC.pT _
  have hr2 : w2.ownsRow 0 52 2 v1 (s.d.length + 1) (flatM s.d vs ++ [.int .i64 s.o.id, vO]) := own_keep hGr.own fun g cur hg hh => by
    rw [hw2]; exact Below.heap_setCell _ _ _ _ (by rintro rfl; exact Blk.ne_ (t := 52) hh hblk (by decide) rfl)
  have hlen : (lm s.d).length < 1000 := by rw [lm_len]; have := hG.pre.few; omega
  have i1 := hG.lo
  have i2 := hG.hi
  have l1 := ls_nonneg hG.fine hG.each
  have l2 := hG.len
  obtain ⟨w3, hrun, hm3, hg3⟩ := (hm2.of_block (w' := w2.drew) rfl).put_ hlen (id := s.o.id) (v := ls (lm s.d) s.o.fs) (by omega) (by omega) (by omega) (by omega)
  have hk3 : Kept P w w3 := Kept.grown (Kept.drew hk2) hg3 (fun k hk => Nat.lt_of_lt_of_le (hC.pin k hk) hk2.size) (fun k hk => by cases hk; exact hC.pM)
  have hcells : ∀ (g : Nat) (cur : Array Value) (t : TypeId) (fr : Nat × Nat), w2.heap[g]? = some (Obj.cells cur t fr) → w3.heap[g]? = w2.heap[g]? := fun g cur t fr hg => hg3.block g (lt_of_heap (w := w2) hg) (fun e => by cases e; exact hm2.heap_ne hg rfl)
  have far3 : ∀ (g : Nat) (cur : Array Value) (t : TypeId) (fr : Nat × Nat), t ≠ 52 → t ≠ 190 → w.heap[g]? = some (Obj.cells cur t fr) → w3.heap[g]? = w.heap[g]? := fun g cur t fr n1 n2 hg => by
    have e := far g cur t fr n1 n2 hg
    rw [hcells g cur t fr (e.trans hg), e]
  have hb3 : Blk w3 tb 190 (cs.setIfInBounds 35 v1) := (hcells _ _ _ _ hblk2).trans hblk2
  have oth : ∀ i, i ≠ 35 → (cs.setIfInBounds 35 v1)[i]? = cs[i]? := fun i hi => Array.getElem?_setIfInBounds_ne (fun e => hi e.symm)
  refine ⟨w2, w3, hw2, by rw [hblk2.cell 36, oth 36 (by decide)]; exact hC.cM, by rw [hblk2.cell 37, oth 37 (by decide)]; exact hC.cI, by rw [hblk2.cell 39, oth 39 (by decide)]; exact hO.cL, hblk2.lt, hrun, ?_⟩
  have e : endO s = some ⟨s.d ++ [s.o], s.o⟩ := by unfold endO; rw [if_neg h0, if_neg h1]
  refine ⟨by rw [e]; rfl, hk3, fun s1 h1 => ?_⟩
  rw [e] at h1
  cases h1
  refine ⟨_, mb, b1, b2, c, b3, v1, vs ++ [vO], hb3, by simp [hsz], fun i hi => by rw [oth i (by omega)]; exact hC.kinds i hi, by rw [Array.getElem?_setIfInBounds_self_of_lt (by omega)], by rw [oth 36 (by decide)]; exact hC.cM, by rw [oth 37 (by decide)]; exact hC.cI,
    ?_, by rw [lm_snoc]; exact hm3, ?_, by simp [hC.vsl], ?_, fun k hk => Nat.lt_of_lt_of_le (hC.pin k hk) hk3.size, hC.pT, hC.pM, ?_, hC.pB⟩
  · exact hC.boxes.far fun g cur t ht hg => far3 g cur t _ (by rcases ht with rfl | rfl <;> decide) (by rcases ht with rfl | rfl <;> decide) hg
  · rw [List.length_append, flatM_snoc hC.vsl]
    exact own_keep hr2 fun g cur hg hh => hcells g _ _ _ hh
  · intro i hi
    simp only [List.length_append, List.length_cons, List.length_nil] at hi
    by_cases hlt : i < s.d.length
    · rw [getD_snoc_lt hlt, getD_snoc_lt (by have := hC.vsl; omega)]
      exact own_keep (hC.done i hlt) fun g cur hg hh => far3 g _ _ _ (by decide) (by decide) hh
    · obtain rfl : i = s.d.length := by omega
      rw [getD_snoc_eq, ← hC.vsl, getD_snoc_eq]
      exact own_keep hO.rowO fun g cur hg hh => far3 g _ _ _ (by decide) (by decide) hh
  · intro g hg hP
    rcases hGr.blk with h | h
    · exact hC.pF g (h ▸ hg) hP
    · rw [h] at hg
      cases hg
      have := hC.pin _ hP
      have := hB.size
      omega
set_option maxRecDepth 100000 in
set_option maxHeartbeats 2000000 in
theorem end_main (P : Nat → Prop) (tb : Nat) (s : St) (er : Addr) (w : World) (hT : TabAt w P tb s) (hE : ErrAt w er) (hG : Fx.Good s) (h0 : s.o.id ≠ 0) (h1 : s.o.fs.length ≠ 0) :
    Calls Tryz.prog 116 #[adr tb] w (EndPost P tb s er w) := by
  obtain ⟨cs, mb, b1, b2, c, b3, vF, vs, vO, hC, hO⟩ := hT
  obtain ⟨a, cp, rfl, q4, q5⟩ := own_slice hO.rowO
  have q1 : w.cell? ⟨tb, 37, none⟩ = some (.int .i64 s.o.id) := (hC.blk.cell 37).trans hC.cI
  obtain ⟨L, hL⟩ : ∃ L, L = s.o.fs.length := ⟨_, rfl⟩
  have q2 : w.cell? ⟨tb, 38, none⟩ = some (.slice a L cp) := by rw [hL]; exact (hC.blk.cell 38).trans hO.cO
  have q35 : w.cell? ⟨tb, 35, none⟩ = some vF := (hC.blk.cell 35).trans hC.cF
  have z35 : w.frozen? ⟨tb, 35, none⟩ = false := hC.blk.frozen 35
  have q6 := hC.blk.lt
  obtain ⟨aF, cF, rfl, q7, q8⟩ := own_slice hC.rowF
  obtain ⟨M, hM⟩ : ∃ M, M = s.d.length := ⟨_, rfl⟩
  rw [← hM] at q35 q7
  have HC := Lib.hid hC
  have HO := Lib.hid hO
  have HG := Lib.hid hG
  have HE := Lib.hid hE
  have HL := Lib.hid (And.intro hL hM)
  have hLp : 0 < L := by omega
  have d0 : ((s.o.id : Int) == 0) = false := by simpa using h0
  have HZ := Lib.hid (And.intro h0 h1)
  unfold maxLen at q5 q8
  have hMM : M ≤ 1000 := by have := hG.pre.few; omega
  clear hC hO hG hE hL hM h0 h1
  go_enter Tryz.func116, Tryz.ntmps116
  go_wp2_with fail
  refine (require_any true er _ HE.out).mono ?_
  rintro e w' ⟨rfl, rfl⟩
  unfold ends
  go_wp2_with fail
  have HR : Hid (((w.alloc (.cells #[.int .i64 s.o.id, .slice a L cp] 52)).drew).ownsRow 0 52 2 (.slice aF M cF) M (flatM s.d vs)) := Lib.hid (by
    have := ownsRow_below HC.out.rowF ((bx (.cells #[.int .i64 s.o.id, .slice a L cp] 52)).drew)
    rw [← HL.out.2] at this; exact this)
  have HH : Hid (((w.alloc (.cells #[.int .i64 s.o.id, .slice a L cp] 52)).drew).heap[w.heap.size]? = some (.cells #[.int .i64 s.o.id, .slice a L cp] 52 (0, 0))) := Lib.hid (heap_alloc_new w _)
  have HKEY : Hid (∀ v' w', Grew ((w.alloc (.cells #[.int .i64 s.o.id, .slice a L cp] 52)).drew) w' 0 52 2 (.slice aF M cF) v' (M + 1) (flatM s.d vs ++ [.int .i64 s.o.id, .slice a L cp]) →
      ∃ a1 c1, v' = .slice a1 (M + 1) c1 ∧ w'.cell? ⟨tb, 35, none⟩ = some (.slice aF M cF) ∧ w'.frozen? ⟨tb, 35, none⟩ = false) := Lib.hid (fun v' w' hg => by
    obtain ⟨a1, c1, h1, _, _⟩ := own_slice hg.own
    have hb := hg.blkOther HR.out (HC.out.blk.below ((bx (.cells #[.int .i64 s.o.id, .slice a L cp] 52)).drew)) (by decide)
    refine ⟨a1, c1, h1, ?_, hb.frozen 35⟩
    rw [hb.cell 35, HC.out.cF, HL.out.2])
  go_cut [] from 16 (fun w' => ∃ v1 w1, Grew ((w.alloc (.cells #[.int .i64 s.o.id, .slice a L cp] 52)).drew) w1 0 52 2 (.slice aF M cF) v1 (M + 1) (flatM s.d vs ++ [.int .i64 s.o.id, .slice a L cp]) ∧ w' = w1.setCell ⟨tb, 35, none⟩ v1)
  case first =>
    go_region_law (refine step_append_fmt rfl (.tmp 20) (.tmp 25) rfl (.slice aF M cF) M (flatM s.d vs) rfl HR.out hMM w.heap.size s.o.id (.slice a L cp) rfl rfl HH.out ?_; intro v1 w1 hGr; obtain ⟨a1, c1, rfl, g35, g35z⟩ := HKEY.out v1 w1 hGr)
    all_goals
      go_wp2_with fail
      go_meet
      exact ⟨_, _, hGr, rfl⟩
  case rest =>
    obtain ⟨v1, w1, hGr, rfl⟩ := hcut
    obtain ⟨e1, e2⟩ := HL.out
    subst e1
    subst e2
    obtain ⟨w2, w3, hw2, p36, p37, p39, ptb, hrun, hpost⟩ := end_mem (er := er) HC.out HO.out HG.out HZ.out.1 HZ.out.2 ((bx _).drew) hGr
    rw [← hw2]
    have HP := Lib.hid hpost
    clear hw2 hpost hGr HR HH HKEY HC HO HG HE HL HZ hMM q1 q2 q35 z35 q6 q7 q8 q4 q5 d0 hLp
    go_wp2_with fail
    go_still_tail 13, (by kernel_rfl)
    change wpList _ _ _ _ _ w2.drew
    go_wp2
    go_end0
    exact HP.out
end FmtJ
section FmtK
open Go.RowKit Fx Go.Sort

theorem end_any (P : Nat → Prop) (tb : Nat) (s : St) (er : Addr) (w : World) (hT : TabAt w P tb s) (hE : ErrAt w er) (hG : Fx.Good s) :
    Calls Tryz.prog 116 #[adr tb] w (EndPost P tb s er w) := by
  by_cases h0 : s.o.id = 0
  · exact end_zero P tb s er w hT h0
  · by_cases h1 : s.o.fs.length = 0
    · exact end_none P tb s er w hT hE h0 h1
    · exact end_main P tb s er w hT hE hG h0 h1
/-- What begin ends in. -/
def BeginPost (P : Nat → Prop) (tb : Nat) (s : St) (id : Int) (er : Addr) (w : World) (e : Ending) (w' : World) : Prop :=
  e = ends er (beginO s id).isSome ∧ Kept P w w' ∧ ∀ s1, beginO s id = some s1 → TabAt w' P tb s1
theorem TabEnd.cells_ {w : World} {P : Nat → Prop} {tb : Nat} {s : St} (h : TabEnd w P tb s) : ∃ a c, w.cell? ⟨tb, 37, none⟩ = some (.int .i64 s.o.id) ∧ w.cell? ⟨tb, 35, none⟩ = some (.slice a s.d.length c) ∧ s.d.length ≤ c ∧ c ≤ maxLen ∧ tb < w.heap.size ∧ (∀ i, w.frozen? ⟨tb, i, none⟩ = false) ∧
    (∀ i, i < 56 → ∃ v, w.cell? ⟨tb, i, none⟩ = some v) := by
  obtain ⟨cs, mb, b1, b2, c, b3, vF, vs, hC⟩ := h
  obtain ⟨a, c, rfl, h1, h2⟩ := own_slice hC.rowF
  exact ⟨a, c, (hC.blk.cell 37).trans hC.cI, (hC.blk.cell 35).trans hC.cF, h1, h2, hC.blk.lt, fun i => hC.blk.frozen i, fun i hi => ⟨cs[i]'(by have := hC.sz; omega), by rw [hC.blk.cell i, Array.getElem?_eq_getElem]⟩⟩
theorem begin_stop {P : Nat → Prop} {tb : Nat} {s : St} {id : Int} {er : Addr} {w : World} {e : Ending} {w' : World} (h : beginO s id = none) (he : e = ends er false) (hk : Kept P w w') : BeginPost P tb s id er w e w' :=
  ⟨by rw [h]; exact he, hk, fun s1 h2 => by rw [h] at h2; cases h2⟩

/-- Stores into the cells of a block. -/
def stores (w : World) (tb : Nat) (l : List (Nat × Value)) : World := l.foldl (fun w p => w.setCell ⟨tb, p.1, none⟩ p.2) w
def puts (cs : Array Value) (l : List (Nat × Value)) : Array Value := l.foldl (fun cs p => cs.setIfInBounds p.1 p.2) cs
theorem stores_blk {tb : Nat} {t : TypeId} : ∀ {l : List (Nat × Value)} {w : World} {cs : Array Value}, Blk w tb t cs → Blk (stores w tb l) tb t (puts cs l)
  | [], _, _, h => h
  | p :: l, _, _, h => stores_blk (l := l) (h.set_ p.1 p.2)
theorem stores_ne {tb g : Nat} (hg : g ≠ tb) : ∀ {l : List (Nat × Value)} {w : World}, (stores w tb l).heap[g]? = w.heap[g]?
  | [], _ => rfl
  | p :: l, w => (stores_ne hg (l := l)).trans (Below.heap_setCell w ⟨tb, p.1, none⟩ p.2 g hg)
theorem stores_kept {P : Nat → Prop} {tb : Nat} (hP : ¬ P tb) : ∀ {l : List (Nat × Value)} {w : World}, Kept P w (stores w tb l)
  | [], _ => Kept.refl _ _
  | p :: l, w => (Kept.setCell (Kept.refl P w) (p := ⟨tb, p.1, none⟩) hP p.2).trans (stores_kept hP (l := l))
theorem puts_size : ∀ {l : List (Nat × Value)} {cs : Array Value}, (puts cs l).size = cs.size
  | [], _ => rfl
  | p :: l, cs => by
    have := puts_size (l := l) (cs := cs.setIfInBounds p.1 p.2)
    simp only [Array.size_setIfInBounds] at this
    exact this
theorem puts_ne {i : Nat} : ∀ {l : List (Nat × Value)} {cs : Array Value}, (∀ p ∈ l, p.1 ≠ i) → (puts cs l)[i]? = cs[i]?
  | [], _, _ => rfl
  | p :: l, cs, h => by
    have := puts_ne (i := i) (l := l) (cs := cs.setIfInBounds p.1 p.2) fun q hq => h q (List.mem_cons_of_mem _ hq)
    refine this.trans (Array.getElem?_setIfInBounds_ne (h p (by simp)))
theorem puts_eq {i : Nat} {v : Value} : ∀ {l : List (Nat × Value)} {cs : Array Value}, i < cs.size → (∃ a b, l = a ++ (i, v) :: b ∧ ∀ p ∈ b, p.1 ≠ i) → (puts cs l)[i]? = some v := by
  rintro l cs hi ⟨a, b, rfl, hb⟩
  have e : puts cs (a ++ (i, v) :: b) = puts ((puts cs a).setIfInBounds i v) b := by unfold puts; rw [List.foldl_append]; rfl
  rw [e, puts_ne hb, Array.getElem?_setIfInBounds_self_of_lt (by rw [puts_size]; exact hi)]
def fresh (id : Int) : List (Nat × Value) := [(37, .int .i64 id), (38, .slice none 0 0), (39, .int .i64 0), (40, .bool false), (41, .bool false), (42, .bool false), (43, .bool false), (44, .bool false), (45, .bool false), (46, .bool false), (47, .bool false), (48, .bool false), (49, .bool false), (50, .bool false), (51, .bool false), (52, .bool false), (53, .bool false), (54, .bool false), (55, .bool false)]
theorem begin_mem {P : Nat → Prop} {tb : Nat} {s : St} {w : World} (id : Int) (h : TabEnd w P tb s) : TabAt (stores w tb (fresh id)) P tb ⟨s.d, ⟨id, []⟩⟩ := by
  obtain ⟨cs, mb, b1, b2, c, b3, vF, vs, hC⟩ := h
  have hsz := hC.sz
  have hb := stores_blk (l := fresh id) hC.blk
  have far : ∀ (g : Nat) (cur : Array Value) (t : TypeId) (fr : Nat × Nat), t ≠ 190 → w.heap[g]? = some (Obj.cells cur t fr) → (stores w tb (fresh id)).heap[g]? = w.heap[g]? := fun g cur t fr n1 hg => by
    refine stores_ne (fun e => ?_)
    have hh : w.heap[g]? = some (.cells cs 190 (0, 0)) := by rw [e]; exact hC.blk
    rw [hg] at hh
    cases hh
    exact n1 rfl
  have hi : ∀ i, i < 37 → (puts cs (fresh id))[i]? = cs[i]? := fun i hi => puts_ne (by
    intro p hp
    simp only [fresh, List.mem_cons, List.not_mem_nil, or_false] at hp
    rcases hp with rfl | rfl | rfl | rfl | rfl | rfl | rfl | rfl | rfl | rfl | rfl | rfl | rfl | rfl | rfl | rfl | rfl | rfl | rfl <;> (simp only; omega))
  refine ⟨_, mb, b1, b2, c, b3, vF, vs, .slice none 0 0, ⟨hb, by rw [puts_size]; exact hsz, fun i h => by rw [hi i (by omega)]; exact hC.kinds i h, by rw [hi 35 (by decide)]; exact hC.cF, by rw [hi 36 (by decide)]; exact hC.cM,
    puts_eq (by omega) ⟨[], _, rfl, by simp⟩, hC.boxes.far fun g cur t ht hg => far g cur t _ (by rcases ht with rfl | rfl <;> decide) hg, hC.map.of_block (stores_ne (fun e => hC.map.heap_ne hC.blk e.symm)),
    own_keep hC.rowF fun g cur _ hh => far g _ _ _ (by decide) hh, hC.vsl, fun i h => own_keep (hC.done i h) fun g cur _ hh => far g _ _ _ (by decide) hh, fun k hk => Nat.lt_of_lt_of_le (hC.pin k hk) (stores_kept (P := fun _ => False) (fun h => h)).size, hC.pT, hC.pM, hC.pF, hC.pB⟩,
    ⟨puts_eq (by omega) ⟨[(37, .int .i64 id)], _, rfl, by simp⟩, puts_eq (by omega) ⟨[(37, .int .i64 id), (38, .slice none 0 0)], _, rfl, by simp⟩, fun i h => ?_, World.ownsRow_nil _ _ _ _, fun g hg => by simp [Value.ownBlock] at hg, fun i h g hg => by simp [Value.ownBlock] at hg⟩⟩
  have hu : usedB ([] : List Fld) i = false := rfl
  rw [hu]
  match i, h with
  | 0, _ => exact puts_eq (by omega) ⟨[(37, .int .i64 id), (38, .slice none 0 0), (39, .int .i64 0)], _, rfl, by simp⟩
  | 1, _ => exact puts_eq (by omega) ⟨[(37, .int .i64 id), (38, .slice none 0 0), (39, .int .i64 0), (40, .bool false)], _, rfl, by simp⟩
  | 2, _ => exact puts_eq (by omega) ⟨[(37, .int .i64 id), (38, .slice none 0 0), (39, .int .i64 0), (40, .bool false), (41, .bool false)], _, rfl, by simp⟩
  | 3, _ => exact puts_eq (by omega) ⟨[(37, .int .i64 id), (38, .slice none 0 0), (39, .int .i64 0), (40, .bool false), (41, .bool false), (42, .bool false)], _, rfl, by simp⟩
  | 4, _ => exact puts_eq (by omega) ⟨[(37, .int .i64 id), (38, .slice none 0 0), (39, .int .i64 0), (40, .bool false), (41, .bool false), (42, .bool false), (43, .bool false)], _, rfl, by simp⟩
  | 5, _ => exact puts_eq (by omega) ⟨[(37, .int .i64 id), (38, .slice none 0 0), (39, .int .i64 0), (40, .bool false), (41, .bool false), (42, .bool false), (43, .bool false), (44, .bool false)], _, rfl, by simp⟩
  | 6, _ => exact puts_eq (by omega) ⟨[(37, .int .i64 id), (38, .slice none 0 0), (39, .int .i64 0), (40, .bool false), (41, .bool false), (42, .bool false), (43, .bool false), (44, .bool false), (45, .bool false)], _, rfl, by simp⟩
  | 7, _ => exact puts_eq (by omega) ⟨[(37, .int .i64 id), (38, .slice none 0 0), (39, .int .i64 0), (40, .bool false), (41, .bool false), (42, .bool false), (43, .bool false), (44, .bool false), (45, .bool false), (46, .bool false)], _, rfl, by simp⟩
  | 8, _ => exact puts_eq (by omega) ⟨[(37, .int .i64 id), (38, .slice none 0 0), (39, .int .i64 0), (40, .bool false), (41, .bool false), (42, .bool false), (43, .bool false), (44, .bool false), (45, .bool false), (46, .bool false), (47, .bool false)], _, rfl, by simp⟩
  | 9, _ => exact puts_eq (by omega) ⟨[(37, .int .i64 id), (38, .slice none 0 0), (39, .int .i64 0), (40, .bool false), (41, .bool false), (42, .bool false), (43, .bool false), (44, .bool false), (45, .bool false), (46, .bool false), (47, .bool false), (48, .bool false)], _, rfl, by simp⟩
  | 10, _ => exact puts_eq (by omega) ⟨[(37, .int .i64 id), (38, .slice none 0 0), (39, .int .i64 0), (40, .bool false), (41, .bool false), (42, .bool false), (43, .bool false), (44, .bool false), (45, .bool false), (46, .bool false), (47, .bool false), (48, .bool false), (49, .bool false)], _, rfl, by simp⟩
  | 11, _ => exact puts_eq (by omega) ⟨[(37, .int .i64 id), (38, .slice none 0 0), (39, .int .i64 0), (40, .bool false), (41, .bool false), (42, .bool false), (43, .bool false), (44, .bool false), (45, .bool false), (46, .bool false), (47, .bool false), (48, .bool false), (49, .bool false), (50, .bool false)], _, rfl, by simp⟩
  | 12, _ => exact puts_eq (by omega) ⟨[(37, .int .i64 id), (38, .slice none 0 0), (39, .int .i64 0), (40, .bool false), (41, .bool false), (42, .bool false), (43, .bool false), (44, .bool false), (45, .bool false), (46, .bool false), (47, .bool false), (48, .bool false), (49, .bool false), (50, .bool false), (51, .bool false)], _, rfl, by simp⟩
  | 13, _ => exact puts_eq (by omega) ⟨[(37, .int .i64 id), (38, .slice none 0 0), (39, .int .i64 0), (40, .bool false), (41, .bool false), (42, .bool false), (43, .bool false), (44, .bool false), (45, .bool false), (46, .bool false), (47, .bool false), (48, .bool false), (49, .bool false), (50, .bool false), (51, .bool false), (52, .bool false)], _, rfl, by simp⟩
  | 14, _ => exact puts_eq (by omega) ⟨[(37, .int .i64 id), (38, .slice none 0 0), (39, .int .i64 0), (40, .bool false), (41, .bool false), (42, .bool false), (43, .bool false), (44, .bool false), (45, .bool false), (46, .bool false), (47, .bool false), (48, .bool false), (49, .bool false), (50, .bool false), (51, .bool false), (52, .bool false), (53, .bool false)], _, rfl, by simp⟩
  | 15, _ => exact puts_eq (by omega) ⟨[(37, .int .i64 id), (38, .slice none 0 0), (39, .int .i64 0), (40, .bool false), (41, .bool false), (42, .bool false), (43, .bool false), (44, .bool false), (45, .bool false), (46, .bool false), (47, .bool false), (48, .bool false), (49, .bool false), (50, .bool false), (51, .bool false), (52, .bool false), (53, .bool false), (54, .bool false)], _, rfl, by simp⟩
  | k + 16, h => omega
set_option maxRecDepth 100000 in
set_option maxHeartbeats 2000000 in
theorem begin_any (P : Nat → Prop) (tb : Nat) (s : St) (id : Int) (er : Addr) (w : World) (hT : TabAt w P tb s) (hE : ErrAt w er) (hPe : P 1) (hG : Fx.Good s) :
    Calls Tryz.prog 114 #[adr tb, .int .i64 id] w (BeginPost P tb s id er w) := by
  have HEN := Lib.hid (end_any P tb s er w hT hE hG)
  have HE := Lib.hid hE
  have HG := Lib.hid hG
  clear hT hE hG
  obtain ⟨oo, ho⟩ : ∃ oo, oo = endO s := ⟨_, rfl⟩
  cases oo with
  | none =>
    have hB : beginO s id = none := by unfold beginO; rw [← ho]
    have HB := Lib.hid (And.intro hB ho)
    clear hB ho
    go_enter Tryz.func114, Tryz.ntmps114
    go_wp2_with fail
    refine HEN.out.mono ?_
    rintro e w1 ⟨rfl, hk, _⟩
    have HK := Lib.hid hk
    clear hk
    rw [← HB.out.2]
    unfold ends
    simp only [Option.isSome_none]
    go_wp2_with fail
    exact ⟨rfl, begin_stop HB.out.1 rfl HK.out⟩
  | some s1 =>
    have HO := Lib.hid ho
    clear ho
    go_enter Tryz.func114, Tryz.ntmps114
    go_wp2_with fail
    refine HEN.out.mono ?_
    rintro e w1 ⟨rfl, hk, hT1⟩
    have HT1 := Lib.hid (hT1 s1 HO.out.symm)
    have HK := Lib.hid hk
    have HE1 : Hid (ErrAt w1 er) := Lib.hid ⟨(hk.cell (p := ⟨1, 0, none⟩) hPe).trans HE.out.cell⟩
    clear hk hT1
    rw [← HO.out]
    unfold ends
    simp only [Option.isSome_some]
    obtain ⟨aF, cF, p37, p35, q1, q2, q3, q4, q5⟩ := HT1.out.cells_
    have ho1 : s1.o = s.o := (HG.out.end_ HO.out.symm).2.2.1
    rw [ho1] at p37
    obtain ⟨M, hM⟩ : ∃ M, M = s1.d.length := ⟨_, rfl⟩
    rw [← hM] at p35 q1
    unfold maxLen at q2
    have HM := Lib.hid (And.intro hM ho1)
    clear hM ho1
    by_cases hl : M < 60
    · have hl2 : (M : Int) < 60 := by omega
      by_cases hid : s.o.id < id
      · by_cases hid2 : id ≤ 1000000
        · obtain ⟨o37, o38, o39⟩ := And.intro (q4 37) (And.intro (q4 38) (q4 39))
          go_wp2_with fail
          refine (require_any true er _ HE1.out).mono ?_
          rintro e w' ⟨rfl, rfl⟩
          unfold ends
          go_wp2_with fail
          refine (require_any true er _ HE1.out).mono ?_
          rintro e w' ⟨rfl, rfl⟩
          unfold ends
          obtain ⟨x38, hx38⟩ := q5 38 (by omega)
          obtain ⟨x39, hx39⟩ := q5 39 (by omega)
          obtain ⟨x40, hx40⟩ := q5 40 (by omega)
          obtain ⟨x41, hx41⟩ := q5 41 (by omega)
          obtain ⟨x42, hx42⟩ := q5 42 (by omega)
          obtain ⟨x43, hx43⟩ := q5 43 (by omega)
          obtain ⟨x44, hx44⟩ := q5 44 (by omega)
          obtain ⟨x45, hx45⟩ := q5 45 (by omega)
          obtain ⟨x46, hx46⟩ := q5 46 (by omega)
          obtain ⟨x47, hx47⟩ := q5 47 (by omega)
          obtain ⟨x48, hx48⟩ := q5 48 (by omega)
          obtain ⟨x49, hx49⟩ := q5 49 (by omega)
          obtain ⟨x50, hx50⟩ := q5 50 (by omega)
          obtain ⟨x51, hx51⟩ := q5 51 (by omega)
          obtain ⟨x52, hx52⟩ := q5 52 (by omega)
          obtain ⟨x53, hx53⟩ := q5 53 (by omega)
          obtain ⟨x54, hx54⟩ := q5 54 (by omega)
          obtain ⟨x55, hx55⟩ := q5 55 (by omega)
          go_wp2_with fail
          go_end0
          have hb : beginO s id = some ⟨s1.d, ⟨id, []⟩⟩ := by
            unfold beginO; rw [← HO.out]; simp only
            rw [if_pos ⟨by have := HM.out.1; omega, hid, hid2⟩]
          refine ⟨by rw [hb]; rfl, HK.out.trans (stores_kept (l := fresh id) (by obtain ⟨cs, mb, b1, b2, c, b3, vF, vs, hC⟩ := HT1.out; exact hC.pT)), fun s2 h2 => ?_⟩
          rw [hb] at h2
          cases h2
          exact begin_mem id HT1.out
        · have hd : decide (id ≤ 1000000) = false := decide_eq_false hid2
          have hb : beginO s id = none := by
            unfold beginO; rw [← HO.out]; simp only
            rw [if_neg (by omega)]
          go_wp2_with fail
          refine (require_any true er _ HE1.out).mono ?_
          rintro e w' ⟨rfl, rfl⟩
          unfold ends
          go_wp2_with fail
          refine (require_any false er _ HE1.out).mono ?_
          rintro e w' ⟨rfl, rfl⟩
          unfold ends
          go_wp2_with fail
          exact ⟨rfl, begin_stop hb rfl HK.out⟩
      · have hd : decide (s.o.id < id) = false := decide_eq_false hid
        have hb : beginO s id = none := by
          unfold beginO; rw [← HO.out]; simp only
          rw [if_neg (by omega)]
        go_wp2_with fail
        refine (require_any true er _ HE1.out).mono ?_
        rintro e w' ⟨rfl, rfl⟩
        unfold ends
        go_wp2_with fail
        refine (require_any false er _ HE1.out).mono ?_
        rintro e w' ⟨rfl, rfl⟩
        unfold ends
        go_wp2_with fail
        exact ⟨rfl, begin_stop hb rfl HK.out⟩
    · have hd : decide ((M : Int) < 60) = false := decide_eq_false (by omega)
      have hb : beginO s id = none := by
        unfold beginO; rw [← HO.out]; simp only
        rw [if_neg (by have := HM.out.1; omega)]
      go_wp2_with fail
      refine (require_any false er _ HE1.out).mono ?_
      rintro e w' ⟨rfl, rfl⟩
      unfold ends
      go_wp2_with fail
      exact ⟨rfl, begin_stop hb rfl HK.out⟩
end FmtK
section FmtL
open Go.RowKit Fx Go.Sort

theorem add_any (P : Nat → Prop) (tb : Nat) (s : St) (f : Fld) (er : Addr) (w : World) (hT : TabAt w P tb s) (hE : ErrAt w er) (hPe : P 1) (hG : Fx.Good s) (hf : Ints f) :
    Calls Tryz.prog 115 #[adr tb, fldV f] w (AddPost P tb s f er w) := by
  by_cases h0 : 0 < s.o.id
  · by_cases h1 : s.o.fs.length < 16
    · by_cases hk : 1 ≤ f.kind ∧ f.kind ≤ 6
      · exact add_main P tb f.kind.toNat s f er w hT hE hPe hG h0 h1 hf (by omega) (by omega) (by omega)
      · exact add_kind P tb s f er w hT hE h0 h1 hk
    · exact add_full P tb s f er w hT hE h0 h1
  · exact add_id P tb s f er w hT hE h0

theorem catch_panicking (p : Addr) (x pv : Value) (u : TypeId) (older : List PanicEntry) (w : World) (hc : w.cell? p = some x) (hz : w.frozen? p = false) :
    CallsD Tryz.prog 119 #[.pointer (some p)] (.panicking ({ v := .iface u pv, recovered := false } :: older)) w fun e u' w' =>
      e = .returned (.tuple #[]) ∧ u' = .panicking ({ v := .iface u pv, recovered := true } :: older) ∧ w' = w.setCell p (.bool false) := by
  refine callsD_of_wpS Tryz.func119 rfl fun c₀ cs hu => ?_
  apply wpS_region
  simp [wpOpsS, go_sem, recoverD, hu, Tryz.ntmps119, hc, hz, bodyPostS, results, Tryz.results119]
theorem catch_idle (p : Addr) (x : Value) (w : World) (hc : w.cell? p = some x) (hz : w.frozen? p = false) :
    CallsD Tryz.prog 119 #[.pointer (some p)] .returning w fun e u' w' => e = .returned (.tuple #[]) ∧ u' = .returning ∧ w' = w.setCell p (.bool true) := by
  refine callsD_of_wpS Tryz.func119 rfl fun c₀ cs hu => ?_
  apply wpS_region
  simp [wpOpsS, go_sem, recoverD, hu, Tryz.ntmps119, hc, hz, bodyPostS, results, Tryz.results119]
  cases c₀
  simp_all

set_option maxRecDepth 20000 in
/-- A function that comes to its end, or is stopped by a panic of an error. -/
theorem completes_any (fn : FuncId) (cap : Array Value) (ok : Bool) (er : Addr) (w : World) (Q : World → Prop) (hen : Enters fn)
    (hf : Calls Tryz.prog fn cap (w.alloc (.cells #[.bool false] 4)) fun e w2 => e = ends er ok ∧ w2.heap[w.heap.size]? = some (.cells #[.bool false] 4 (0, 0)) ∧ Q w2)
    (hQ : ∀ w2 v, Q w2 → Q (w2.setCell ⟨w.heap.size, 0, none⟩ v)) :
    Calls Tryz.prog 112 #[.func (.func fn) #[] cap] w fun e w' => e = .returned (.bool ok) ∧ Q w' := by
  have HF := Lib.hid hf
  have HQ := Lib.hid hQ
  clear hf hQ
  unfold Enters at hen
  have hmf : ∀ (fn : Fn) (first cap : Array Value) (w : World), (Instr.makeFunc fn first cap).run Tryz.prog w = .ok (.func fn first cap) w := fun _ _ _ _ => rfl
  go_enter_defers Tryz.func112, Tryz.ntmps112
  go_wp2_with fail
  refine HF.out.mono ?_
  rintro e w2 ⟨rfl, hb, hq⟩
  have hc2 : w2.cell? ⟨w.heap.size, 0, none⟩ = some (.bool false) := cell_of_row w2 w.heap.size 0 _ _ _ hb
  have hz2 : w2.frozen? ⟨w.heap.size, 0, none⟩ = false := Blk.frozen (w := w2) hb 0
  have hlt := lt_of_heap hb
  have HQ2 := Lib.hid hq
  clear hb hq
  cases ok with
  | true =>
    unfold ends
    go_wp2_with fail
    refine leaves_cons (f := 119) (args := #[.pointer (some ⟨w.heap.size, 0, none⟩)]) (by simp) (by simp [go_sem]) ?_
    refine (catch_idle ⟨w.heap.size, 0, none⟩ (.bool true) _ (by simp [go_sem, hc2]) (by simp [go_sem, hz2])).mono ?_
    rintro e u' w'' ⟨rfl, rfl, rfl⟩
    simp [Leaves, settle, results, Tryz.results112, go_sem, hc2]
    exact HQ.out _ _ (HQ.out _ _ HQ2.out)
  | false =>
    unfold ends
    go_wp2_with fail
    refine leaves_cons (f := 119) (args := #[.pointer (some ⟨w.heap.size, 0, none⟩)]) (by simp) (by simp [go_sem]) ?_
    refine (catch_panicking ⟨w.heap.size, 0, none⟩ (.bool false) _ _ _ _ hc2 hz2).mono ?_
    rintro e u' w'' ⟨rfl, rfl, rfl⟩
    simp [Leaves, settle, results, Tryz.results112, go_sem, hc2]
    exact HQ.out _ _ HQ2.out
end FmtL
section FmtM
open Go.RowKit Fx Go.Sort

/-- Formats that lie at b from place off on, in blocks of a kind. -/
structure FmAt (B : Nat → Prop) (w : World) (b off : Nat) (f : Fm) (u : Value) : Prop where
  c0 : w.cell? ⟨b, off, none⟩ = some (.int .i64 f.id)
  c1 : w.cell? ⟨b, off + 1, none⟩ = some u
  fs : FldsAt w u f.fs
  own : ∀ g, u.ownBlock = some g → B g
/-- A slice that reads as these formats. -/
def FmsAt (B : Nat → Prop) (w : World) (v : Value) (l : List Fm) : Prop :=
  (∃ a c, v = .slice a 0 c ∧ l = []) ∨ ∃ b off cap, v = .slice (some ⟨b, off, none⟩) l.length cap ∧ 1 ≤ l.length ∧ l.length ≤ cap ∧ cap ≤ maxLen ∧ B b ∧ b < w.heap.size ∧ ∀ i, i < l.length → ∃ u, FmAt B w b (off + i * 2) (l.getD i zm) u
theorem FmAt.kept {B : Nat → Prop} {w w' : World} {b off : Nat} {f : Fm} {u : Value} (h : FmAt B w b off f u) (hk : Kept B w w') (hb : B b) : FmAt B w' b off f u :=
  ⟨(hk.cell (p := ⟨b, off, none⟩) hb).trans h.c0, (hk.cell (p := ⟨b, off + 1, none⟩) hb).trans h.c1, h.fs.keep hk.size fun g hg => hk.block g (h.own g hg), h.own⟩
theorem FmsAt.kept {B : Nat → Prop} {w w' : World} {v : Value} {l : List Fm} (h : FmsAt B w v l) (hk : Kept B w w') : FmsAt B w' v l := by
  rcases h with h | ⟨b, off, cap, rfl, h1, h2, h3, h4, h5, h6⟩
  · exact .inl h
  · exact .inr ⟨b, off, cap, rfl, h1, h2, h3, h4, Nat.lt_of_lt_of_le h5 hk.size, fun i hi => by
      obtain ⟨u, hu⟩ := h6 i hi
      exact ⟨u, hu.kept hk h4⟩⟩
theorem FmsAt.mono {B C : Nat → Prop} {w : World} {v : Value} {l : List Fm} (h : FmsAt B w v l) (hc : ∀ g, B g → C g) : FmsAt C w v l := by
  rcases h with h | ⟨b, off, cap, rfl, h1, h2, h3, h4, h5, h6⟩
  · exact .inl h
  · exact .inr ⟨b, off, cap, rfl, h1, h2, h3, hc b h4, h5, fun i hi => by
      obtain ⟨u, hu⟩ := h6 i hi
      exact ⟨u, hu.c0, hu.c1, hu.fs, fun g hg => hc g (hu.own g hg)⟩⟩
theorem FldsAt.slice_ {w : World} {v : Value} {fs : List Fld} (h : FldsAt w v fs) : ∃ a c, v = .slice a fs.length c ∧ (fs.length = 0 ∨ (fs.length ≤ c ∧ c ≤ maxLen)) := by
  rcases h with ⟨a, c, rfl, rfl⟩ | ⟨b, off, cap, rfl, h1, h2, h3, _, _⟩
  · exact ⟨a, c, rfl, .inl rfl⟩
  · exact ⟨_, _, rfl, .inr ⟨h2, h3⟩⟩
theorem FldsAt.at_ {w : World} {a : Option Addr} {n c : Nat} {fs : List Fld} (h : FldsAt w (.slice a n c) fs) (h1 : 1 ≤ fs.length) : ∃ b off, a = some ⟨b, off, none⟩ ∧ n = fs.length ∧ b < w.heap.size ∧ n ≤ c ∧ c ≤ maxLen ∧ ∀ i, i < fs.length → FldAt w b (off + i * 4) (fs.getD i zf) := by
  rcases h with ⟨a, c, _, rfl⟩ | ⟨b, off, cap, h0, h2, h3, h4, h5, h6⟩
  · simp at h1
  · cases h0
    exact ⟨b, off, rfl, rfl, h5, h3, h4, h6⟩
/-- The numbers of formats are ints. -/
def IntsM (f : Fm) : Prop := (-9223372036854775808 ≤ f.id ∧ f.id ≤ 9223372036854775807) ∧ ∀ i, i < f.fs.length → Ints (f.fs.getD i zf)
def IntsL (l : List Fm) : Prop := ∀ i, i < l.length → IntsM (l.getD i zm)

theorem ends_bind {α : Type} {o : Option α} (h : o = none) (er : Addr) : ends er o.isSome = ends er false := by rw [h]; rfl
theorem drop_get {α : Type} {l : List α} {k : Nat} (z : α) (h : k < l.length) : l.drop k = l.getD k z :: l.drop (k + 1) := by
  rw [List.drop_eq_getElem_cons h]
  simp [List.getD, List.getElem?_eq_getElem h]
/-- What the reading of a list ends in. -/
def BuildPost (P : Nat → Prop) (tb : Nat) (R : Option St) (er : Addr) (w : World) (e : Ending) (w' : World) : Prop :=
  e = ends er R.isSome ∧ Kept P w w' ∧ ∀ s, R = some s → TabEnd w' P tb s
theorem build_stop {P : Nat → Prop} {tb : Nat} {R : Option St} {er : Addr} {w : World} {e : Ending} {w' : World} (h : R = none) (he : e = ends er false) (hk : Kept P w w') : BuildPost P tb R er w e w' :=
  ⟨by rw [h]; exact he, hk, fun s h2 => by rw [h] at h2; cases h2⟩

theorem TabAt.narrow {w : World} {P Q : Nat → Prop} {tb : Nat} {s : St} (h : TabAt w P tb s) (hq : ∀ k, Q k → P k) : TabAt w Q tb s := by
  obtain ⟨cs, mb, b1, b2, c, b3, vF, vs, vO, h1, h2⟩ := h
  exact ⟨cs, mb, b1, b2, c, b3, vF, vs, vO, { h1 with pin := fun k hk => h1.pin k (hq k hk), pT := fun hk => h1.pT (hq _ hk), pM := fun hk => h1.pM (hq _ hk), pF := fun g hg hk => h1.pF g hg (hq _ hk), pB := fun k hB hk => h1.pB k hB (hq _ hk) }, { h2 with pO := fun g hg hk => h2.pO g hg (hq _ hk) }⟩
/-- The blocks of a kind, and those that were made since. -/
def Wide (P : Nat → Prop) (w w' : World) : Nat → Prop := fun k => P k ∨ (w.heap.size ≤ k ∧ k < w'.heap.size)
theorem wide_l {P : Nat → Prop} {w w' : World} : ∀ k, P k → Wide P w w' k := fun _ h => .inl h

set_option maxRecDepth 100000 in
set_option maxHeartbeats 4000000 in
theorem build1_any (P : Nat → Prop) (tb bl bt b off cap : Nat) (l : List Fm) (R : Option St) (er : Addr) (w : World) (h1 : 1 ≤ l.length) (h2 : l.length ≤ cap) (h3 : cap ≤ maxLen) (hb : P b) (hfm : ∀ i, i < l.length → ∃ u, FmAt P w b (off + i * 2) (l.getD i zm) u)
    (hT : TabAt w P tb st0) (hE : ErrAt w er) (hPe : P 1) (hbt : P bt) (hcl : w.cell? ⟨bl, 0, none⟩ = some (.slice (some ⟨b, off, none⟩) l.length cap)) (hct : w.cell? ⟨bt, 0, none⟩ = some (adr tb))
    (hI : IntsL l) (hR : buildO l = R) :
    Calls Tryz.prog 113 #[.pointer (some ⟨bl, 0, none⟩), .pointer (some ⟨bt, 0, none⟩)] w (BuildPost P tb R er w) := by
  obtain ⟨n, hn⟩ : ∃ n, n = l.length := ⟨_, rfl⟩
  rw [← hn] at hcl h1 h2
  have HFM := Lib.hid hfm
  have HT := Lib.hid hT
  have HE := Lib.hid hE
  have HI := Lib.hid hI
  have HR := Lib.hid hR
  have HN := Lib.hid hn
  have HCT := Lib.hid hct
  have hlt := World.block_lt_of_cell? (h := hct)
  have HP : Hid (∀ k, P k → k < w.heap.size) := Lib.hid (by obtain ⟨a, c, _, _, _, _, _, _, _, q⟩ := hT.cells_; exact q)
  unfold maxLen at h3
  clear hfm hT hE hI hR hn
  go_enter Tryz.func113, Tryz.ntmps113
  go_wp2_with fail
  go_loopw [8] (fun i wr => ∃ k : Nat, k ≤ n ∧ i = .int .i64 k ∧ Hid (∃ s, TabAt wr P tb s ∧ Fx.Good s ∧ runL s (l.drop k) = R ∧ Kept P w wr)) (fun i _ => n - (intOf i).toNat)
  case atStart => exact ⟨0, Nat.zero_le _, rfl, Lib.hid ⟨st0, HT.out, good0, HR.out, Kept.refl _ _⟩⟩
  case round =>
    obtain ⟨k, hk, rfl, HS⟩ := hrel
    obtain ⟨wo, rfl⟩ : ∃ wo : World, wo = wr := ⟨_, rfl⟩
    by_cases hlt2 : k < n
    · obtain ⟨s, hT, hG, hRun, hK⟩ := HS.out
      have hkl : k < l.length := by have := HN.out; omega
      obtain ⟨f, hf⟩ : ∃ f, f = l.getD k zm := ⟨_, rfl⟩
      obtain ⟨u, hu0⟩ := HFM.out k hkl
      rw [← hf] at hu0
      have hu := hu0.kept hK hb
      obtain ⟨ua, uc, rfl, _⟩ := hu.fs.slice_
      obtain ⟨m, hm⟩ : ∃ m, m = f.fs.length := ⟨_, rfl⟩
      rw [← hm] at hu
      have hIf : IntsM f := by rw [hf]; exact HI.out k hkl
      rw [drop_get zm hkl, ← hf] at hRun
      have q0 := hu.c0
      have q1 := hu.c1
      have qt : wo.cell? ⟨bt, 0, none⟩ = some (adr tb) := (hK.cell (p := ⟨bt, 0, none⟩) hbt).trans HCT.out
      have lb := World.block_lt_of_cell? (h := q0)
      have lt_ := World.block_lt_of_cell? (h := qt)
      have hPr : ∀ k, P k → k < wo.heap.size := fun k hk => Nat.lt_of_lt_of_le (HP.out k hk) hK.size
      obtain ⟨wb, hwb⟩ : ∃ wb, wb = wo.alloc (.cells #[.int .i64 f.id, .slice ua m uc] 52) := ⟨_, rfl⟩
      have hBw : Below wo.heap.size wo wb := by rw [hwb]; exact bx _
      have hTb : TabAt wb (Wide P wo wb) tb s := hT.widen hBw
      have hEb : ErrAt wb er := (⟨(hK.cell (p := ⟨1, 0, none⟩) hPe).trans HE.out.cell⟩ : ErrAt wo er).below hBw
      have hNb : Wide P wo wb wo.heap.size := .inr ⟨Nat.le_refl _, by rw [hwb]; simp⟩
      have k1 : wb.cell? ⟨wo.heap.size, 1, none⟩ = some (.slice ua m uc) := by rw [hwb]; simp [go_sem]
      have tcb : wb.cell? ⟨bt, 0, none⟩ = some (adr tb) := ((bcell hBw).1 _ _ lt_).trans qt
      have HBEG := Lib.hid (begin_any (Wide P wo wb) tb s f.id er wb hTb hEb (wide_l _ hPe) hG)
      have HKB : Hid (Kept P w wb) := Lib.hid (hK.trans (Kept.of_below hBw hPr))
      have HFS := Lib.hid (And.intro hu.fs hu.own)
      have H1 := Lib.hid (And.intro hRun (And.intro hG (And.intro hIf (And.intro hNb (And.intro k1 (And.intro tcb (And.intro hEb hBw)))))))
      have HF := Lib.hid (And.intro hf hm)
      have HKO := Lib.hid hK
      clear hf hm hT hK hu hu0 hRun hPr hTb hEb hNb k1 tcb hBw hIf hG HS
      go_wp2_with fail
      rw [← hwb]
      refine HBEG.out.mono ?_
      rintro e w1 ⟨rfl, hk1, hT1⟩
      obtain ⟨hRun, hG, hIf, hNb, k1, tcb, hEb, hBw⟩ := H1.out
      cases hbo : beginO s f.id with
      | none =>
        have hRn : R = none := by rw [← hRun]; unfold runL; rw [hbo]; rfl
        have HK2 : Hid (Kept P w w1) := Lib.hid (HKB.out.trans (hk1.mono wide_l))
        clear H1 hRun hG hIf hNb k1 tcb hEb hBw hk1 hT1
        simp only [Option.isSome_none]
        unfold ends
        go_wp2_with fail
        exact ⟨rfl, build_stop hRn rfl HK2.out⟩
      | some s1 =>
        obtain ⟨hc, _⟩ := And.intro (fun b o (h : Wide P wo wb b) => hk1.cell (p := ⟨b, o, none⟩) h) trivial
        rw [← hc _ _ hNb] at k1
        rw [← hc _ _ (wide_l _ hbt)] at tcb
        have HT1 := Lib.hid (hT1 s1 hbo)
        have HE1 : Hid (ErrAt w1 er) := Lib.hid ⟨(hk1.cell (p := ⟨1, 0, none⟩) (wide_l _ hPe)).trans hEb.cell⟩
        have HK1 : Hid (Kept P w w1) := Lib.hid (HKB.out.trans (hk1.mono wide_l))
        have HG1 := Lib.hid (hG.begin_ hbo)
        have HR1 : Hid ((addL s1 (f.fs.drop 0)).bind (fun s2 => runL s2 (l.drop (k + 1))) = R) := Lib.hid (by
          rw [List.drop_zero, ← hRun, runL, hbo]; rfl)
        have HIF := Lib.hid hIf
        have lb1 := World.block_lt_of_cell? (h := k1)
        have lt1 := World.block_lt_of_cell? (h := tcb)
        clear H1 hRun hG hIf hNb hEb hBw hk1 hT1 hc
        simp only [Option.isSome_some]
        unfold ends
        go_wp2_with fail
        obtain ⟨W1, hW1⟩ : ∃ W1, W1 = w1 := ⟨_, rfl⟩
        subst hW1
        go_loopw [19] (fun i wr => ∃ j : Nat, j ≤ m ∧ i = .int .i64 j ∧ Hid (∃ s2, TabAt wr (Wide P wo wb) tb s2 ∧ Fx.Good s2 ∧ (addL s2 (f.fs.drop j)).bind (fun s3 => runL s3 (l.drop (k + 1))) = R ∧ Kept P w wr)) (fun i _ => m - (intOf i).toNat)
        case atStart => exact ⟨0, Nat.zero_le _, rfl, Lib.hid ⟨s1, HT1.out, HG1.out, HR1.out, HK1.out⟩⟩
        case round =>
          obtain ⟨j, hj, rfl, HS2⟩ := hrel
          by_cases hjm : j < m
          · have hjl : j < f.fs.length := by have := HF.out.2; omega
            obtain ⟨fb, fo, hua, -, -, m1, m2, hfl⟩ := HFS.out.1.at_ (by omega)
            subst hua
            have hPf : P fb := HFS.out.2 fb rfl
            obtain ⟨s2, hT2, hG2, hR2, hK2⟩ := HS2.out
            obtain ⟨⟨gk, gn, gf, gt⟩, hg⟩ : ∃ g, g = f.fs.getD j zf := ⟨_, rfl⟩
            have hgI : Ints ⟨gk, gn, gf, gt⟩ := by rw [hg]; exact HIF.out.2 j hjl
            have hgA := (hfl j hjl).of_block (w' := wr) (by rw [hK2.block fb hPf, HKO.out.block fb hPf])
            rw [← hg] at hgA
            rw [drop_get zf hjl, ← hg] at hR2
            obtain ⟨g0, g1, g2, g3⟩ := hgA
            have qt : wr.cell? ⟨bt, 0, none⟩ = some (adr tb) := (hK2.cell (p := ⟨bt, 0, none⟩) hbt).trans HCT.out
            have lgb := World.block_lt_of_cell? (h := g0)
            have lt2 := World.block_lt_of_cell? (h := qt)
            obtain ⟨wc, hwc⟩ : ∃ wc, wc = wr.alloc (.cells #[.int .i64 gk, .int .i64 gn, .int .i64 gf, .string gt] 56) := ⟨_, rfl⟩
            have hBc : Below wr.heap.size wr wc := by rw [hwc]; exact bx _
            have hPr : ∀ k, Wide P wo wb k → k < wr.heap.size := by obtain ⟨a, c, _, _, _, _, _, _, _, q⟩ := hT2.cells_; exact q
            have hEc : ErrAt wc er := (⟨(hK2.cell (p := ⟨1, 0, none⟩) hPe).trans HE.out.cell⟩ : ErrAt wr er).below hBc
            have HADD := Lib.hid (add_any (Wide P wo wb) tb s2 ⟨gk, gn, gf, gt⟩ er wc (hT2.below hBc) hEc (wide_l _ hPe) hG2 hgI)
            have HX := Lib.hid (And.intro hG2 (And.intro hR2 (hK2.trans (Kept.of_below hBc fun k hk => hPr k (wide_l k hk)))))
            unfold maxLen at m2
            clear hT2 hG2 hR2 hK2 hg hgI hfl hBc hPr hEc HS2 HFS
            go_wp2_with fail
            rw [← hwc]
            refine HADD.out.mono ?_
            rintro e w3 ⟨rfl, hk3, hT3⟩
            obtain ⟨hG2, hR2, hK2⟩ := HX.out
            obtain ⟨ab, hab⟩ : ∃ ab, ab = addB s2 ⟨gk, gn, gf, gt⟩ := ⟨_, rfl⟩
            rw [← hab] at hT3 ⊢
            cases ab with
            | false =>
              have hRn : R = none := by
                rw [← hR2, addL, addO, if_neg (by rw [← hab]; decide)]; rfl
              have HK3 : Hid (Kept P w w3) := Lib.hid (hK2.trans (hk3.mono wide_l))
              clear hG2 hR2 hK2 hk3 hT3 hab HX
              unfold ends
              go_wp2_with fail
              exact ⟨rfl, build_stop hRn rfl HK3.out⟩
            | true =>
              have ha : addO s2 ⟨gk, gn, gf, gt⟩ = some ⟨s2.d, ⟨s2.o.id, s2.o.fs ++ [⟨gk, gn, gf, gt⟩]⟩⟩ := by rw [addO, if_pos hab.symm]
              have HS3 : Hid (∃ s2, TabAt w3 (Wide P wo wb) tb s2 ∧ Fx.Good s2 ∧ (addL s2 (f.fs.drop (j + 1))).bind (fun s3 => runL s3 (l.drop (k + 1))) = R ∧ Kept P w w3) := Lib.hid ⟨_, hT3 rfl, hG2.add_ ha, by
                rw [← hR2, addL, ha]; rfl, hK2.trans (hk3.mono wide_l)⟩
              clear hG2 hR2 hK2 hk3 hT3 hab HX ha
              unfold ends
              go_wp2_with fail
              go_roundw
              case rel => exact ⟨j + 1, by omega, by go_num, HS3⟩
              case measure => simp [intOf]; omega
          · obtain rfl : j = m := by omega
            have HS3 : Hid (∃ s, TabAt wr P tb s ∧ Fx.Good s ∧ runL s (l.drop (k + 1)) = R ∧ Kept P w wr) := Lib.hid (by
              obtain ⟨s2, hT2, hG2, hR2, hK2⟩ := HS2.out
              rw [HF.out.2, List.drop_length] at hR2
              exact ⟨s2, hT2.narrow wide_l, hG2, hR2, hK2⟩)
            clear HS2
            go_wp2_with fail
            go_roundw
            case rel => exact ⟨k + 1, by omega, by go_num, HS3⟩
            case measure => simp [intOf]; omega
    · obtain rfl : k = n := by omega
      obtain ⟨s, hT, hG, hRun, hK⟩ := HS.out
      have hdr : l.drop k = [] := by rw [HN.out, List.drop_length]
      rw [hdr] at hRun
      have qt : wo.cell? ⟨bt, 0, none⟩ = some (adr tb) := (hK.cell (p := ⟨bt, 0, none⟩) hbt).trans HCT.out
      have lt_ := World.block_lt_of_cell? (h := qt)
      have hEr : ErrAt wo er := ⟨(hK.cell (p := ⟨1, 0, none⟩) hPe).trans HE.out.cell⟩
      have HEND := Lib.hid (end_any P tb s er wo hT hEr hG)
      have HX := Lib.hid (And.intro hRun hK)
      clear hT hG hRun hK HS hdr hEr
      go_wp2_with fail
      refine HEND.out.mono ?_
      rintro e w1 ⟨rfl, hk1, hT1⟩
      have HP1 : Hid (BuildPost P tb R er w (ends er R.isSome) w1) := Lib.hid ⟨rfl, HX.out.2.trans hk1, fun s1 h => hT1 s1 (by rw [← h, ← HX.out.1]; rfl)⟩
      have e0 : endO s = R := HX.out.1
      rw [e0]
      clear hk1 hT1 e0
      cases R with
      | none =>
        simp only [Option.isSome_none]
        unfold ends
        go_wp2_with fail
        exact ⟨rfl, HP1.out⟩
      | some s1 =>
        simp only [Option.isSome_some]
        unfold ends
        go_wp2_with fail
        go_end0
        exact HP1.out
end FmtM
end Go.Proofs.YtlhobhfmombjjaaGreatDoor
