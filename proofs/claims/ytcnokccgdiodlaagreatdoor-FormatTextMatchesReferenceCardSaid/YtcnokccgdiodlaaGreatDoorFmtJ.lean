/- end: the open format is completed, or the reading stops. Conditions: the table lies there. -/
import Derived.Test.YtcnokccgdiodlaaGreatDoorFmtI
import Derived.Deep.DeepCutAuto
import Derived.StillTailTactics
namespace Go.Proofs.YtcnokccgdiodlaaGreatDoor
open Go.RowKit Fx Go.Sort

/-- What end ends in. -/
def EndPost (P : Nat → Prop) (tb : Nat) (s : St) (er : Addr) (w : World) (e : Ending) (w' : World) : Prop :=
  e = ends er (endO s).isSome ∧ Kept P w w' ∧ ∀ s1, endO s = some s1 → TabEnd w' P tb s1

theorem end_zero (P : Nat → Prop) (tb : Nat) (s : St) (er : Addr) (w : World) (hT : TabAt w P tb s) (h0 : s.o.id = 0) :
    Calls Tryz.prog 50 #[adr tb] w (EndPost P tb s er w) := by
  obtain ⟨a, c, q1, q2, q3, q4, q5, q6, q7, q8⟩ := hT.cells_
  have HP : Hid (EndPost P tb s er w (.returned (.tuple #[])) w) := Lib.hid (by
    have e : endO s = some s := by unfold endO; rw [if_pos h0]
    exact ⟨by rw [e]; rfl, Kept.refl _ _, fun s1 h1 => by rw [e] at h1; cases h1; exact hT.end_⟩)
  have d0 : ((s.o.id : Int) == 0) = true := by simpa using h0
  clear hT q2 q3 q4 q5 q7 q8 h0
  go_enter Tryz.func50, Tryz.ntmps50
  go_wp2
  go_end0
  exact HP.out
theorem end_none (P : Nat → Prop) (tb : Nat) (s : St) (er : Addr) (w : World) (hT : TabAt w P tb s) (hE : ErrAt w er) (h0 : s.o.id ≠ 0) (h1 : s.o.fs.length = 0) :
    Calls Tryz.prog 50 #[adr tb] w (EndPost P tb s er w) := by
  obtain ⟨a, c, q1, q2, q3, q4, q5, q6, q7, q8⟩ := hT.cells_
  rw [h1] at q2
  have HP : Hid (EndPost P tb s er w (ends er false) w) := Lib.hid (by
    have e : endO s = none := by unfold endO; rw [if_neg h0, if_pos h1]
    exact ⟨by rw [e]; rfl, Kept.refl _ _, fun s1 h1 => by rw [e] at h1; cases h1⟩)
  have HE := Lib.hid hE
  have d0 : ((s.o.id : Int) == 0) = false := by simpa using h0
  clear hT q3 q4 q5 q7 q8 h0 h1 hE
  go_enter Tryz.func50, Tryz.ntmps50
  go_wp2_with fail
  refine (require_any false er _ HE.out).mono ?_
  rintro e w' ⟨rfl, rfl⟩
  unfold ends
  go_wp2_with fail
  exact ⟨rfl, HP.out⟩
theorem lm_len (d : List Fm) : (lm d).length = d.length := by
  unfold lm
  have : ∀ (d : List Fm) (m : List (Int × Int)), (d.foldl (fun m f => (f.id, ls m f.fs) :: m) m).length = m.length + d.length := by
    intro d
    induction d with
    | nil => intro m; simp
    | cons f t ih => intro m; rw [List.foldl_cons, ih]; simp; omega
  rw [this]; simp
/-- What stands behind the append, and behind the store into the map. -/
theorem end_mem {P : Nat → Prop} {tb : Nat} {s : St} {er : Addr} {w W0 w1 : World} {cs : Array Value} {mb b1 b2 c b3 : Nat} {vF vO v1 : Value} {vs : List Value} (hC : Core w P tb s cs mb b1 b2 c b3 vF vs) (hO : Open w P s cs vs vO) (hG : Fx.Good s)
    (h0 : s.o.id ≠ 0) (h1 : s.o.fs.length ≠ 0) (hB : Below w.heap.size w W0) (hGr : Grew W0 w1 0 34 2 vF v1 (s.d.length + 1) (flatM s.d vs ++ [.int .i64 s.o.id, vO])) :
    ∃ w2 w3, w2 = w1.setCell ⟨tb, 35, none⟩ v1 ∧ w2.cell? ⟨tb, 36, none⟩ = some (.map (some mb)) ∧ w2.cell? ⟨tb, 37, none⟩ = some (.int .i64 s.o.id) ∧ w2.cell? ⟨tb, 39, none⟩ = some (.int .i64 (ls (lm s.d) s.o.fs)) ∧ tb < w2.heap.size ∧
      (Instr.mapUpdate 75 (.map (some mb)) (.int .i64 s.o.id) (.int .i64 (ls (lm s.d) s.o.fs))).run Tryz.prog w2.drew = .ok () w3 ∧ EndPost P tb s er w (.returned (.tuple #[])) w3 := by
  have hR : W0.ownsRow 0 34 2 vF s.d.length (flatM s.d vs) := ownsRow_below hC.rowF hB
  have hblk : Blk w1 tb 78 cs := hGr.blkOther hR (hC.blk.below hB) (by decide)
  obtain ⟨w2, hw2⟩ : ∃ w2, w2 = w1.setCell ⟨tb, 35, none⟩ v1 := ⟨_, rfl⟩
  have hblk2 := hblk.set_ 35 v1
  rw [← hw2] at hblk2
  have hsz := hC.sz
  have far : ∀ (g : Nat) (cur : Array Value) (t : TypeId) (fr : Nat × Nat), t ≠ 34 → t ≠ 78 → w.heap[g]? = some (Obj.cells cur t fr) → w2.heap[g]? = w.heap[g]? := fun g cur t fr n1 n2 hg => by
    have hl := lt_of_heap hg
    have e1 : W0.heap[g]? = w.heap[g]? := hB.block g hl
    have e2 : w1.heap[g]? = W0.heap[g]? := hGr.heapOther hR (Nat.lt_of_lt_of_le hl hB.size) (fun cur' fr' h => by rw [e1, hg] at h; cases h; exact n1 rfl)
    have e3 : w2.heap[g]? = w1.heap[g]? := by
      rw [hw2]; exact Below.heap_setCell _ _ _ _ (by
        intro e
        have hh : w.heap[g]? = some (.cells cs 78 (0, 0)) := by rw [e]; exact hC.blk
        rw [hg] at hh
        cases hh
        exact n2 rfl)
    rw [e3, e2, e1]
  have hm2 : MapIs w2 mb (lm s.d) := by
    have hl := hC.map.lt
    have e1 : W0.heap[mb]? = w.heap[mb]? := hB.block mb hl
    have e2 : w1.heap[mb]? = W0.heap[mb]? := hGr.heapOther hR (Nat.lt_of_lt_of_le hl hB.size) (fun cur' fr' h => by rw [e1] at h; exact hC.map.heap_ne h rfl)
    have e3 : w2.heap[mb]? = w1.heap[mb]? := by rw [hw2]; exact Below.heap_setCell _ _ _ _ (fun e => hC.map.heap_ne hC.blk e.symm)
    exact hC.map.of_block (by rw [e3, e2, e1])
  have hk2 : Kept P w w2 := by
    rw [hw2]
    exact Kept.setCell (Kept.grown (Kept.of_below hB hC.pin) hGr.grown (fun k hk => Nat.lt_of_lt_of_le (hC.pin k hk) hB.size) (fun k hk => hC.pF k hk)) hC.pT _
  have hr2 : w2.ownsRow 0 34 2 v1 (s.d.length + 1) (flatM s.d vs ++ [.int .i64 s.o.id, vO]) := own_keep hGr.own fun g cur hg hh => by
    rw [hw2]; exact Below.heap_setCell _ _ _ _ (by rintro rfl; exact Blk.ne_ (t := 34) hh hblk (by decide) rfl)
  have hlen : (lm s.d).length < 1000 := by rw [lm_len]; have := hG.pre.few; omega
  have i1 := hG.lo
  have i2 := hG.hi
  have l1 := ls_nonneg hG.fine hG.each
  have l2 := hG.len
  obtain ⟨w3, hrun, hm3, hg3⟩ := (hm2.of_block (w' := w2.drew) rfl).put_ hlen (id := s.o.id) (v := ls (lm s.d) s.o.fs) (by omega) (by omega) (by omega) (by omega)
  have hk3 : Kept P w w3 := Kept.grown (Kept.drew hk2) hg3 (fun k hk => Nat.lt_of_lt_of_le (hC.pin k hk) hk2.size) (fun k hk => by cases hk; exact hC.pM)
  have hcells : ∀ (g : Nat) (cur : Array Value) (t : TypeId) (fr : Nat × Nat), w2.heap[g]? = some (Obj.cells cur t fr) → w3.heap[g]? = w2.heap[g]? := fun g cur t fr hg => hg3.block g (lt_of_heap (w := w2) hg) (fun e => by cases e; exact hm2.heap_ne hg rfl)
  have far3 : ∀ (g : Nat) (cur : Array Value) (t : TypeId) (fr : Nat × Nat), t ≠ 34 → t ≠ 78 → w.heap[g]? = some (Obj.cells cur t fr) → w3.heap[g]? = w.heap[g]? := fun g cur t fr n1 n2 hg => by
    have e := far g cur t fr n1 n2 hg
    rw [hcells g cur t fr (e.trans hg), e]
  have hb3 : Blk w3 tb 78 (cs.setIfInBounds 35 v1) := (hcells _ _ _ _ hblk2).trans hblk2
  have oth : ∀ i, i ≠ 35 → (cs.setIfInBounds 35 v1)[i]? = cs[i]? := fun i hi => Array.getElem?_setIfInBounds_ne (fun e => hi e.symm)
  refine ⟨w2, w3, hw2, by rw [hblk2.cell 36, oth 36 (by decide)]; exact hC.cM, by rw [hblk2.cell 37, oth 37 (by decide)]; exact hC.cI, by rw [hblk2.cell 39, oth 39 (by decide)]; exact hO.cL, hblk2.lt, hrun, ?_⟩
  have e : endO s = some ⟨s.d ++ [s.o], s.o⟩ := by unfold endO; rw [if_neg h0, if_neg h1]
  refine ⟨by rw [e]; rfl, hk3, fun s1 h1 => ?_⟩
  rw [e] at h1
  cases h1
  refine ⟨_, mb, b1, b2, c, b3, v1, vs ++ [vO], hb3, by simp [hsz], fun i hi => by rw [oth i (by omega)]; exact hC.kinds i hi, by rw [Array.getElem?_setIfInBounds_self_of_lt (by omega)], by rw [oth 36 (by decide)]; exact hC.cM, by rw [oth 37 (by decide)]; exact hC.cI,
    ?_, by rw [lm_snoc]; exact hm3, ?_, by simp [hC.vsl], ?_, fun k hk => Nat.lt_of_lt_of_le (hC.pin k hk) hk3.size, hC.pT, hC.pM, ?_, hC.pB⟩
  · exact hC.boxes.far fun g cur t ht hg => far3 g cur t _ (by rcases ht with rfl | rfl <;> decide) (by rcases ht with rfl | rfl <;> decide) hg
  · rw [List.length_append, flatM_snoc hC.vsl]
    exact own_keep hr2 fun g cur hg hh => hcells g _ _ _ hh
  · intro i hi
    simp only [List.length_append, List.length_cons, List.length_nil] at hi
    by_cases hlt : i < s.d.length
    · rw [getD_snoc_lt hlt, getD_snoc_lt (by have := hC.vsl; omega)]
      exact own_keep (hC.done i hlt) fun g cur hg hh => far3 g _ _ _ (by decide) (by decide) hh
    · obtain rfl : i = s.d.length := by omega
      rw [getD_snoc_eq, ← hC.vsl, getD_snoc_eq]
      exact own_keep hO.rowO fun g cur hg hh => far3 g _ _ _ (by decide) (by decide) hh
  · intro g hg hP
    rcases hGr.blk with h | h
    · exact hC.pF g (h ▸ hg) hP
    · rw [h] at hg
      cases hg
      have := hC.pin _ hP
      have := hB.size
      omega
set_option maxRecDepth 100000 in
set_option maxHeartbeats 2000000 in
theorem end_main (P : Nat → Prop) (tb : Nat) (s : St) (er : Addr) (w : World) (hT : TabAt w P tb s) (hE : ErrAt w er) (hG : Fx.Good s) (h0 : s.o.id ≠ 0) (h1 : s.o.fs.length ≠ 0) :
    Calls Tryz.prog 50 #[adr tb] w (EndPost P tb s er w) := by
  obtain ⟨cs, mb, b1, b2, c, b3, vF, vs, vO, hC, hO⟩ := hT
  obtain ⟨a, cp, rfl, q4, q5⟩ := own_slice hO.rowO
  have q1 : w.cell? ⟨tb, 37, none⟩ = some (.int .i64 s.o.id) := (hC.blk.cell 37).trans hC.cI
  obtain ⟨L, hL⟩ : ∃ L, L = s.o.fs.length := ⟨_, rfl⟩
  have q2 : w.cell? ⟨tb, 38, none⟩ = some (.slice a L cp) := by rw [hL]; exact (hC.blk.cell 38).trans hO.cO
  have q35 : w.cell? ⟨tb, 35, none⟩ = some vF := (hC.blk.cell 35).trans hC.cF
  have z35 : w.frozen? ⟨tb, 35, none⟩ = false := hC.blk.frozen 35
  have q6 := hC.blk.lt
  obtain ⟨aF, cF, rfl, q7, q8⟩ := own_slice hC.rowF
  obtain ⟨M, hM⟩ : ∃ M, M = s.d.length := ⟨_, rfl⟩
  rw [← hM] at q35 q7
  have HC := Lib.hid hC
  have HO := Lib.hid hO
  have HG := Lib.hid hG
  have HE := Lib.hid hE
  have HL := Lib.hid (And.intro hL hM)
  have hLp : 0 < L := by omega
  have d0 : ((s.o.id : Int) == 0) = false := by simpa using h0
  have HZ := Lib.hid (And.intro h0 h1)
  unfold maxLen at q5 q8
  have hMM : M ≤ 1000 := by have := hG.pre.few; omega
  clear hC hO hG hE hL hM h0 h1
  go_enter Tryz.func50, Tryz.ntmps50
  go_wp2_with fail
  refine (require_any true er _ HE.out).mono ?_
  rintro e w' ⟨rfl, rfl⟩
  unfold ends
  go_wp2_with fail
  have HR : Hid (((w.alloc (.cells #[.int .i64 s.o.id, .slice a L cp] 34)).drew).ownsRow 0 34 2 (.slice aF M cF) M (flatM s.d vs)) := Lib.hid (by
    have := ownsRow_below HC.out.rowF ((bx (.cells #[.int .i64 s.o.id, .slice a L cp] 34)).drew)
    rw [← HL.out.2] at this; exact this)
  have HH : Hid (((w.alloc (.cells #[.int .i64 s.o.id, .slice a L cp] 34)).drew).heap[w.heap.size]? = some (.cells #[.int .i64 s.o.id, .slice a L cp] 34 (0, 0))) := Lib.hid (heap_alloc_new w _)
  have HKEY : Hid (∀ v' w', Grew ((w.alloc (.cells #[.int .i64 s.o.id, .slice a L cp] 34)).drew) w' 0 34 2 (.slice aF M cF) v' (M + 1) (flatM s.d vs ++ [.int .i64 s.o.id, .slice a L cp]) →
      ∃ a1 c1, v' = .slice a1 (M + 1) c1 ∧ w'.cell? ⟨tb, 35, none⟩ = some (.slice aF M cF) ∧ w'.frozen? ⟨tb, 35, none⟩ = false) := Lib.hid (fun v' w' hg => by
    obtain ⟨a1, c1, h1, _, _⟩ := own_slice hg.own
    have hb := hg.blkOther HR.out (HC.out.blk.below ((bx (.cells #[.int .i64 s.o.id, .slice a L cp] 34)).drew)) (by decide)
    refine ⟨a1, c1, h1, ?_, hb.frozen 35⟩
    rw [hb.cell 35, HC.out.cF, HL.out.2])
  go_cut [] from 16 (fun w' => ∃ v1 w1, Grew ((w.alloc (.cells #[.int .i64 s.o.id, .slice a L cp] 34)).drew) w1 0 34 2 (.slice aF M cF) v1 (M + 1) (flatM s.d vs ++ [.int .i64 s.o.id, .slice a L cp]) ∧ w' = w1.setCell ⟨tb, 35, none⟩ v1)
  case first =>
    go_region_law (refine step_append_fmt rfl (.tmp 20) (.tmp 25) rfl (.slice aF M cF) M (flatM s.d vs) rfl HR.out hMM w.heap.size s.o.id (.slice a L cp) rfl rfl HH.out ?_; intro v1 w1 hGr; obtain ⟨a1, c1, rfl, g35, g35z⟩ := HKEY.out v1 w1 hGr)
    all_goals
      go_wp2_with fail
      go_meet
      exact ⟨_, _, hGr, rfl⟩
  case rest =>
    obtain ⟨v1, w1, hGr, rfl⟩ := hcut
    obtain ⟨e1, e2⟩ := HL.out
    subst e1
    subst e2
    obtain ⟨w2, w3, hw2, p36, p37, p39, ptb, hrun, hpost⟩ := end_mem (er := er) HC.out HO.out HG.out HZ.out.1 HZ.out.2 ((bx _).drew) hGr
    rw [← hw2]
    have HP := Lib.hid hpost
    clear hw2 hpost hGr HR HH HKEY HC HO HG HE HL HZ hMM q1 q2 q35 z35 q6 q7 q8 q4 q5 d0 hLp
    go_wp2_with fail
    go_still_tail 13, (by kernel_rfl)
    change wpList _ _ _ _ _ w2.drew
    go_wp2
    go_end0
    exact HP.out
end Go.Proofs.YtcnokccgdiodlaaGreatDoor
