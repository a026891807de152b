/- add, of a kind that there is. Conditions: the table lies there; the field's numbers are ints. end: the open format is completed, or the reading stops. Conditions: the table lies there. begin: the open format is completed, and the next one opened, or the reading stops. Conditions: the table lies there; the number is an int. What completes gives of a function that comes to its end, and of one that is stopped. No condition of its own. -/
import Derived.Test.YtdndmhlmbpgdeaaGreatDoorPb04
import Derived.Deep.DeepCutAuto
import Derived.StillTailTactics
import Derived.Defers
import Derived.Recover
import Derived.Laws.Pointers
namespace Go.Proofs.YtdndmhlmbpgdeaaGreatDoor
section FmtH
open Go.RowKit Fx Go.Sort

theorem flat_snoc (fs : List Fld) (f : Fld) : flat (fs ++ [f]) = flat fs ++ fldC f := by unfold flat; simp
theorem usedB_snoc (fs : List Fld) (f : Fld) (i : Int) : usedB (fs ++ [f]) i = (usedB fs i || decide (f.frm = i)) := by unfold usedB; simp
/-- What stands behind the append. -/
theorem add_mem {P : Nat → Prop} {tb : Nat} {s : St} {f : Fld} {w w8 W0 w9 : World} {cs cs2 : Array Value} {mb b1 b2 c b3 : Nat} {vF vO v1 : Value} {vs : List Value} (hC : Core w P tb s cs mb b1 b2 c b3 vF vs) (hO : Open w P s cs vs vO)
    (hs : w.heap.size ≤ w8.heap.size) (h8 : ∀ g, g ≠ tb → g < w.heap.size → w8.heap[g]? = w.heap[g]?) (hb8 : Blk w8 tb 190 cs2) (z2 : cs2.size = 56) (i2 : ∀ i, i < 38 → cs2[i]? = cs[i]?)
    (l2 : cs2[39]? = some (.int .i64 (ls (lm s.d) (s.o.fs ++ [f])))) (u2 : ∀ i : Nat, i < 16 → cs2[40 + i]? = some (.bool (usedB (s.o.fs ++ [f]) i)))
    (hB : Below w8.heap.size w8 W0) (hGr : Grew W0 w9 0 56 4 vO v1 (s.o.fs.length + 1) (flat s.o.fs ++ fldC f)) :
    TabAt (w9.setCell ⟨tb, 38, none⟩ v1) P tb ⟨s.d, ⟨s.o.id, s.o.fs ++ [f]⟩⟩ := by
  have hlt := hC.blk.lt
  have far8 : ∀ (g : Nat) (cur : Array Value) (t : TypeId) (fr : Nat × Nat), t ≠ 190 → w.heap[g]? = some (Obj.cells cur t fr) → w8.heap[g]? = w.heap[g]? := fun g cur t fr n1 hg => by
    refine h8 g (fun e => ?_) (lt_of_heap hg)
    have hh : w.heap[g]? = some (.cells cs 190 (0, 0)) := by rw [e]; exact hC.blk
    rw [hg] at hh
    cases hh
    exact n1 rfl
  have hR : W0.ownsRow 0 56 4 vO s.o.fs.length (flat s.o.fs) := ownsRow_below (own_keep hO.rowO fun g cur _ hh => far8 g _ _ _ (by decide) hh) hB
  have hb9 : Blk w9 tb 190 cs2 := hGr.blkOther hR (hb8.below hB) (by decide)
  obtain ⟨w10, hw10⟩ : ∃ w10, w10 = w9.setCell ⟨tb, 38, none⟩ v1 := ⟨_, rfl⟩
  have hb10 := hb9.set_ 38 v1
  rw [← hw10] at hb10 ⊢
  have e10 : ∀ g, g ≠ tb → w10.heap[g]? = w9.heap[g]? := fun g hg => by rw [hw10]; exact Below.heap_setCell _ _ _ _ hg
  have ne_tb : ∀ (g : Nat) (cur : Array Value) (t : TypeId) (fr : Nat × Nat), t ≠ 190 → w9.heap[g]? = some (Obj.cells cur t fr) → g ≠ tb := fun g cur t fr n1 hg e => by
    have hh : w9.heap[g]? = some (.cells cs2 190 (0, 0)) := by rw [e]; exact hb9
    rw [hg] at hh
    cases hh
    exact n1 rfl
  have W0far : ∀ (g : Nat) (cur : Array Value) (t : TypeId) (fr : Nat × Nat), t ≠ 190 → w.heap[g]? = some (Obj.cells cur t fr) → W0.heap[g]? = w.heap[g]? ∧ g < W0.heap.size := fun g cur t fr n1 hg => by
    have hl := lt_of_heap hg
    exact ⟨(hB.block g (by omega)).trans (far8 g cur t fr n1 hg), Nat.lt_of_lt_of_le (Nat.lt_of_lt_of_le hl hs) hB.size⟩
  have far : ∀ (g : Nat) (cur : Array Value) (t : TypeId) (fr : Nat × Nat), t ≠ 190 → some g ≠ vO.ownBlock → w.heap[g]? = some (Obj.cells cur t fr) → w10.heap[g]? = w.heap[g]? := fun g cur t fr n1 n2 hg => by
    obtain ⟨e1, e2⟩ := W0far g cur t fr n1 hg
    have e3 : w9.heap[g]? = W0.heap[g]? := hGr.grown.block g e2 n2
    rw [e10 g (ne_tb g cur t fr n1 (by rw [e3, e1]; exact hg)), e3, e1]
  have hM : w10.heap[mb]? = w.heap[mb]? := by
    have hl := hC.map.lt
    have ne : mb ≠ tb := fun e => hC.map.heap_ne hC.blk e.symm
    have e1 : W0.heap[mb]? = w.heap[mb]? := (hB.block mb (by omega)).trans (h8 mb ne hl)
    have e2 : w9.heap[mb]? = W0.heap[mb]? := hGr.heapOther hR (Nat.lt_of_lt_of_le (Nat.lt_of_lt_of_le hl hs) hB.size) (fun cur' fr' h => by rw [e1] at h; exact hC.map.heap_ne h rfl)
    rw [e10 mb ne, e2, e1]
  have typeO : ∀ (g : Nat) (cur : Array Value) (t : TypeId) (fr : Nat × Nat), t ≠ 56 → w.heap[g]? = some (Obj.cells cur t fr) → some g ≠ vO.ownBlock := fun g cur t fr n1 hg e => by
    obtain ⟨cur', hh⟩ := own_heap hO.rowO e.symm
    rw [hg] at hh
    cases hh
    exact n1 rfl
  have oth : ∀ i, i ≠ 38 → (cs2.setIfInBounds 38 v1)[i]? = cs2[i]? := fun i hi => Array.getElem?_setIfInBounds_ne (fun e => hi e.symm)
  have hsz10 : w.heap.size ≤ w10.heap.size := by
    rw [hw10]; have := hGr.grown.size; have := hB.size; simp [World.setCell]; omega
  refine ⟨_, mb, b1, b2, c, b3, vF, vs, v1, ⟨hb10, by simp [z2], fun i hi => by rw [oth i (by omega), i2 i (by omega)]; exact hC.kinds i hi, by rw [oth 35 (by decide), i2 35 (by decide)]; exact hC.cF, by rw [oth 36 (by decide), i2 36 (by decide)]; exact hC.cM, by rw [oth 37 (by decide), i2 37 (by decide)]; exact hC.cI,
    ?_, hC.map.of_block hM, ?_, hC.vsl, ?_, fun k hk => Nat.lt_of_lt_of_le (hC.pin k hk) hsz10, hC.pT, hC.pM, hC.pF, hC.pB⟩,
    ⟨Array.getElem?_setIfInBounds_self_of_lt (by omega), by rw [oth 39 (by decide)]; exact l2, fun i hi => by rw [oth (40 + i) (by omega)]; exact u2 i hi, ?_, ?_, ?_⟩⟩
  · exact hC.boxes.far fun g cur t ht hg => far g cur t _ (by rcases ht with rfl | rfl <;> decide) (typeO g cur t _ (by rcases ht with rfl | rfl <;> decide) hg) hg
  · exact own_keep hC.rowF fun g cur _ hh => far g _ _ _ (by decide) (typeO g _ _ _ (by decide) hh) hh
  · intro i hi
    exact own_keep (hC.done i hi) fun g cur hg hh => far g _ _ _ (by decide) (fun e => hO.apart i hi g e.symm hg) hh
  · rw [List.length_append, flat_snoc]
    exact own_keep hGr.own fun g cur _ hh => e10 g (ne_tb g _ _ _ (by decide) hh)
  · intro g hg hP
    rcases hGr.blk with h | h
    · exact hO.pO g (h ▸ hg) hP
    · rw [h] at hg
      cases hg
      have := hC.pin _ hP
      have := hB.size
      omega
  · intro i hi g hg hv
    rcases hGr.blk with h | h
    · exact hO.apart i hi g (h ▸ hg) hv
    · rw [h] at hg
      cases hg
      have := own_lt (hC.done i hi) hv
      have := hB.size
      omega

/-- What stands behind the mark of a used number. -/
structure Mid (P : Nat → Prop) (tb : Nat) (s : St) (f : Fld) (w w7 : World) (cs : Array Value) (w' : World) (cs8 : Array Value) : Prop where
  blk : Blk w' tb 190 cs8
  ne : ∀ g, g ≠ tb → w'.heap[g]? = w7.heap[g]?
  size : w'.heap.size = w7.heap.size
  z : cs8.size = 56
  i : ∀ i, i < 39 → cs8[i]? = cs[i]?
  l : cs8[39]? = some (.int .i64 (ls (lm s.d) (s.o.fs ++ [f])))
  u : ∀ i : Nat, i < 16 → cs8[40 + i]? = some (.bool (usedB (s.o.fs ++ [f]) i))
  k : Kept P w w'
set_option maxRecDepth 100000 in
set_option maxHeartbeats 2000000 in
theorem add_main (P : Nat → Prop) (tb K : Nat) (s : St) (f : Fld) (er : Addr) (w : World) (hT : TabAt w P tb s) (hE : ErrAt w er) (hPe : P 1) (hG : Fx.Good s) (h0 : 0 < s.o.id) (h1 : s.o.fs.length < 16) (hf : Ints f) (hK : f.kind = K) (k1 : 1 ≤ K) (k6 : K ≤ 6) :
    Calls Tryz.prog 115 #[adr tb, fldV f] w (AddPost P tb s f er w) := by
  obtain ⟨kd, n, fm, tx⟩ := f
  obtain rfl : kd = (K : Int) := hK
  obtain ⟨a, c, q1, q2, q3, q4, q5, q6, q7, q8⟩ := hT.cells_
  obtain ⟨b1, b2, cc, b3, hcell, hX, _⟩ := hT.boxes_
  have hk := kindAt_of hcell K k1 k6
  have HKA := Lib.hid hk
  have HX := Lib.hid hX
  obtain ⟨fr, hfr⟩ : ∃ x, x = fnR K := ⟨_, rfl⟩
  obtain ⟨fl, hfl⟩ : ∃ x, x = fnL K := ⟨_, rfl⟩
  obtain ⟨cr, hcr⟩ : ∃ x, x = capR K b1 cc b3 := ⟨_, rfl⟩
  obtain ⟨x0, x1, x2, x3, x4⟩ := hk
  rw [← hfr, ← hcr] at x1
  rw [← hfl] at x2
  obtain ⟨wd, hv0⟩ : ∃ x, x = wordB K := ⟨_, rfl⟩
  obtain ⟨fw, hv3⟩ : ∃ x, x = fnW K := ⟨_, rfl⟩
  obtain ⟨cw, hv5⟩ : ∃ x, x = capW K cc := ⟨_, rfl⟩
  obtain ⟨fd, hv4⟩ : ∃ x, x = fnD K := ⟨_, rfl⟩
  rw [← hv0] at x0
  rw [← hv3, ← hv5] at x3
  rw [← hv4] at x4
  obtain ⟨L, hL⟩ : ∃ L, L = s.o.fs.length := ⟨_, rfl⟩
  rw [← hL] at q2 q4 h1
  have d1 : (L : Int) < 16 := by omega
  have d2 : 1 ≤ (K : Int) := by omega
  have d3 : (K : Int) ≤ 6 := by omega
  have d4 : (0 : Int) ≤ K := by omega
  have d5 : (K : Int) < 7 := by omega
  have HT := Lib.hid hT
  have HE := Lib.hid (hE.below (bx (.cells #[.int .i64 K, .int .i64 n, .int .i64 fm, .string tx] 56)))
  unfold maxLen at q5
  have HF := Lib.hid (And.intro hfr (And.intro hcr hfl))
  have hG1 := Lib.hid h0
  have HLL0 := Lib.hid hL
  clear hT hE q7 hL hcell hX hfr hfl hcr hv0 hv3 hv4 hv5
  go_enter Tryz.func115, Tryz.ntmps115
  go_wp2_with fail
  refine (require_any true er _ HE.out).mono ?_
  rintro e w' ⟨rfl, rfl⟩
  unfold ends
  go_wp2_with fail
  refine (require_any true er _ HE.out).mono ?_
  rintro e w' ⟨rfl, rfl⟩
  unfold ends
  go_wp2_with fail
  go_region
  obtain ⟨w1, hw1⟩ : ∃ w1, w1 = ((w.alloc (.cells #[.int .i64 K, .int .i64 n, .int .i64 fm, .string tx] 56)).alloc (.cells #[.string wd, clo fr cr, clo fl #[], clo fw cw, clo fd #[]] 184)).drew := ⟨_, rfl⟩
  rw [← hw1]
  have e0 : w1.cell? ⟨w.heap.size, 0, none⟩ = some (.int .i64 K) := by rw [hw1]; simp [go_sem]
  have e1 : w1.cell? ⟨w.heap.size, 1, none⟩ = some (.int .i64 n) := by rw [hw1]; simp [go_sem]
  have e2 : w1.cell? ⟨w.heap.size, 2, none⟩ = some (.int .i64 fm) := by rw [hw1]; simp [go_sem]
  have e3 : w1.cell? ⟨w.heap.size, 3, none⟩ = some (.string tx) := by rw [hw1]; simp [go_sem]
  have y1 : w1.cell? ⟨w.heap.size + 1, 1, none⟩ = some (clo fr cr) := by rw [hw1]; simp [go_sem]
  have y2 : w1.cell? ⟨w.heap.size + 1, 2, none⟩ = some (clo fl #[]) := by rw [hw1]; simp [go_sem]
  have s1 : w.heap.size + 1 < w1.heap.size := World.block_lt_of_cell? (h := y2)
  have hB1 : Below w.heap.size w w1 := by rw [hw1]; exact ((bx _).alloc (by simp) _).drew
  have HB1 := Lib.hid hB1
  have HE1 := Lib.hid (HE.out.below (w' := w1) (by rw [hw1]; exact (bx _).drew))
  have HT1 := Lib.hid (HT.out.below hB1)
  have HX1 := Lib.hid (HX.out.below hB1)
  have hN : NumsOk s.o.fs := fun i hi hk => by
    have := hG.each i hi
    unfold Fx.right at this
    rw [if_neg (by omega), if_pos hk] at this
    have := sized_of this
    omega
  obtain ⟨rv, hrv⟩ : ∃ x, x = Fx.right (lm s.d) s.o.fs ⟨K, n, fm, tx⟩ := ⟨_, rfl⟩
  have HR : Hid (∀ w', Below w1.heap.size w1 w' → Calls Tryz.prog fr (#[adr tb, fldV ⟨K, n, fm, tx⟩] ++ cr) w' fun e w'' => e = .returned (.bool rv) ∧ Below w'.heap.size w' w'') := Lib.hid (fun w' hb => by
    rw [HF.out.1, HF.out.2.1, hrv]
    exact right_any P tb K b1 b2 cc b3 s _ w' (HT1.out.below hb) (HX1.out.below hb) hG.few hN hf k1 k6 rfl)
  have HLE : Hid (rv = true → ∀ w', Below w1.heap.size w1 w' → Calls Tryz.prog fl #[adr tb, fldV ⟨K, n, fm, tx⟩] w' fun e w'' => e = .returned (.int .i64 (lf (lm s.d) ⟨K, n, fm, tx⟩)) ∧ Below w'.heap.size w' w'') := Lib.hid (fun _ w' hb => by
    rw [HF.out.2.2]
    exact least_any P tb K s _ w' (HT1.out.below hb) hf k1 k6 rfl)
  have ER : ∀ (args : Array Value) (w : World), (callFunc fr args).run Tryz.prog w = .ok (.enter fr args) w := by rw [HF.out.1]; exact enR K
  have EL : ∀ (args : Array Value) (w : World), (callFunc fl args).run Tryz.prog w = .ok (.enter fl args) w := by rw [HF.out.2.2]; exact enL K
  have HN := Lib.hid hN
  have HRV := Lib.hid hrv
  have HQ := Lib.hid (And.intro q1 (And.intro q2 (And.intro q3 (And.intro q6 (And.intro q4 h1)))))
  clear hw1 x0 x1 x2 x3 x4 q1 q2 q3 q6 hN hrv hB1 HX1 HX HE q4 h1 d1 d2 d3 d4 d5 h0
  go_wp2_with fail
  refine (HR.out w1 (Below.refl _ _)).mono ?_
  rintro e w2 ⟨rfl, hB2⟩
  obtain ⟨hc, hz⟩ := bcell hB2
  have s1' : w.heap.size < w1.heap.size := by omega
  have stb : tb < w1.heap.size := Nat.lt_of_lt_of_le HQ.out.2.2.2.1 HB1.out.size
  rw [← hc _ _ s1'] at e0 e1 e2 e3
  rw [← hc _ _ s1] at y1 y2
  have HBP : Hid (Below w.heap.size w w1) := HB1
  have HE2 := Lib.hid (HE1.out.below hB2)
  have HT2 := Lib.hid (HT1.out.below hB2)
  have HB2 : Hid (Below w.heap.size w w2) := Lib.hid (HB1.out.trans (hB2.mono HB1.out.size))
  have HB12 := Lib.hid hB2
  have s2 : w.heap.size + 1 < w2.heap.size := Nat.lt_of_lt_of_le s1 hB2.size
  clear hc hz hB2 s1 s1' stb HBP HB1 HE1 HT1
  go_wp2_with fail
  refine (require_any rv er _ HE2.out).mono ?_
  rintro e w' ⟨rfl, rfl⟩
  cases rv with
  | false =>
    have hA : addB s ⟨K, n, fm, tx⟩ = false := addB_right HRV.out.symm
    unfold ends
    go_wp2_with fail
    exact ⟨rfl, add_stop hA rfl (Kept.of_below HB2.out q8)⟩
  | true =>
    have hr := HRV.out.symm
    have hlf := right_lf hG.fine hr
    obtain ⟨S, hS⟩ : ∃ S, S = ls (lm s.d) s.o.fs := ⟨_, rfl⟩
    obtain ⟨D, hD⟩ : ∃ D, D = lf (lm s.d) ⟨K, n, fm, tx⟩ := ⟨_, rfl⟩
    rw [← hD] at hlf
    have hS0 : 0 ≤ S := by rw [hS]; exact ls_nonneg hG.fine hG.each
    have hS1 : S ≤ 65536 := by rw [hS]; exact hG.len
    have hW : IntKind.i64.wrap (S + D) = S + D := IntWalk.i64_in _ (by omega)
    obtain ⟨a2, c2, q1, q2, q3, q4, q5', q6, q7, q8'⟩ := HT2.out.cells_
    rw [← hS] at q3
    have HLL : Hid (∀ w', Below w2.heap.size w2 w' → Calls Tryz.prog fl #[adr tb, .agg #[.int .i64 K, .int .i64 n, .int .i64 fm, .string tx]] w' fun e w'' => e = .returned (.int .i64 D) ∧ w''.cell? ⟨tb, 39, none⟩ = some (.int .i64 S) ∧ w''.frozen? ⟨tb, 39, none⟩ = false ∧
        w''.cell? ⟨w.heap.size, 0, none⟩ = some (.int .i64 K) ∧ w''.cell? ⟨w.heap.size, 1, none⟩ = some (.int .i64 n) ∧ w''.cell? ⟨w.heap.size, 2, none⟩ = some (.int .i64 fm) ∧ w''.cell? ⟨w.heap.size, 3, none⟩ = some (.string tx) ∧ w''.cell? ⟨w.heap.size + 1, 2, none⟩ = some (clo fl #[]) ∧ Below w2.heap.size w2 w'') := Lib.hid (fun w' hb => by
      refine (HLE.out rfl w' (HB12.out.trans (hb.mono HB12.out.size))).mono ?_
      rintro e w'' ⟨rfl, hb2⟩
      rw [hD]
      have h3 := hb.trans (hb2.mono hb.size)
      obtain ⟨hc, hz⟩ := bcell h3
      have s2' : w.heap.size < w2.heap.size := by omega
      exact ⟨rfl, by rw [hc _ _ q6]; exact q3, by rw [hz _ _ q6]; exact q7 39, by rw [hc _ _ s2']; exact e0, by rw [hc _ _ s2']; exact e1, by rw [hc _ _ s2']; exact e2, by rw [hc _ _ s2']; exact e3, by rw [hc _ _ s2]; exact y2, h3⟩)
    have z39 := q7 39
    have HSD := Lib.hid (And.intro hlf (And.intro hS0 hS1))
    have HS := Lib.hid hS
    have HD := Lib.hid hD
    clear hr hlf hS0 hS1 q1 q2 q4 q5' q7 q8' hS hD y1
    unfold ends
    go_wp2_with fail
    go_cut [] from 43 (fun w' => ∃ w6, Below w2.heap.size w2 w6 ∧ w' = w6.setCell ⟨tb, 39, none⟩ (.int .i64 (S + D)))
    case first =>
      go_region_with (refine (HLL.out _ (by first | exact Below.refl _ _ | exact (Below.refl _ _).drew | assumption)).mono ?_; rintro e w6 ⟨rfl, hH6⟩)
      all_goals
        go_wp2_with fail
        go_meet
        obtain ⟨_, _, _, _, _, _, _, hH7⟩ := hH6
        exact ⟨_, hH7, rfl⟩
    case rest =>
      obtain ⟨w6, hB6, rfl⟩ := hcut
      obtain ⟨cs, mb, d1, d2, dd1, d3, vF, vs, vO, hC, hO⟩ := HT2.out.below hB6
      have hsz := hC.sz
      have htb := hC.blk.lt
      obtain ⟨w7, hw7⟩ : ∃ w7, w7 = w6.setCell ⟨tb, 39, none⟩ (.int .i64 (S + D)) := ⟨_, rfl⟩
      rw [← hw7]
      obtain ⟨cs7, hcs7⟩ : ∃ cs7, cs7 = cs.setIfInBounds 39 (.int .i64 (S + D)) := ⟨_, rfl⟩
      have hb7 : Blk w7 tb 190 cs7 := by rw [hw7, hcs7]; exact hC.blk.set_ 39 _
      have ne7 : ∀ g, g ≠ tb → w7.heap[g]? = w6.heap[g]? := fun g hg => by rw [hw7]; exact Below.heap_setCell _ _ _ _ hg
      have z7 : w7.heap.size = w6.heap.size := by rw [hw7]; simp [World.setCell]
      have hN : w.heap.size ≠ tb := by have := HQ.out.2.2.2.1; omega
      have bx0 : ∀ o, w7.cell? ⟨w.heap.size, o, none⟩ = w2.cell? ⟨w.heap.size, o, none⟩ := fun o => by
        have e1 : w7.cell? ⟨w.heap.size, o, none⟩ = w6.cell? ⟨w.heap.size, o, none⟩ := World.cell?_of_block (w := w6) (a := ⟨w.heap.size, o, none⟩) (ne7 _ hN)
        rw [e1]
        exact (bcell hB6).1 _ _ (by omega)
      rw [← bx0] at e0 e1 e2 e3
      have p38 : w7.cell? ⟨tb, 38, none⟩ = some vO := by rw [hb7.cell 38, hcs7, Array.getElem?_setIfInBounds_ne (by decide)]; exact hO.cO
      have p39 : w7.cell? ⟨tb, 39, none⟩ = some (.int .i64 (S + D)) := by rw [hb7.cell 39, hcs7, Array.getElem?_setIfInBounds_self_of_lt (by omega)]
      have t7 : tb < w7.heap.size := by omega
      have n7 : w.heap.size < w7.heap.size := by have := hB6.size; omega
      have HE7 : Hid (ErrAt w7 er) := Lib.hid ⟨by
        have h6 := HE2.out.below hB6
        have hne : 1 ≠ tb := fun e => hC.pT (e ▸ hPe)
        exact (World.cell?_of_block (w := w6) (a := ⟨1, 0, none⟩) (ne7 _ hne)).trans h6.cell⟩
      have HK7 : Hid (Kept P w w7) := Lib.hid (by rw [hw7]; exact Kept.setCell (Kept.of_below (HB2.out.trans (hB6.mono HB2.out.size)) q8) hC.pT _)
      have HC := Lib.hid hC
      have HO := Lib.hid hO
      have H7 := Lib.hid (And.intro hb7 (And.intro ne7 (And.intro z7 (And.intro hcs7 hsz))))
      have hSD : ls (lm s.d) (s.o.fs ++ [⟨K, n, fm, tx⟩]) = S + D := by rw [ls_snoc, ← HS.out, ← HD.out]
      have HSS := Lib.hid hSD
      have r2 := right_frm HRV.out.symm
      have HR2 : Hid ((⟨K, n, fm, tx⟩ : Fld).frm = -1 ∨ counts s.o.fs fm = true) := Lib.hid r2
      clear hw7 hb7 ne7 z7 hcs7 hsz hC hO hN bx0 hB6 HT2 HE2 HB2 HB12 hSD r2 HLL HLE HR q3 q6 y2 s2 hW
      by_cases hle : S + D ≤ 65536
      · have hd : decide (S + D ≤ 65536) = true := decide_eq_true hle
        go_wp2_with fail
        refine (require_any true er _ HE7.out).mono ?_
        rintro e w' ⟨rfl, rfl⟩
        unfold ends
        go_upto_if 63 with (fail)
        go_cut [] from 61 (fun w' => ∃ cs8, Mid P tb s ⟨K, n, fm, tx⟩ w w7 cs w' cs8)
        case first =>
          have hcs7 := H7.out.2.2.2.1
          have hsz := H7.out.2.2.2.2
          have o7 : ∀ i, i ≠ 39 → cs7[i]? = cs[i]? := fun i hi => by rw [hcs7]; exact Array.getElem?_setIfInBounds_ne (fun e => hi e.symm)
          have l7 : cs7[39]? = some (.int .i64 (ls (lm s.d) (s.o.fs ++ [⟨K, n, fm, tx⟩]))) := by rw [hcs7, Array.getElem?_setIfInBounds_self_of_lt (by omega), HSS.out]
          have z7 : cs7.size = 56 := by rw [hcs7]; simp [hsz]
          rcases HR2.out with hq | hq
          · have hq2 : fm = -1 := hq
            have hM : Hid (Mid P tb s ⟨K, n, fm, tx⟩ w w7 cs w7 cs7) := Lib.hid ⟨H7.out.1, fun _ _ => rfl, rfl, z7, fun i hi => o7 i (by omega), l7, fun i hi => by
              rw [o7 (40 + i) (by omega), usedB_snoc, HO.out.cU i hi]
              have : decide ((⟨K, n, fm, tx⟩ : Fld).frm = (i : Int)) = false := decide_eq_false (by show ¬ fm = _; omega)
              rw [this, Bool.or_false], HK7.out⟩
            have hneg : decide (0 ≤ fm) = false := decide_eq_false (by omega)
            have hneg2 : ¬ 0 ≤ fm := by omega
            clear hq hq2 hcs7 hsz o7 l7 z7
            go_wp2_with fail
            go_meet
            exact ⟨_, hM.out⟩
          · have hcn := counts_of hq
            obtain ⟨Q, rfl⟩ : ∃ Q : Nat, fm = Q := ⟨fm.toNat, by omega⟩
            have hQ : Q < 16 := by have := HQ.out.2.2.2.2.2; have := hcn.2.1; have := hG.few; omega
            obtain ⟨ub, hub⟩ : ∃ ub, w7.cell? ⟨tb, 40 + Q, none⟩ = some (.bool ub) := ⟨_, by rw [H7.out.1.cell, o7 (40 + Q) (by omega)]; exact HO.out.cU Q hQ⟩
            have huz : w7.frozen? ⟨tb, 40 + Q, none⟩ = false := H7.out.1.frozen _
            have hM : Hid (Mid P tb s ⟨K, n, Q, tx⟩ w w7 cs (w7.drew.setCell ⟨tb, 40 + Q, none⟩ (.bool true)) (cs7.setIfInBounds (40 + Q) (.bool true))) := Lib.hid ⟨Blk.set_ (w := w7.drew) H7.out.1 _ _, fun g hg => Below.heap_setCell _ _ _ _ hg, by simp [World.setCell], by simp [z7],
              fun i hi => by rw [Array.getElem?_setIfInBounds_ne (by omega), o7 i (by omega)], by rw [Array.getElem?_setIfInBounds_ne (by omega)]; exact l7, fun i hi => by
                rw [usedB_snoc]
                by_cases he : i = Q
                · subst he
                  rw [Array.getElem?_setIfInBounds_self_of_lt (by omega), decide_eq_true (show (⟨K, n, (i : Int), tx⟩ : Fld).frm = (i : Int) from rfl), Bool.or_true]
                · rw [Array.getElem?_setIfInBounds_ne (by omega), o7 (40 + i) (by omega), HO.out.cU i hi, decide_eq_false (show ¬ (⟨K, n, (Q : Int), tx⟩ : Fld).frm = (i : Int) by show ¬ (Q : Int) = _; omega), Bool.or_false],
              Kept.setCell (Kept.drew HK7.out) HC.out.pT _⟩
            have hQ2 : (Q : Int) < 16 := by omega
            have hpos : decide (0 ≤ (Q : Int)) = true := decide_eq_true (by omega)
            have hpos2 : 0 ≤ (Q : Int) := by omega
            clear hq hcn hcs7 hsz o7 l7 z7
            go_wp2_with fail
            go_region
            go_wp2_with fail
            go_meet
            exact ⟨_, hM.out⟩
        case rest =>
          obtain ⟨cs8, hM⟩ := hcut
          have bx8 : ∀ o, wc.cell? ⟨w.heap.size, o, none⟩ = w7.cell? ⟨w.heap.size, o, none⟩ := fun o =>
            World.cell?_of_block (w := w7) (a := ⟨w.heap.size, o, none⟩) (hM.ne w.heap.size (by have := HQ.out.2.2.2.1; omega))
          rw [← bx8] at e0 e1 e2 e3
          obtain ⟨aO, cO, rfl, v1, v2⟩ := own_slice HO.out.rowO
          have p38' : wc.cell? ⟨tb, 38, none⟩ = some (.slice aO s.o.fs.length cO) := by rw [hM.blk.cell, hM.i 38 (by omega)]; exact HO.out.cO
          have p38z : wc.frozen? ⟨tb, 38, none⟩ = false := hM.blk.frozen _
          have t8 : tb < wc.heap.size := hM.blk.lt
          obtain ⟨M, hMl⟩ : ∃ M, M = s.o.fs.length := ⟨_, rfl⟩
          rw [← hMl] at p38' v1
          have hM1000 : M ≤ 1000 := by have := hG.few; omega
          unfold maxLen at v2
          have HM := Lib.hid hM
          have HML := Lib.hid hMl
          have hsz8 : w6.heap.size ≤ wc.heap.size := by rw [hM.size]; have := H7.out.2.2.1; omega
          have n8 : w.heap.size < wc.heap.size := by rw [hM.size]; exact n7
          have HR : Hid (((wc.alloc (.cells (fldC ⟨K, n, fm, tx⟩).toArray 56)).drew).ownsRow 0 56 4 (.slice aO M cO) M (flat s.o.fs)) := Lib.hid (by
            have h1 : wc.ownsRow 0 56 4 (.slice aO M cO) M (flat s.o.fs) := by
              rw [hMl]
              exact own_keep HO.out.rowO fun g cur _ hh => by
                have hne : g ≠ tb := fun e => by
                  have h2 : w6.heap[g]? = some (.cells cs 190 (0, 0)) := by rw [e]; exact HC.out.blk
                  rw [hh] at h2; cases h2
                rw [hM.ne g hne, H7.out.2.1 g hne]
            exact ownsRow_below h1 (bx _).drew)
          have HH : Hid (((wc.alloc (.cells (fldC ⟨K, n, fm, tx⟩).toArray 56)).drew).heap[wc.heap.size]? = some (.cells (fldC ⟨K, n, fm, tx⟩).toArray 56 (0, 0))) := Lib.hid (heap_alloc_new wc _)
          have HKEY : Hid (∀ v' w', Grew ((wc.alloc (.cells (fldC ⟨K, n, fm, tx⟩).toArray 56)).drew) w' 0 56 4 (.slice aO M cO) v' (M + 1) (flat s.o.fs ++ fldC ⟨K, n, fm, tx⟩) →
              ∃ a1 c1, v' = .slice a1 (M + 1) c1 ∧ w'.cell? ⟨tb, 38, none⟩ = some (.slice aO M cO) ∧ w'.frozen? ⟨tb, 38, none⟩ = false) := Lib.hid (fun v' w' hg => by
            obtain ⟨a1, c1, h1, _, _⟩ := own_slice hg.own
            have hb := hg.blkOther HR.out (HM.out.blk.below ((bx (.cells (fldC ⟨K, n, fm, tx⟩).toArray 56)).drew)) (by decide)
            refine ⟨a1, c1, h1, ?_, hb.frozen 38⟩
            rw [hb.cell 38, HM.out.i 38 (by omega), HO.out.cO, HML.out])
          have HFIN : Hid (∀ v1 w9, Grew ((wc.alloc (.cells (fldC ⟨K, n, fm, tx⟩).toArray 56)).drew) w9 0 56 4 (.slice aO M cO) v1 (M + 1) (flat s.o.fs ++ fldC ⟨K, n, fm, tx⟩) →
              AddPost P tb s ⟨K, n, fm, tx⟩ er w (.returned (.tuple #[])) (w9.setCell ⟨tb, 38, none⟩ v1)) := Lib.hid (fun v1 w9 hg => by
            have hA : addB s ⟨K, n, fm, tx⟩ = true := by
              unfold addB
              rw [← HRV.out, HSS.out, hd, decide_eq_true hG1.out, decide_eq_true (show s.o.fs.length < 16 by rw [← HLL0.out]; exact HQ.out.2.2.2.2.2)]; rfl
            have e := HML.out
            subst e
            refine ⟨by rw [hA]; rfl, ?_, fun _ => add_mem HC.out HO.out hsz8 (fun g hg _ => by rw [HM.out.ne g hg, H7.out.2.1 g hg]) HM.out.blk HM.out.z (fun i hi => HM.out.i i (by omega)) HM.out.l HM.out.u ((bx _).drew) hg⟩
            exact Kept.setCell (Kept.grown (Kept.drew (Kept.alloc HM.out.k (fun k hk => Nat.lt_of_lt_of_le (q8 k hk) HM.out.k.size) _)) hg.grown (fun k hk => by have := q8 k hk; have := HM.out.k.size; simp; omega) (fun k hk => HO.out.pO k hk)) HC.out.pT _)
          clear hM hMl bx8 p38 p39
          go_wp2_with fail
          go_region_law (refine step_append_fld rfl (.tmp 75) (.tmp 77) rfl (.slice aO M cO) M (flat s.o.fs) rfl HR.out hM1000 wc.heap.size ⟨K, n, fm, tx⟩ rfl HH.out ?_; intro v1 w1 hGr; obtain ⟨a1, c1, rfl, g35, g35z⟩ := HKEY.out v1 w1 hGr)
          all_goals
            go_wp2_with fail
            go_end0
            exact HFIN.out _ _ hGr
      · have hd : decide (S + D ≤ 65536) = false := decide_eq_false hle
        have hA : addB s ⟨K, n, fm, tx⟩ = false := by unfold addB; rw [HSS.out, hd]; simp
        go_wp2_with fail
        refine (require_any false er _ HE7.out).mono ?_
        rintro e w' ⟨rfl, rfl⟩
        unfold ends
        go_wp2_with fail
        exact ⟨rfl, add_stop hA rfl HK7.out⟩
end FmtH
section FmtJ
open Go.RowKit Fx Go.Sort

/-- What end ends in. -/
def EndPost (P : Nat → Prop) (tb : Nat) (s : St) (er : Addr) (w : World) (e : Ending) (w' : World) : Prop :=
  e = ends er (endO s).isSome ∧ Kept P w w' ∧ ∀ s1, endO s = some s1 → TabEnd w' P tb s1

theorem end_zero (P : Nat → Prop) (tb : Nat) (s : St) (er : Addr) (w : World) (hT : TabAt w P tb s) (h0 : s.o.id = 0) :
    Calls Tryz.prog 116 #[adr tb] w (EndPost P tb s er w) := by
  obtain ⟨a, c, q1, q2, q3, q4, q5, q6, q7, q8⟩ := hT.cells_
  have HP : Hid (EndPost P tb s er w (.returned (.tuple #[])) w) := Lib.hid (by
    have e : endO s = some s := by unfold endO; rw [if_pos h0]
    exact ⟨by rw [e]; rfl, Kept.refl _ _, fun s1 h1 => by rw [e] at h1; cases h1; exact hT.end_⟩)
  have d0 : ((s.o.id : Int) == 0) = true := by simpa using h0
  clear hT q2 q3 q4 q5 q7 q8 h0
  go_enter Tryz.func116, Tryz.ntmps116
  go_wp2
  go_end0
  exact HP.out
theorem end_none (P : Nat → Prop) (tb : Nat) (s : St) (er : Addr) (w : World) (hT : TabAt w P tb s) (hE : ErrAt w er) (h0 : s.o.id ≠ 0) (h1 : s.o.fs.length = 0) :
    Calls Tryz.prog 116 #[adr tb] w (EndPost P tb s er w) := by
  obtain ⟨a, c, q1, q2, q3, q4, q5, q6, q7, q8⟩ := hT.cells_
  rw [h1] at q2
  have HP : Hid (EndPost P tb s er w (ends er false) w) := Lib.hid (by
    have e : endO s = none := by unfold endO; rw [if_neg h0, if_pos h1]
    exact ⟨by rw [e]; rfl, Kept.refl _ _, fun s1 h1 => by rw [e] at h1; cases h1⟩)
  have HE := Lib.hid hE
  have d0 : ((s.o.id : Int) == 0) = false := by simpa using h0
  clear hT q3 q4 q5 q7 q8 h0 h1 hE
  go_enter Tryz.func116, Tryz.ntmps116
  go_wp2_with fail
  refine (require_any false er _ HE.out).mono ?_
  rintro e w' ⟨rfl, rfl⟩
  unfold ends
  go_wp2_with fail
  exact ⟨rfl, HP.out⟩
theorem lm_len (d : List Fm) : (lm d).length = d.length := by
  unfold lm
  have : ∀ (d : List Fm) (m : List (Int × Int)), (d.foldl (fun m f => (f.id, ls m f.fs) :: m) m).length = m.length + d.length := by
    intro d
    induction d with
    | nil => intro m; simp
    | cons f t ih => intro m; rw [List.foldl_cons, ih]; simp; omega
  rw [this]; simp
/-- What stands behind the append, and behind the store into the map. -/
theorem end_mem {P : Nat → Prop} {tb : Nat} {s : St} {er : Addr} {w W0 w1 : World} {cs : Array Value} {mb b1 b2 c b3 : Nat} {vF vO v1 : Value} {vs : List Value} (hC : Core w P tb s cs mb b1 b2 c b3 vF vs) (hO : Open w P s cs vs vO) (hG : Fx.Good s)
    (h0 : s.o.id ≠ 0) (h1 : s.o.fs.length ≠ 0) (hB : Below w.heap.size w W0) (hGr : Grew W0 w1 0 52 2 vF v1 (s.d.length + 1) (flatM s.d vs ++ [.int .i64 s.o.id, vO])) :
    ∃ w2 w3, w2 = w1.setCell ⟨tb, 35, none⟩ v1 ∧ w2.cell? ⟨tb, 36, none⟩ = some (.map (some mb)) ∧ w2.cell? ⟨tb, 37, none⟩ = some (.int .i64 s.o.id) ∧ w2.cell? ⟨tb, 39, none⟩ = some (.int .i64 (ls (lm s.d) s.o.fs)) ∧ tb < w2.heap.size ∧
      (Instr.mapUpdate 187 (.map (some mb)) (.int .i64 s.o.id) (.int .i64 (ls (lm s.d) s.o.fs))).run Tryz.prog w2.drew = .ok () w3 ∧ EndPost P tb s er w (.returned (.tuple #[])) w3 := by
  have hR : W0.ownsRow 0 52 2 vF s.d.length (flatM s.d vs) := ownsRow_below hC.rowF hB
  have hblk : Blk w1 tb 190 cs := hGr.blkOther hR (hC.blk.below hB) (by decide)
  obtain ⟨w2, hw2⟩ : ∃ w2, w2 = w1.setCell ⟨tb, 35, none⟩ v1 := ⟨_, rfl⟩
  have hblk2 := hblk.set_ 35 v1
  rw [← hw2] at hblk2
  have hsz := hC.sz
  have far : ∀ (g : Nat) (cur : Array Value) (t : TypeId) (fr : Nat × Nat), t ≠ 52 → t ≠ 190 → w.heap[g]? = some (Obj.cells cur t fr) → w2.heap[g]? = w.heap[g]? := fun g cur t fr n1 n2 hg => by
    have hl := lt_of_heap hg
    have e1 : W0.heap[g]? = w.heap[g]? := hB.block g hl
    have e2 : w1.heap[g]? = W0.heap[g]? := hGr.heapOther hR (Nat.lt_of_lt_of_le hl hB.size) (fun cur' fr' h => by rw [e1, hg] at h; cases h; exact n1 rfl)
    have e3 : w2.heap[g]? = w1.heap[g]? := by
      rw [hw2]; exact Below.heap_setCell _ _ _ _ (by
        intro e
        have hh : w.heap[g]? = some (.cells cs 190 (0, 0)) := by rw [e]; exact hC.blk
        rw [hg] at hh
        cases hh
        exact n2 rfl)
    rw [e3, e2, e1]
  have hm2 : MapIs w2 mb (lm s.d) := by
    have hl := hC.map.lt
    have e1 : W0.heap[mb]? = w.heap[mb]? := hB.block mb hl
    have e2 : w1.heap[mb]? = W0.heap[mb]? := hGr.heapOther hR (Nat.lt_of_lt_of_le hl hB.size) (fun cur' fr' h => by rw [e1] at h; exact hC.map.heap_ne h rfl)
    have e3 : w2.heap[mb]? = w1.heap[mb]? := by rw [hw2]; exact Below.heap_setCell _ _ _ _ (fun e => hC.map.heap_ne hC.blk e.symm)
    exact hC.map.of_block (by rw [e3, e2, e1])
  have hk2 : Kept P w w2 := by
    rw [hw2]
    exact Kept.setCell (Kept.grown (Kept.of_below hB hC.pin) hGr.grown (fun k hk => Nat.lt_of_lt_of_le (hC.pin k hk) hB.size) (fun k hk => hC.pF k hk)) hC.pT _
  have hr2 : w2.ownsRow 0 52 2 v1 (s.d.length + 1) (flatM s.d vs ++ [.int .i64 s.o.id, vO]) := own_keep hGr.own fun g cur hg hh => by
    rw [hw2]; exact Below.heap_setCell _ _ _ _ (by rintro rfl; exact Blk.ne_ (t := 52) hh hblk (by decide) rfl)
  have hlen : (lm s.d).length < 1000 := by rw [lm_len]; have := hG.pre.few; omega
  have i1 := hG.lo
  have i2 := hG.hi
  have l1 := ls_nonneg hG.fine hG.each
  have l2 := hG.len
  obtain ⟨w3, hrun, hm3, hg3⟩ := (hm2.of_block (w' := w2.drew) rfl).put_ hlen (id := s.o.id) (v := ls (lm s.d) s.o.fs) (by omega) (by omega) (by omega) (by omega)
  have hk3 : Kept P w w3 := Kept.grown (Kept.drew hk2) hg3 (fun k hk => Nat.lt_of_lt_of_le (hC.pin k hk) hk2.size) (fun k hk => by cases hk; exact hC.pM)
  have hcells : ∀ (g : Nat) (cur : Array Value) (t : TypeId) (fr : Nat × Nat), w2.heap[g]? = some (Obj.cells cur t fr) → w3.heap[g]? = w2.heap[g]? := fun g cur t fr hg => hg3.block g (lt_of_heap (w := w2) hg) (fun e => by cases e; exact hm2.heap_ne hg rfl)
  have far3 : ∀ (g : Nat) (cur : Array Value) (t : TypeId) (fr : Nat × Nat), t ≠ 52 → t ≠ 190 → w.heap[g]? = some (Obj.cells cur t fr) → w3.heap[g]? = w.heap[g]? := fun g cur t fr n1 n2 hg => by
    have e := far g cur t fr n1 n2 hg
    rw [hcells g cur t fr (e.trans hg), e]
  have hb3 : Blk w3 tb 190 (cs.setIfInBounds 35 v1) := (hcells _ _ _ _ hblk2).trans hblk2
  have oth : ∀ i, i ≠ 35 → (cs.setIfInBounds 35 v1)[i]? = cs[i]? := fun i hi => Array.getElem?_setIfInBounds_ne (fun e => hi e.symm)
  refine ⟨w2, w3, hw2, by rw [hblk2.cell 36, oth 36 (by decide)]; exact hC.cM, by rw [hblk2.cell 37, oth 37 (by decide)]; exact hC.cI, by rw [hblk2.cell 39, oth 39 (by decide)]; exact hO.cL, hblk2.lt, hrun, ?_⟩
  have e : endO s = some ⟨s.d ++ [s.o], s.o⟩ := by unfold endO; rw [if_neg h0, if_neg h1]
  refine ⟨by rw [e]; rfl, hk3, fun s1 h1 => ?_⟩
  rw [e] at h1
  cases h1
  refine ⟨_, mb, b1, b2, c, b3, v1, vs ++ [vO], hb3, by simp [hsz], fun i hi => by rw [oth i (by omega)]; exact hC.kinds i hi, by rw [Array.getElem?_setIfInBounds_self_of_lt (by omega)], by rw [oth 36 (by decide)]; exact hC.cM, by rw [oth 37 (by decide)]; exact hC.cI,
    ?_, by rw [lm_snoc]; exact hm3, ?_, by simp [hC.vsl], ?_, fun k hk => Nat.lt_of_lt_of_le (hC.pin k hk) hk3.size, hC.pT, hC.pM, ?_, hC.pB⟩
  · exact hC.boxes.far fun g cur t ht hg => far3 g cur t _ (by rcases ht with rfl | rfl <;> decide) (by rcases ht with rfl | rfl <;> decide) hg
  · rw [List.length_append, flatM_snoc hC.vsl]
    exact own_keep hr2 fun g cur hg hh => hcells g _ _ _ hh
  · intro i hi
    simp only [List.length_append, List.length_cons, List.length_nil] at hi
    by_cases hlt : i < s.d.length
    · rw [getD_snoc_lt hlt, getD_snoc_lt (by have := hC.vsl; omega)]
      exact own_keep (hC.done i hlt) fun g cur hg hh => far3 g _ _ _ (by decide) (by decide) hh
    · obtain rfl : i = s.d.length := by omega
      rw [getD_snoc_eq, ← hC.vsl, getD_snoc_eq]
      exact own_keep hO.rowO fun g cur hg hh => far3 g _ _ _ (by decide) (by decide) hh
  · intro g hg hP
    rcases hGr.blk with h | h
    · exact hC.pF g (h ▸ hg) hP
    · rw [h] at hg
      cases hg
      have := hC.pin _ hP
      have := hB.size
      omega
set_option maxRecDepth 100000 in
set_option maxHeartbeats 2000000 in
theorem end_main (P : Nat → Prop) (tb : Nat) (s : St) (er : Addr) (w : World) (hT : TabAt w P tb s) (hE : ErrAt w er) (hG : Fx.Good s) (h0 : s.o.id ≠ 0) (h1 : s.o.fs.length ≠ 0) :
    Calls Tryz.prog 116 #[adr tb] w (EndPost P tb s er w) := by
  obtain ⟨cs, mb, b1, b2, c, b3, vF, vs, vO, hC, hO⟩ := hT
  obtain ⟨a, cp, rfl, q4, q5⟩ := own_slice hO.rowO
  have q1 : w.cell? ⟨tb, 37, none⟩ = some (.int .i64 s.o.id) := (hC.blk.cell 37).trans hC.cI
  obtain ⟨L, hL⟩ : ∃ L, L = s.o.fs.length := ⟨_, rfl⟩
  have q2 : w.cell? ⟨tb, 38, none⟩ = some (.slice a L cp) := by rw [hL]; exact (hC.blk.cell 38).trans hO.cO
  have q35 : w.cell? ⟨tb, 35, none⟩ = some vF := (hC.blk.cell 35).trans hC.cF
  have z35 : w.frozen? ⟨tb, 35, none⟩ = false := hC.blk.frozen 35
  have q6 := hC.blk.lt
  obtain ⟨aF, cF, rfl, q7, q8⟩ := own_slice hC.rowF
  obtain ⟨M, hM⟩ : ∃ M, M = s.d.length := ⟨_, rfl⟩
  rw [← hM] at q35 q7
  have HC := Lib.hid hC
  have HO := Lib.hid hO
  have HG := Lib.hid hG
  have HE := Lib.hid hE
  have HL := Lib.hid (And.intro hL hM)
  have hLp : 0 < L := by omega
  have d0 : ((s.o.id : Int) == 0) = false := by simpa using h0
  have HZ := Lib.hid (And.intro h0 h1)
  unfold maxLen at q5 q8
  have hMM : M ≤ 1000 := by have := hG.pre.few; omega
  clear hC hO hG hE hL hM h0 h1
  go_enter Tryz.func116, Tryz.ntmps116
  go_wp2_with fail
  refine (require_any true er _ HE.out).mono ?_
  rintro e w' ⟨rfl, rfl⟩
  unfold ends
  go_wp2_with fail
  have HR : Hid (((w.alloc (.cells #[.int .i64 s.o.id, .slice a L cp] 52)).drew).ownsRow 0 52 2 (.slice aF M cF) M (flatM s.d vs)) := Lib.hid (by
    have := ownsRow_below HC.out.rowF ((bx (.cells #[.int .i64 s.o.id, .slice a L cp] 52)).drew)
    rw [← HL.out.2] at this; exact this)
  have HH : Hid (((w.alloc (.cells #[.int .i64 s.o.id, .slice a L cp] 52)).drew).heap[w.heap.size]? = some (.cells #[.int .i64 s.o.id, .slice a L cp] 52 (0, 0))) := Lib.hid (heap_alloc_new w _)
  have HKEY : Hid (∀ v' w', Grew ((w.alloc (.cells #[.int .i64 s.o.id, .slice a L cp] 52)).drew) w' 0 52 2 (.slice aF M cF) v' (M + 1) (flatM s.d vs ++ [.int .i64 s.o.id, .slice a L cp]) →
      ∃ a1 c1, v' = .slice a1 (M + 1) c1 ∧ w'.cell? ⟨tb, 35, none⟩ = some (.slice aF M cF) ∧ w'.frozen? ⟨tb, 35, none⟩ = false) := Lib.hid (fun v' w' hg => by
    obtain ⟨a1, c1, h1, _, _⟩ := own_slice hg.own
    have hb := hg.blkOther HR.out (HC.out.blk.below ((bx (.cells #[.int .i64 s.o.id, .slice a L cp] 52)).drew)) (by decide)
    refine ⟨a1, c1, h1, ?_, hb.frozen 35⟩
    rw [hb.cell 35, HC.out.cF, HL.out.2])
  go_cut [] from 16 (fun w' => ∃ v1 w1, Grew ((w.alloc (.cells #[.int .i64 s.o.id, .slice a L cp] 52)).drew) w1 0 52 2 (.slice aF M cF) v1 (M + 1) (flatM s.d vs ++ [.int .i64 s.o.id, .slice a L cp]) ∧ w' = w1.setCell ⟨tb, 35, none⟩ v1)
  case first =>
    go_region_law (refine step_append_fmt rfl (.tmp 20) (.tmp 25) rfl (.slice aF M cF) M (flatM s.d vs) rfl HR.out hMM w.heap.size s.o.id (.slice a L cp) rfl rfl HH.out ?_; intro v1 w1 hGr; obtain ⟨a1, c1, rfl, g35, g35z⟩ := HKEY.out v1 w1 hGr)
    all_goals
      go_wp2_with fail
      go_meet
      exact ⟨_, _, hGr, rfl⟩
  case rest =>
    obtain ⟨v1, w1, hGr, rfl⟩ := hcut
    obtain ⟨e1, e2⟩ := HL.out
    subst e1
    subst e2
    obtain ⟨w2, w3, hw2, p36, p37, p39, ptb, hrun, hpost⟩ := end_mem (er := er) HC.out HO.out HG.out HZ.out.1 HZ.out.2 ((bx _).drew) hGr
    rw [← hw2]
    have HP := Lib.hid hpost
    clear hw2 hpost hGr HR HH HKEY HC HO HG HE HL HZ hMM q1 q2 q35 z35 q6 q7 q8 q4 q5 d0 hLp
    go_wp2_with fail
    go_still_tail 13, (by kernel_rfl)
    change wpList _ _ _ _ _ w2.drew
    go_wp2
    go_end0
    exact HP.out
end FmtJ
section FmtK
open Go.RowKit Fx Go.Sort

theorem end_any (P : Nat → Prop) (tb : Nat) (s : St) (er : Addr) (w : World) (hT : TabAt w P tb s) (hE : ErrAt w er) (hG : Fx.Good s) :
    Calls Tryz.prog 116 #[adr tb] w (EndPost P tb s er w) := by
  by_cases h0 : s.o.id = 0
  · exact end_zero P tb s er w hT h0
  · by_cases h1 : s.o.fs.length = 0
    · exact end_none P tb s er w hT hE h0 h1
    · exact end_main P tb s er w hT hE hG h0 h1
/-- What begin ends in. -/
def BeginPost (P : Nat → Prop) (tb : Nat) (s : St) (id : Int) (er : Addr) (w : World) (e : Ending) (w' : World) : Prop :=
  e = ends er (beginO s id).isSome ∧ Kept P w w' ∧ ∀ s1, beginO s id = some s1 → TabAt w' P tb s1
theorem TabEnd.cells_ {w : World} {P : Nat → Prop} {tb : Nat} {s : St} (h : TabEnd w P tb s) : ∃ a c, w.cell? ⟨tb, 37, none⟩ = some (.int .i64 s.o.id) ∧ w.cell? ⟨tb, 35, none⟩ = some (.slice a s.d.length c) ∧ s.d.length ≤ c ∧ c ≤ maxLen ∧ tb < w.heap.size ∧ (∀ i, w.frozen? ⟨tb, i, none⟩ = false) ∧
    (∀ i, i < 56 → ∃ v, w.cell? ⟨tb, i, none⟩ = some v) := by
  obtain ⟨cs, mb, b1, b2, c, b3, vF, vs, hC⟩ := h
  obtain ⟨a, c, rfl, h1, h2⟩ := own_slice hC.rowF
  exact ⟨a, c, (hC.blk.cell 37).trans hC.cI, (hC.blk.cell 35).trans hC.cF, h1, h2, hC.blk.lt, fun i => hC.blk.frozen i, fun i hi => ⟨cs[i]'(by have := hC.sz; omega), by rw [hC.blk.cell i, Array.getElem?_eq_getElem]⟩⟩
theorem begin_stop {P : Nat → Prop} {tb : Nat} {s : St} {id : Int} {er : Addr} {w : World} {e : Ending} {w' : World} (h : beginO s id = none) (he : e = ends er false) (hk : Kept P w w') : BeginPost P tb s id er w e w' :=
  ⟨by rw [h]; exact he, hk, fun s1 h2 => by rw [h] at h2; cases h2⟩

/-- Stores into the cells of a block. -/
def stores (w : World) (tb : Nat) (l : List (Nat × Value)) : World := l.foldl (fun w p => w.setCell ⟨tb, p.1, none⟩ p.2) w
def puts (cs : Array Value) (l : List (Nat × Value)) : Array Value := l.foldl (fun cs p => cs.setIfInBounds p.1 p.2) cs
theorem stores_blk {tb : Nat} {t : TypeId} : ∀ {l : List (Nat × Value)} {w : World} {cs : Array Value}, Blk w tb t cs → Blk (stores w tb l) tb t (puts cs l)
  | [], _, _, h => h
  | p :: l, _, _, h => stores_blk (l := l) (h.set_ p.1 p.2)
theorem stores_ne {tb g : Nat} (hg : g ≠ tb) : ∀ {l : List (Nat × Value)} {w : World}, (stores w tb l).heap[g]? = w.heap[g]?
  | [], _ => rfl
  | p :: l, w => (stores_ne hg (l := l)).trans (Below.heap_setCell w ⟨tb, p.1, none⟩ p.2 g hg)
theorem stores_kept {P : Nat → Prop} {tb : Nat} (hP : ¬ P tb) : ∀ {l : List (Nat × Value)} {w : World}, Kept P w (stores w tb l)
  | [], _ => Kept.refl _ _
  | p :: l, w => (Kept.setCell (Kept.refl P w) (p := ⟨tb, p.1, none⟩) hP p.2).trans (stores_kept hP (l := l))
theorem puts_size : ∀ {l : List (Nat × Value)} {cs : Array Value}, (puts cs l).size = cs.size
  | [], _ => rfl
  | p :: l, cs => by
    have := puts_size (l := l) (cs := cs.setIfInBounds p.1 p.2)
    simp only [Array.size_setIfInBounds] at this
    exact this
theorem puts_ne {i : Nat} : ∀ {l : List (Nat × Value)} {cs : Array Value}, (∀ p ∈ l, p.1 ≠ i) → (puts cs l)[i]? = cs[i]?
  | [], _, _ => rfl
  | p :: l, cs, h => by
    have := puts_ne (i := i) (l := l) (cs := cs.setIfInBounds p.1 p.2) fun q hq => h q (List.mem_cons_of_mem _ hq)
    refine this.trans (Array.getElem?_setIfInBounds_ne (h p (by simp)))
theorem puts_eq {i : Nat} {v : Value} : ∀ {l : List (Nat × Value)} {cs : Array Value}, i < cs.size → (∃ a b, l = a ++ (i, v) :: b ∧ ∀ p ∈ b, p.1 ≠ i) → (puts cs l)[i]? = some v := by
  rintro l cs hi ⟨a, b, rfl, hb⟩
  have e : puts cs (a ++ (i, v) :: b) = puts ((puts cs a).setIfInBounds i v) b := by unfold puts; rw [List.foldl_append]; rfl
  rw [e, puts_ne hb, Array.getElem?_setIfInBounds_self_of_lt (by rw [puts_size]; exact hi)]
def fresh (id : Int) : List (Nat × Value) := [(37, .int .i64 id), (38, .slice none 0 0), (39, .int .i64 0), (40, .bool false), (41, .bool false), (42, .bool false), (43, .bool false), (44, .bool false), (45, .bool false), (46, .bool false), (47, .bool false), (48, .bool false), (49, .bool false), (50, .bool false), (51, .bool false), (52, .bool false), (53, .bool false), (54, .bool false), (55, .bool false)]
theorem begin_mem {P : Nat → Prop} {tb : Nat} {s : St} {w : World} (id : Int) (h : TabEnd w P tb s) : TabAt (stores w tb (fresh id)) P tb ⟨s.d, ⟨id, []⟩⟩ := by
  obtain ⟨cs, mb, b1, b2, c, b3, vF, vs, hC⟩ := h
  have hsz := hC.sz
  have hb := stores_blk (l := fresh id) hC.blk
  have far : ∀ (g : Nat) (cur : Array Value) (t : TypeId) (fr : Nat × Nat), t ≠ 190 → w.heap[g]? = some (Obj.cells cur t fr) → (stores w tb (fresh id)).heap[g]? = w.heap[g]? := fun g cur t fr n1 hg => by
    refine stores_ne (fun e => ?_)
    have hh : w.heap[g]? = some (.cells cs 190 (0, 0)) := by rw [e]; exact hC.blk
    rw [hg] at hh
    cases hh
    exact n1 rfl
  have hi : ∀ i, i < 37 → (puts cs (fresh id))[i]? = cs[i]? := fun i hi => puts_ne (by
    intro p hp
    simp only [fresh, List.mem_cons, List.not_mem_nil, or_false] at hp
    rcases hp with rfl | rfl | rfl | rfl | rfl | rfl | rfl | rfl | rfl | rfl | rfl | rfl | rfl | rfl | rfl | rfl | rfl | rfl | rfl <;> (simp only; omega))
  refine ⟨_, mb, b1, b2, c, b3, vF, vs, .slice none 0 0, ⟨hb, by rw [puts_size]; exact hsz, fun i h => by rw [hi i (by omega)]; exact hC.kinds i h, by rw [hi 35 (by decide)]; exact hC.cF, by rw [hi 36 (by decide)]; exact hC.cM,
    puts_eq (by omega) ⟨[], _, rfl, by simp⟩, hC.boxes.far fun g cur t ht hg => far g cur t _ (by rcases ht with rfl | rfl <;> decide) hg, hC.map.of_block (stores_ne (fun e => hC.map.heap_ne hC.blk e.symm)),
    own_keep hC.rowF fun g cur _ hh => far g _ _ _ (by decide) hh, hC.vsl, fun i h => own_keep (hC.done i h) fun g cur _ hh => far g _ _ _ (by decide) hh, fun k hk => Nat.lt_of_lt_of_le (hC.pin k hk) (stores_kept (P := fun _ => False) (fun h => h)).size, hC.pT, hC.pM, hC.pF, hC.pB⟩,
    ⟨puts_eq (by omega) ⟨[(37, .int .i64 id)], _, rfl, by simp⟩, puts_eq (by omega) ⟨[(37, .int .i64 id), (38, .slice none 0 0)], _, rfl, by simp⟩, fun i h => ?_, World.ownsRow_nil _ _ _ _, fun g hg => by simp [Value.ownBlock] at hg, fun i h g hg => by simp [Value.ownBlock] at hg⟩⟩
  have hu : usedB ([] : List Fld) i = false := rfl
  rw [hu]
  match i, h with
  | 0, _ => exact puts_eq (by omega) ⟨[(37, .int .i64 id), (38, .slice none 0 0), (39, .int .i64 0)], _, rfl, by simp⟩
  | 1, _ => exact puts_eq (by omega) ⟨[(37, .int .i64 id), (38, .slice none 0 0), (39, .int .i64 0), (40, .bool false)], _, rfl, by simp⟩
  | 2, _ => exact puts_eq (by omega) ⟨[(37, .int .i64 id), (38, .slice none 0 0), (39, .int .i64 0), (40, .bool false), (41, .bool false)], _, rfl, by simp⟩
  | 3, _ => exact puts_eq (by omega) ⟨[(37, .int .i64 id), (38, .slice none 0 0), (39, .int .i64 0), (40, .bool false), (41, .bool false), (42, .bool false)], _, rfl, by simp⟩
  | 4, _ => exact puts_eq (by omega) ⟨[(37, .int .i64 id), (38, .slice none 0 0), (39, .int .i64 0), (40, .bool false), (41, .bool false), (42, .bool false), (43, .bool false)], _, rfl, by simp⟩
  | 5, _ => exact puts_eq (by omega) ⟨[(37, .int .i64 id), (38, .slice none 0 0), (39, .int .i64 0), (40, .bool false), (41, .bool false), (42, .bool false), (43, .bool false), (44, .bool false)], _, rfl, by simp⟩
  | 6, _ => exact puts_eq (by omega) ⟨[(37, .int .i64 id), (38, .slice none 0 0), (39, .int .i64 0), (40, .bool false), (41, .bool false), (42, .bool false), (43, .bool false), (44, .bool false), (45, .bool false)], _, rfl, by simp⟩
  | 7, _ => exact puts_eq (by omega) ⟨[(37, .int .i64 id), (38, .slice none 0 0), (39, .int .i64 0), (40, .bool false), (41, .bool false), (42, .bool false), (43, .bool false), (44, .bool false), (45, .bool false), (46, .bool false)], _, rfl, by simp⟩
  | 8, _ => exact puts_eq (by omega) ⟨[(37, .int .i64 id), (38, .slice none 0 0), (39, .int .i64 0), (40, .bool false), (41, .bool false), (42, .bool false), (43, .bool false), (44, .bool false), (45, .bool false), (46, .bool false), (47, .bool false)], _, rfl, by simp⟩
  | 9, _ => exact puts_eq (by omega) ⟨[(37, .int .i64 id), (38, .slice none 0 0), (39, .int .i64 0), (40, .bool false), (41, .bool false), (42, .bool false), (43, .bool false), (44, .bool false), (45, .bool false), (46, .bool false), (47, .bool false), (48, .bool false)], _, rfl, by simp⟩
  | 10, _ => exact puts_eq (by omega) ⟨[(37, .int .i64 id), (38, .slice none 0 0), (39, .int .i64 0), (40, .bool false), (41, .bool false), (42, .bool false), (43, .bool false), (44, .bool false), (45, .bool false), (46, .bool false), (47, .bool false), (48, .bool false), (49, .bool false)], _, rfl, by simp⟩
  | 11, _ => exact puts_eq (by omega) ⟨[(37, .int .i64 id), (38, .slice none 0 0), (39, .int .i64 0), (40, .bool false), (41, .bool false), (42, .bool false), (43, .bool false), (44, .bool false), (45, .bool false), (46, .bool false), (47, .bool false), (48, .bool false), (49, .bool false), (50, .bool false)], _, rfl, by simp⟩
  | 12, _ => exact puts_eq (by omega) ⟨[(37, .int .i64 id), (38, .slice none 0 0), (39, .int .i64 0), (40, .bool false), (41, .bool false), (42, .bool false), (43, .bool false), (44, .bool false), (45, .bool false), (46, .bool false), (47, .bool false), (48, .bool false), (49, .bool false), (50, .bool false), (51, .bool false)], _, rfl, by simp⟩
  | 13, _ => exact puts_eq (by omega) ⟨[(37, .int .i64 id), (38, .slice none 0 0), (39, .int .i64 0), (40, .bool false), (41, .bool false), (42, .bool false), (43, .bool false), (44, .bool false), (45, .bool false), (46, .bool false), (47, .bool false), (48, .bool false), (49, .bool false), (50, .bool false), (51, .bool false), (52, .bool false)], _, rfl, by simp⟩
  | 14, _ => exact puts_eq (by omega) ⟨[(37, .int .i64 id), (38, .slice none 0 0), (39, .int .i64 0), (40, .bool false), (41, .bool false), (42, .bool false), (43, .bool false), (44, .bool false), (45, .bool false), (46, .bool false), (47, .bool false), (48, .bool false), (49, .bool false), (50, .bool false), (51, .bool false), (52, .bool false), (53, .bool false)], _, rfl, by simp⟩
  | 15, _ => exact puts_eq (by omega) ⟨[(37, .int .i64 id), (38, .slice none 0 0), (39, .int .i64 0), (40, .bool false), (41, .bool false), (42, .bool false), (43, .bool false), (44, .bool false), (45, .bool false), (46, .bool false), (47, .bool false), (48, .bool false), (49, .bool false), (50, .bool false), (51, .bool false), (52, .bool false), (53, .bool false), (54, .bool false)], _, rfl, by simp⟩
  | k + 16, h => omega
set_option maxRecDepth 100000 in
set_option maxHeartbeats 2000000 in
theorem begin_any (P : Nat → Prop) (tb : Nat) (s : St) (id : Int) (er : Addr) (w : World) (hT : TabAt w P tb s) (hE : ErrAt w er) (hPe : P 1) (hG : Fx.Good s) :
    Calls Tryz.prog 114 #[adr tb, .int .i64 id] w (BeginPost P tb s id er w) := by
  have HEN := Lib.hid (end_any P tb s er w hT hE hG)
  have HE := Lib.hid hE
  have HG := Lib.hid hG
  clear hT hE hG
  obtain ⟨oo, ho⟩ : ∃ oo, oo = endO s := ⟨_, rfl⟩
  cases oo with
  | none =>
    have hB : beginO s id = none := by unfold beginO; rw [← ho]
    have HB := Lib.hid (And.intro hB ho)
    clear hB ho
    go_enter Tryz.func114, Tryz.ntmps114
    go_wp2_with fail
    refine HEN.out.mono ?_
    rintro e w1 ⟨rfl, hk, _⟩
    have HK := Lib.hid hk
    clear hk
    rw [← HB.out.2]
    unfold ends
    simp only [Option.isSome_none]
    go_wp2_with fail
    exact ⟨rfl, begin_stop HB.out.1 rfl HK.out⟩
  | some s1 =>
    have HO := Lib.hid ho
    clear ho
    go_enter Tryz.func114, Tryz.ntmps114
    go_wp2_with fail
    refine HEN.out.mono ?_
    rintro e w1 ⟨rfl, hk, hT1⟩
    have HT1 := Lib.hid (hT1 s1 HO.out.symm)
    have HK := Lib.hid hk
    have HE1 : Hid (ErrAt w1 er) := Lib.hid ⟨(hk.cell (p := ⟨1, 0, none⟩) hPe).trans HE.out.cell⟩
    clear hk hT1
    rw [← HO.out]
    unfold ends
    simp only [Option.isSome_some]
    obtain ⟨aF, cF, p37, p35, q1, q2, q3, q4, q5⟩ := HT1.out.cells_
    have ho1 : s1.o = s.o := (HG.out.end_ HO.out.symm).2.2.1
    rw [ho1] at p37
    obtain ⟨M, hM⟩ : ∃ M, M = s1.d.length := ⟨_, rfl⟩
    rw [← hM] at p35 q1
    unfold maxLen at q2
    have HM := Lib.hid (And.intro hM ho1)
    clear hM ho1
    by_cases hl : M < 60
    · have hl2 : (M : Int) < 60 := by omega
      by_cases hid : s.o.id < id
      · by_cases hid2 : id ≤ 1000000
        · obtain ⟨o37, o38, o39⟩ := And.intro (q4 37) (And.intro (q4 38) (q4 39))
          go_wp2_with fail
          refine (require_any true er _ HE1.out).mono ?_
          rintro e w' ⟨rfl, rfl⟩
          unfold ends
          go_wp2_with fail
          refine (require_any true er _ HE1.out).mono ?_
          rintro e w' ⟨rfl, rfl⟩
          unfold ends
          obtain ⟨x38, hx38⟩ := q5 38 (by omega)
          obtain ⟨x39, hx39⟩ := q5 39 (by omega)
          obtain ⟨x40, hx40⟩ := q5 40 (by omega)
          obtain ⟨x41, hx41⟩ := q5 41 (by omega)
          obtain ⟨x42, hx42⟩ := q5 42 (by omega)
          obtain ⟨x43, hx43⟩ := q5 43 (by omega)
          obtain ⟨x44, hx44⟩ := q5 44 (by omega)
          obtain ⟨x45, hx45⟩ := q5 45 (by omega)
          obtain ⟨x46, hx46⟩ := q5 46 (by omega)
          obtain ⟨x47, hx47⟩ := q5 47 (by omega)
          obtain ⟨x48, hx48⟩ := q5 48 (by omega)
          obtain ⟨x49, hx49⟩ := q5 49 (by omega)
          obtain ⟨x50, hx50⟩ := q5 50 (by omega)
          obtain ⟨x51, hx51⟩ := q5 51 (by omega)
          obtain ⟨x52, hx52⟩ := q5 52 (by omega)
          obtain ⟨x53, hx53⟩ := q5 53 (by omega)
          obtain ⟨x54, hx54⟩ := q5 54 (by omega)
          obtain ⟨x55, hx55⟩ := q5 55 (by omega)
          go_wp2_with fail
          go_end0
          have hb : beginO s id = some ⟨s1.d, ⟨id, []⟩⟩ := by
            unfold beginO; rw [← HO.out]; simp only
            rw [if_pos ⟨by have := HM.out.1; omega, hid, hid2⟩]
          refine ⟨by rw [hb]; rfl, HK.out.trans (stores_kept (l := fresh id) (by obtain ⟨cs, mb, b1, b2, c, b3, vF, vs, hC⟩ := HT1.out; exact hC.pT)), fun s2 h2 => ?_⟩
          rw [hb] at h2
          cases h2
          exact begin_mem id HT1.out
        · have hd : decide (id ≤ 1000000) = false := decide_eq_false hid2
          have hb : beginO s id = none := by
            unfold beginO; rw [← HO.out]; simp only
            rw [if_neg (by omega)]
          go_wp2_with fail
          refine (require_any true er _ HE1.out).mono ?_
          rintro e w' ⟨rfl, rfl⟩
          unfold ends
          go_wp2_with fail
          refine (require_any false er _ HE1.out).mono ?_
          rintro e w' ⟨rfl, rfl⟩
          unfold ends
          go_wp2_with fail
          exact ⟨rfl, begin_stop hb rfl HK.out⟩
      · have hd : decide (s.o.id < id) = false := decide_eq_false hid
        have hb : beginO s id = none := by
          unfold beginO; rw [← HO.out]; simp only
          rw [if_neg (by omega)]
        go_wp2_with fail
        refine (require_any true er _ HE1.out).mono ?_
        rintro e w' ⟨rfl, rfl⟩
        unfold ends
        go_wp2_with fail
        refine (require_any false er _ HE1.out).mono ?_
        rintro e w' ⟨rfl, rfl⟩
        unfold ends
        go_wp2_with fail
        exact ⟨rfl, begin_stop hb rfl HK.out⟩
    · have hd : decide ((M : Int) < 60) = false := decide_eq_false (by omega)
      have hb : beginO s id = none := by
        unfold beginO; rw [← HO.out]; simp only
        rw [if_neg (by have := HM.out.1; omega)]
      go_wp2_with fail
      refine (require_any false er _ HE1.out).mono ?_
      rintro e w' ⟨rfl, rfl⟩
      unfold ends
      go_wp2_with fail
      exact ⟨rfl, begin_stop hb rfl HK.out⟩
end FmtK
section FmtL
open Go.RowKit Fx Go.Sort

theorem add_any (P : Nat → Prop) (tb : Nat) (s : St) (f : Fld) (er : Addr) (w : World) (hT : TabAt w P tb s) (hE : ErrAt w er) (hPe : P 1) (hG : Fx.Good s) (hf : Ints f) :
    Calls Tryz.prog 115 #[adr tb, fldV f] w (AddPost P tb s f er w) := by
  by_cases h0 : 0 < s.o.id
  · by_cases h1 : s.o.fs.length < 16
    · by_cases hk : 1 ≤ f.kind ∧ f.kind ≤ 6
      · exact add_main P tb f.kind.toNat s f er w hT hE hPe hG h0 h1 hf (by omega) (by omega) (by omega)
      · exact add_kind P tb s f er w hT hE h0 h1 hk
    · exact add_full P tb s f er w hT hE h0 h1
  · exact add_id P tb s f er w hT hE h0

theorem catch_panicking (p : Addr) (x pv : Value) (u : TypeId) (older : List PanicEntry) (w : World) (hc : w.cell? p = some x) (hz : w.frozen? p = false) :
    CallsD Tryz.prog 119 #[.pointer (some p)] (.panicking ({ v := .iface u pv, recovered := false } :: older)) w fun e u' w' =>
      e = .returned (.tuple #[]) ∧ u' = .panicking ({ v := .iface u pv, recovered := true } :: older) ∧ w' = w.setCell p (.bool false) := by
  refine callsD_of_wpS Tryz.func119 rfl fun c₀ cs hu => ?_
  apply wpS_region
  simp [wpOpsS, go_sem, recoverD, hu, Tryz.ntmps119, hc, hz, bodyPostS, results, Tryz.results119]
theorem catch_idle (p : Addr) (x : Value) (w : World) (hc : w.cell? p = some x) (hz : w.frozen? p = false) :
    CallsD Tryz.prog 119 #[.pointer (some p)] .returning w fun e u' w' => e = .returned (.tuple #[]) ∧ u' = .returning ∧ w' = w.setCell p (.bool true) := by
  refine callsD_of_wpS Tryz.func119 rfl fun c₀ cs hu => ?_
  apply wpS_region
  simp [wpOpsS, go_sem, recoverD, hu, Tryz.ntmps119, hc, hz, bodyPostS, results, Tryz.results119]
  cases c₀
  simp_all

set_option maxRecDepth 20000 in
/-- A function that comes to its end, or is stopped by a panic of an error. -/
theorem completes_any (fn : FuncId) (cap : Array Value) (ok : Bool) (er : Addr) (w : World) (Q : World → Prop) (hen : Enters fn)
    (hf : Calls Tryz.prog fn cap (w.alloc (.cells #[.bool false] 4)) fun e w2 => e = ends er ok ∧ w2.heap[w.heap.size]? = some (.cells #[.bool false] 4 (0, 0)) ∧ Q w2)
    (hQ : ∀ w2 v, Q w2 → Q (w2.setCell ⟨w.heap.size, 0, none⟩ v)) :
    Calls Tryz.prog 112 #[.func (.func fn) #[] cap] w fun e w' => e = .returned (.bool ok) ∧ Q w' := by
  have HF := Lib.hid hf
  have HQ := Lib.hid hQ
  clear hf hQ
  unfold Enters at hen
  have hmf : ∀ (fn : Fn) (first cap : Array Value) (w : World), (Instr.makeFunc fn first cap).run Tryz.prog w = .ok (.func fn first cap) w := fun _ _ _ _ => rfl
  go_enter_defers Tryz.func112, Tryz.ntmps112
  go_wp2_with fail
  refine HF.out.mono ?_
  rintro e w2 ⟨rfl, hb, hq⟩
  have hc2 : w2.cell? ⟨w.heap.size, 0, none⟩ = some (.bool false) := cell_of_row w2 w.heap.size 0 _ _ _ hb
  have hz2 : w2.frozen? ⟨w.heap.size, 0, none⟩ = false := Blk.frozen (w := w2) hb 0
  have hlt := lt_of_heap hb
  have HQ2 := Lib.hid hq
  clear hb hq
  cases ok with
  | true =>
    unfold ends
    go_wp2_with fail
    refine leaves_cons (f := 119) (args := #[.pointer (some ⟨w.heap.size, 0, none⟩)]) (by simp) (by simp [go_sem]) ?_
    refine (catch_idle ⟨w.heap.size, 0, none⟩ (.bool true) _ (by simp [go_sem, hc2]) (by simp [go_sem, hz2])).mono ?_
    rintro e u' w'' ⟨rfl, rfl, rfl⟩
    simp [Leaves, settle, results, Tryz.results112, go_sem, hc2]
    exact HQ.out _ _ (HQ.out _ _ HQ2.out)
  | false =>
    unfold ends
    go_wp2_with fail
    refine leaves_cons (f := 119) (args := #[.pointer (some ⟨w.heap.size, 0, none⟩)]) (by simp) (by simp [go_sem]) ?_
    refine (catch_panicking ⟨w.heap.size, 0, none⟩ (.bool false) _ _ _ _ hc2 hz2).mono ?_
    rintro e u' w'' ⟨rfl, rfl, rfl⟩
    simp [Leaves, settle, results, Tryz.results112, go_sem, hc2]
    exact HQ.out _ _ HQ2.out
end FmtL
end Go.Proofs.YtdndmhlmbpgdeaaGreatDoor
