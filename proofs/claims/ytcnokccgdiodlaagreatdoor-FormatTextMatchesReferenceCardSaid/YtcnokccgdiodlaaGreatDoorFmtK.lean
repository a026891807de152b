/- begin: the open format is completed, and the next one opened, or the reading stops. Conditions: the table lies there; the number is an int. -/
import Derived.Test.YtcnokccgdiodlaaGreatDoorFmtJ
namespace Go.Proofs.YtcnokccgdiodlaaGreatDoor
open Go.RowKit Fx Go.Sort

theorem end_any (P : Nat → Prop) (tb : Nat) (s : St) (er : Addr) (w : World) (hT : TabAt w P tb s) (hE : ErrAt w er) (hG : Fx.Good s) :
    Calls Tryz.prog 50 #[adr tb] w (EndPost P tb s er w) := by
  by_cases h0 : s.o.id = 0
  · exact end_zero P tb s er w hT h0
  · by_cases h1 : s.o.fs.length = 0
    · exact end_none P tb s er w hT hE h0 h1
    · exact end_main P tb s er w hT hE hG h0 h1
/-- What begin ends in. -/
def BeginPost (P : Nat → Prop) (tb : Nat) (s : St) (id : Int) (er : Addr) (w : World) (e : Ending) (w' : World) : Prop :=
  e = ends er (beginO s id).isSome ∧ Kept P w w' ∧ ∀ s1, beginO s id = some s1 → TabAt w' P tb s1
theorem TabEnd.cells_ {w : World} {P : Nat → Prop} {tb : Nat} {s : St} (h : TabEnd w P tb s) : ∃ a c, w.cell? ⟨tb, 37, none⟩ = some (.int .i64 s.o.id) ∧ w.cell? ⟨tb, 35, none⟩ = some (.slice a s.d.length c) ∧ s.d.length ≤ c ∧ c ≤ maxLen ∧ tb < w.heap.size ∧ (∀ i, w.frozen? ⟨tb, i, none⟩ = false) ∧
    (∀ i, i < 56 → ∃ v, w.cell? ⟨tb, i, none⟩ = some v) := by
  obtain ⟨cs, mb, b1, b2, c, b3, vF, vs, hC⟩ := h
  obtain ⟨a, c, rfl, h1, h2⟩ := own_slice hC.rowF
  exact ⟨a, c, (hC.blk.cell 37).trans hC.cI, (hC.blk.cell 35).trans hC.cF, h1, h2, hC.blk.lt, fun i => hC.blk.frozen i, fun i hi => ⟨cs[i]'(by have := hC.sz; omega), by rw [hC.blk.cell i, Array.getElem?_eq_getElem]⟩⟩
theorem begin_stop {P : Nat → Prop} {tb : Nat} {s : St} {id : Int} {er : Addr} {w : World} {e : Ending} {w' : World} (h : beginO s id = none) (he : e = ends er false) (hk : Kept P w w') : BeginPost P tb s id er w e w' :=
  ⟨by rw [h]; exact he, hk, fun s1 h2 => by rw [h] at h2; cases h2⟩

/-- Stores into the cells of a block. -/
def stores (w : World) (tb : Nat) (l : List (Nat × Value)) : World := l.foldl (fun w p => w.setCell ⟨tb, p.1, none⟩ p.2) w
def puts (cs : Array Value) (l : List (Nat × Value)) : Array Value := l.foldl (fun cs p => cs.setIfInBounds p.1 p.2) cs
theorem stores_blk {tb : Nat} {t : TypeId} : ∀ {l : List (Nat × Value)} {w : World} {cs : Array Value}, Blk w tb t cs → Blk (stores w tb l) tb t (puts cs l)
  | [], _, _, h => h
  | p :: l, _, _, h => stores_blk (l := l) (h.set_ p.1 p.2)
theorem stores_ne {tb g : Nat} (hg : g ≠ tb) : ∀ {l : List (Nat × Value)} {w : World}, (stores w tb l).heap[g]? = w.heap[g]?
  | [], _ => rfl
  | p :: l, w => (stores_ne hg (l := l)).trans (Below.heap_setCell w ⟨tb, p.1, none⟩ p.2 g hg)
theorem stores_kept {P : Nat → Prop} {tb : Nat} (hP : ¬ P tb) : ∀ {l : List (Nat × Value)} {w : World}, Kept P w (stores w tb l)
  | [], _ => Kept.refl _ _
  | p :: l, w => (Kept.setCell (Kept.refl P w) (p := ⟨tb, p.1, none⟩) hP p.2).trans (stores_kept hP (l := l))
theorem puts_size : ∀ {l : List (Nat × Value)} {cs : Array Value}, (puts cs l).size = cs.size
  | [], _ => rfl
  | p :: l, cs => by
    have := puts_size (l := l) (cs := cs.setIfInBounds p.1 p.2)
    simp only [Array.size_setIfInBounds] at this
    exact this
theorem puts_ne {i : Nat} : ∀ {l : List (Nat × Value)} {cs : Array Value}, (∀ p ∈ l, p.1 ≠ i) → (puts cs l)[i]? = cs[i]?
  | [], _, _ => rfl
  | p :: l, cs, h => by
    have := puts_ne (i := i) (l := l) (cs := cs.setIfInBounds p.1 p.2) fun q hq => h q (List.mem_cons_of_mem _ hq)
    refine this.trans (Array.getElem?_setIfInBounds_ne (h p (by simp)))
theorem puts_eq {i : Nat} {v : Value} : ∀ {l : List (Nat × Value)} {cs : Array Value}, i < cs.size → (∃ a b, l = a ++ (i, v) :: b ∧ ∀ p ∈ b, p.1 ≠ i) → (puts cs l)[i]? = some v := by
  rintro l cs hi ⟨a, b, rfl, hb⟩
  have e : puts cs (a ++ (i, v) :: b) = puts ((puts cs a).setIfInBounds i v) b := by unfold puts; rw [List.foldl_append]; rfl
  rw [e, puts_ne hb, Array.getElem?_setIfInBounds_self_of_lt (by rw [puts_size]; exact hi)]
def fresh (id : Int) : List (Nat × Value) := [(37, .int .i64 id), (38, .slice none 0 0), (39, .int .i64 0), (40, .bool false), (41, .bool false), (42, .bool false), (43, .bool false), (44, .bool false), (45, .bool false), (46, .bool false), (47, .bool false), (48, .bool false), (49, .bool false), (50, .bool false), (51, .bool false), (52, .bool false), (53, .bool false), (54, .bool false), (55, .bool false)]
theorem begin_mem {P : Nat → Prop} {tb : Nat} {s : St} {w : World} (id : Int) (h : TabEnd w P tb s) : TabAt (stores w tb (fresh id)) P tb ⟨s.d, ⟨id, []⟩⟩ := by
  obtain ⟨cs, mb, b1, b2, c, b3, vF, vs, hC⟩ := h
  have hsz := hC.sz
  have hb := stores_blk (l := fresh id) hC.blk
  have far : ∀ (g : Nat) (cur : Array Value) (t : TypeId) (fr : Nat × Nat), t ≠ 78 → w.heap[g]? = some (Obj.cells cur t fr) → (stores w tb (fresh id)).heap[g]? = w.heap[g]? := fun g cur t fr n1 hg => by
    refine stores_ne (fun e => ?_)
    have hh : w.heap[g]? = some (.cells cs 78 (0, 0)) := by rw [e]; exact hC.blk
    rw [hg] at hh
    cases hh
    exact n1 rfl
  have hi : ∀ i, i < 37 → (puts cs (fresh id))[i]? = cs[i]? := fun i hi => puts_ne (by
    intro p hp
    simp only [fresh, List.mem_cons, List.not_mem_nil, or_false] at hp
    rcases hp with rfl | rfl | rfl | rfl | rfl | rfl | rfl | rfl | rfl | rfl | rfl | rfl | rfl | rfl | rfl | rfl | rfl | rfl | rfl <;> (simp only; omega))
  refine ⟨_, mb, b1, b2, c, b3, vF, vs, .slice none 0 0, ⟨hb, by rw [puts_size]; exact hsz, fun i h => by rw [hi i (by omega)]; exact hC.kinds i h, by rw [hi 35 (by decide)]; exact hC.cF, by rw [hi 36 (by decide)]; exact hC.cM,
    puts_eq (by omega) ⟨[], _, rfl, by simp⟩, hC.boxes.far fun g cur t ht hg => far g cur t _ (by rcases ht with rfl | rfl <;> decide) hg, hC.map.of_block (stores_ne (fun e => hC.map.heap_ne hC.blk e.symm)),
    own_keep hC.rowF fun g cur _ hh => far g _ _ _ (by decide) hh, hC.vsl, fun i h => own_keep (hC.done i h) fun g cur _ hh => far g _ _ _ (by decide) hh, fun k hk => Nat.lt_of_lt_of_le (hC.pin k hk) (stores_kept (P := fun _ => False) (fun h => h)).size, hC.pT, hC.pM, hC.pF, hC.pB⟩,
    ⟨puts_eq (by omega) ⟨[(37, .int .i64 id)], _, rfl, by simp⟩, puts_eq (by omega) ⟨[(37, .int .i64 id), (38, .slice none 0 0)], _, rfl, by simp⟩, fun i h => ?_, World.ownsRow_nil _ _ _ _, fun g hg => by simp [Value.ownBlock] at hg, fun i h g hg => by simp [Value.ownBlock] at hg⟩⟩
  have hu : usedB ([] : List Fld) i = false := rfl
  rw [hu]
  match i, h with
  | 0, _ => exact puts_eq (by omega) ⟨[(37, .int .i64 id), (38, .slice none 0 0), (39, .int .i64 0)], _, rfl, by simp⟩
  | 1, _ => exact puts_eq (by omega) ⟨[(37, .int .i64 id), (38, .slice none 0 0), (39, .int .i64 0), (40, .bool false)], _, rfl, by simp⟩
  | 2, _ => exact puts_eq (by omega) ⟨[(37, .int .i64 id), (38, .slice none 0 0), (39, .int .i64 0), (40, .bool false), (41, .bool false)], _, rfl, by simp⟩
  | 3, _ => exact puts_eq (by omega) ⟨[(37, .int .i64 id), (38, .slice none 0 0), (39, .int .i64 0), (40, .bool false), (41, .bool false), (42, .bool false)], _, rfl, by simp⟩
  | 4, _ => exact puts_eq (by omega) ⟨[(37, .int .i64 id), (38, .slice none 0 0), (39, .int .i64 0), (40, .bool false), (41, .bool false), (42, .bool false), (43, .bool false)], _, rfl, by simp⟩
  | 5, _ => exact puts_eq (by omega) ⟨[(37, .int .i64 id), (38, .slice none 0 0), (39, .int .i64 0), (40, .bool false), (41, .bool false), (42, .bool false), (43, .bool false), (44, .bool false)], _, rfl, by simp⟩
  | 6, _ => exact puts_eq (by omega) ⟨[(37, .int .i64 id), (38, .slice none 0 0), (39, .int .i64 0), (40, .bool false), (41, .bool false), (42, .bool false), (43, .bool false), (44, .bool false), (45, .bool false)], _, rfl, by simp⟩
  | 7, _ => exact puts_eq (by omega) ⟨[(37, .int .i64 id), (38, .slice none 0 0), (39, .int .i64 0), (40, .bool false), (41, .bool false), (42, .bool false), (43, .bool false), (44, .bool false), (45, .bool false), (46, .bool false)], _, rfl, by simp⟩
  | 8, _ => exact puts_eq (by omega) ⟨[(37, .int .i64 id), (38, .slice none 0 0), (39, .int .i64 0), (40, .bool false), (41, .bool false), (42, .bool false), (43, .bool false), (44, .bool false), (45, .bool false), (46, .bool false), (47, .bool false)], _, rfl, by simp⟩
  | 9, _ => exact puts_eq (by omega) ⟨[(37, .int .i64 id), (38, .slice none 0 0), (39, .int .i64 0), (40, .bool false), (41, .bool false), (42, .bool false), (43, .bool false), (44, .bool false), (45, .bool false), (46, .bool false), (47, .bool false), (48, .bool false)], _, rfl, by simp⟩
  | 10, _ => exact puts_eq (by omega) ⟨[(37, .int .i64 id), (38, .slice none 0 0), (39, .int .i64 0), (40, .bool false), (41, .bool false), (42, .bool false), (43, .bool false), (44, .bool false), (45, .bool false), (46, .bool false), (47, .bool false), (48, .bool false), (49, .bool false)], _, rfl, by simp⟩
  | 11, _ => exact puts_eq (by omega) ⟨[(37, .int .i64 id), (38, .slice none 0 0), (39, .int .i64 0), (40, .bool false), (41, .bool false), (42, .bool false), (43, .bool false), (44, .bool false), (45, .bool false), (46, .bool false), (47, .bool false), (48, .bool false), (49, .bool false), (50, .bool false)], _, rfl, by simp⟩
  | 12, _ => exact puts_eq (by omega) ⟨[(37, .int .i64 id), (38, .slice none 0 0), (39, .int .i64 0), (40, .bool false), (41, .bool false), (42, .bool false), (43, .bool false), (44, .bool false), (45, .bool false), (46, .bool false), (47, .bool false), (48, .bool false), (49, .bool false), (50, .bool false), (51, .bool false)], _, rfl, by simp⟩
  | 13, _ => exact puts_eq (by omega) ⟨[(37, .int .i64 id), (38, .slice none 0 0), (39, .int .i64 0), (40, .bool false), (41, .bool false), (42, .bool false), (43, .bool false), (44, .bool false), (45, .bool false), (46, .bool false), (47, .bool false), (48, .bool false), (49, .bool false), (50, .bool false), (51, .bool false), (52, .bool false)], _, rfl, by simp⟩
  | 14, _ => exact puts_eq (by omega) ⟨[(37, .int .i64 id), (38, .slice none 0 0), (39, .int .i64 0), (40, .bool false), (41, .bool false), (42, .bool false), (43, .bool false), (44, .bool false), (45, .bool false), (46, .bool false), (47, .bool false), (48, .bool false), (49, .bool false), (50, .bool false), (51, .bool false), (52, .bool false), (53, .bool false)], _, rfl, by simp⟩
  | 15, _ => exact puts_eq (by omega) ⟨[(37, .int .i64 id), (38, .slice none 0 0), (39, .int .i64 0), (40, .bool false), (41, .bool false), (42, .bool false), (43, .bool false), (44, .bool false), (45, .bool false), (46, .bool false), (47, .bool false), (48, .bool false), (49, .bool false), (50, .bool false), (51, .bool false), (52, .bool false), (53, .bool false), (54, .bool false)], _, rfl, by simp⟩
  | k + 16, h => omega
set_option maxRecDepth 100000 in
set_option maxHeartbeats 2000000 in
theorem begin_any (P : Nat → Prop) (tb : Nat) (s : St) (id : Int) (er : Addr) (w : World) (hT : TabAt w P tb s) (hE : ErrAt w er) (hPe : P 0) (hG : Fx.Good s) :
    Calls Tryz.prog 56 #[adr tb, .int .i64 id] w (BeginPost P tb s id er w) := by
  have HEN := Lib.hid (end_any P tb s er w hT hE hG)
  have HE := Lib.hid hE
  have HG := Lib.hid hG
  clear hT hE hG
  obtain ⟨oo, ho⟩ : ∃ oo, oo = endO s := ⟨_, rfl⟩
  cases oo with
  | none =>
    have hB : beginO s id = none := by unfold beginO; rw [← ho]
    have HB := Lib.hid (And.intro hB ho)
    clear hB ho
    go_enter Tryz.func56, Tryz.ntmps56
    go_wp2_with fail
    refine HEN.out.mono ?_
    rintro e w1 ⟨rfl, hk, _⟩
    have HK := Lib.hid hk
    clear hk
    rw [← HB.out.2]
    unfold ends
    simp only [Option.isSome_none]
    go_wp2_with fail
    exact ⟨rfl, begin_stop HB.out.1 rfl HK.out⟩
  | some s1 =>
    have HO := Lib.hid ho
    clear ho
    go_enter Tryz.func56, Tryz.ntmps56
    go_wp2_with fail
    refine HEN.out.mono ?_
    rintro e w1 ⟨rfl, hk, hT1⟩
    have HT1 := Lib.hid (hT1 s1 HO.out.symm)
    have HK := Lib.hid hk
    have HE1 : Hid (ErrAt w1 er) := Lib.hid ⟨(hk.cell (p := ⟨0, 0, none⟩) hPe).trans HE.out.cell⟩
    clear hk hT1
    rw [← HO.out]
    unfold ends
    simp only [Option.isSome_some]
    obtain ⟨aF, cF, p37, p35, q1, q2, q3, q4, q5⟩ := HT1.out.cells_
    have ho1 : s1.o = s.o := (HG.out.end_ HO.out.symm).2.2.1
    rw [ho1] at p37
    obtain ⟨M, hM⟩ : ∃ M, M = s1.d.length := ⟨_, rfl⟩
    rw [← hM] at p35 q1
    unfold maxLen at q2
    have HM := Lib.hid (And.intro hM ho1)
    clear hM ho1
    by_cases hl : M < 60
    · have hl2 : (M : Int) < 60 := by omega
      by_cases hid : s.o.id < id
      · by_cases hid2 : id ≤ 1000000
        · obtain ⟨o37, o38, o39⟩ := And.intro (q4 37) (And.intro (q4 38) (q4 39))
          go_wp2_with fail
          refine (require_any true er _ HE1.out).mono ?_
          rintro e w' ⟨rfl, rfl⟩
          unfold ends
          go_wp2_with fail
          refine (require_any true er _ HE1.out).mono ?_
          rintro e w' ⟨rfl, rfl⟩
          unfold ends
          obtain ⟨x38, hx38⟩ := q5 38 (by omega)
          obtain ⟨x39, hx39⟩ := q5 39 (by omega)
          obtain ⟨x40, hx40⟩ := q5 40 (by omega)
          obtain ⟨x41, hx41⟩ := q5 41 (by omega)
          obtain ⟨x42, hx42⟩ := q5 42 (by omega)
          obtain ⟨x43, hx43⟩ := q5 43 (by omega)
          obtain ⟨x44, hx44⟩ := q5 44 (by omega)
          obtain ⟨x45, hx45⟩ := q5 45 (by omega)
          obtain ⟨x46, hx46⟩ := q5 46 (by omega)
          obtain ⟨x47, hx47⟩ := q5 47 (by omega)
          obtain ⟨x48, hx48⟩ := q5 48 (by omega)
          obtain ⟨x49, hx49⟩ := q5 49 (by omega)
          obtain ⟨x50, hx50⟩ := q5 50 (by omega)
          obtain ⟨x51, hx51⟩ := q5 51 (by omega)
          obtain ⟨x52, hx52⟩ := q5 52 (by omega)
          obtain ⟨x53, hx53⟩ := q5 53 (by omega)
          obtain ⟨x54, hx54⟩ := q5 54 (by omega)
          obtain ⟨x55, hx55⟩ := q5 55 (by omega)
          go_wp2_with fail
          go_end0
          have hb : beginO s id = some ⟨s1.d, ⟨id, []⟩⟩ := by
            unfold beginO; rw [← HO.out]; simp only
            rw [if_pos ⟨by have := HM.out.1; omega, hid, hid2⟩]
          refine ⟨by rw [hb]; rfl, HK.out.trans (stores_kept (l := fresh id) (by obtain ⟨cs, mb, b1, b2, c, b3, vF, vs, hC⟩ := HT1.out; exact hC.pT)), fun s2 h2 => ?_⟩
          rw [hb] at h2
          cases h2
          exact begin_mem id HT1.out
        · have hd : decide (id ≤ 1000000) = false := decide_eq_false hid2
          have hb : beginO s id = none := by
            unfold beginO; rw [← HO.out]; simp only
            rw [if_neg (by omega)]
          go_wp2_with fail
          refine (require_any true er _ HE1.out).mono ?_
          rintro e w' ⟨rfl, rfl⟩
          unfold ends
          go_wp2_with fail
          refine (require_any false er _ HE1.out).mono ?_
          rintro e w' ⟨rfl, rfl⟩
          unfold ends
          go_wp2_with fail
          exact ⟨rfl, begin_stop hb rfl HK.out⟩
      · have hd : decide (s.o.id < id) = false := decide_eq_false hid
        have hb : beginO s id = none := by
          unfold beginO; rw [← HO.out]; simp only
          rw [if_neg (by omega)]
        go_wp2_with fail
        refine (require_any true er _ HE1.out).mono ?_
        rintro e w' ⟨rfl, rfl⟩
        unfold ends
        go_wp2_with fail
        refine (require_any false er _ HE1.out).mono ?_
        rintro e w' ⟨rfl, rfl⟩
        unfold ends
        go_wp2_with fail
        exact ⟨rfl, begin_stop hb rfl HK.out⟩
    · have hd : decide ((M : Int) < 60) = false := decide_eq_false (by omega)
      have hb : beginO s id = none := by
        unfold beginO; rw [← HO.out]; simp only
        rw [if_neg (by have := HM.out.1; omega)]
      go_wp2_with fail
      refine (require_any false er _ HE1.out).mono ?_
      rintro e w' ⟨rfl, rfl⟩
      unfold ends
      go_wp2_with fail
      exact ⟨rfl, begin_stop hb rfl HK.out⟩
end Go.Proofs.YtcnokccgdiodlaaGreatDoor
