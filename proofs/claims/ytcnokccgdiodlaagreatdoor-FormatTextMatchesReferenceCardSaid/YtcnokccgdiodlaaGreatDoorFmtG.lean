/- add: a field is put behind the open format's fields, or the reading stops. Conditions: the table lies there; the field's numbers are ints. -/
import Derived.Test.YtcnokccgdiodlaaGreatDoorFmtF
import Derived.RegionTactic
import Derived.ChangeAlike
import Derived.BigRegion
import Derived.Deep.RegionHeld3
import Derived.Deep.RegionWith
namespace Go.Proofs.YtcnokccgdiodlaaGreatDoor
open Go.RowKit Fx Go.Sort

/-- What add ends in. -/
def AddPost (P : Nat → Prop) (tb : Nat) (s : St) (f : Fld) (er : Addr) (w : World) (e : Ending) (w' : World) : Prop :=
  e = ends er (addB s f) ∧ Kept P w w' ∧ (addB s f = true → TabAt w' P tb ⟨s.d, ⟨s.o.id, s.o.fs ++ [f]⟩⟩)
theorem TabAt.cells_ {w : World} {P : Nat → Prop} {tb : Nat} {s : St} (h : TabAt w P tb s) : ∃ a c, w.cell? ⟨tb, 37, none⟩ = some (.int .i64 s.o.id) ∧ w.cell? ⟨tb, 38, none⟩ = some (.slice a s.o.fs.length c) ∧ w.cell? ⟨tb, 39, none⟩ = some (.int .i64 (ls (lm s.d) s.o.fs)) ∧
    s.o.fs.length ≤ c ∧ c ≤ maxLen ∧ tb < w.heap.size ∧ (∀ i, w.frozen? ⟨tb, i, none⟩ = false) ∧ ∀ k, P k → k < w.heap.size := by
  obtain ⟨cs, mb, b1, b2, c, b3, vF, vs, vO, hC, hO⟩ := h
  obtain ⟨a, c, rfl, h1, h2⟩ := own_slice hO.rowO
  exact ⟨a, c, (hC.blk.cell 37).trans hC.cI, (hC.blk.cell 38).trans hO.cO, (hC.blk.cell 39).trans hO.cL, h1, h2, hC.blk.lt, fun i => hC.blk.frozen i, hC.pin⟩
theorem add_stop {P : Nat → Prop} {tb : Nat} {s : St} {f : Fld} {er : Addr} {w : World} {e : Ending} {w' : World} (h : addB s f = false) (he : e = ends er false) (hk : Kept P w w') : AddPost P tb s f er w e w' :=
  ⟨by rw [h]; exact he, hk, fun h2 => by rw [h] at h2; cases h2⟩

theorem add_id (P : Nat → Prop) (tb : Nat) (s : St) (f : Fld) (er : Addr) (w : World) (hT : TabAt w P tb s) (hE : ErrAt w er) (h0 : ¬ 0 < s.o.id) :
    Calls Tryz.prog 57 #[adr tb, fldV f] w (AddPost P tb s f er w) := by
  obtain ⟨a, c, q1, q2, q3, q4, q5, q6, q7, q8⟩ := hT.cells_
  have HB : Hid (addB s f = false) := Lib.hid (by unfold addB; rw [decide_eq_false h0]; rfl)
  have HK : Hid (Kept P w (w.alloc (.cells #[.int .i64 f.kind, .int .i64 f.n, .int .i64 f.frm, .string f.text] 56))) := Lib.hid (Kept.of_below (bx _) q8)
  have HE := Lib.hid (hE.below (bx (.cells #[.int .i64 f.kind, .int .i64 f.n, .int .i64 f.frm, .string f.text] 56)))
  have d0 : decide (0 < s.o.id) = false := decide_eq_false h0
  clear hT hE q2 q3 q4 q5 q7 q8
  go_enter Tryz.func57, Tryz.ntmps57
  go_wp2_with fail
  refine (require_any false er _ HE.out).mono ?_
  rintro e w' ⟨rfl, rfl⟩
  unfold ends
  go_wp2_with fail
  exact ⟨rfl, add_stop HB.out rfl HK.out⟩
theorem add_full (P : Nat → Prop) (tb : Nat) (s : St) (f : Fld) (er : Addr) (w : World) (hT : TabAt w P tb s) (hE : ErrAt w er) (h0 : 0 < s.o.id) (h1 : ¬ s.o.fs.length < 16) :
    Calls Tryz.prog 57 #[adr tb, fldV f] w (AddPost P tb s f er w) := by
  obtain ⟨a, c, q1, q2, q3, q4, q5, q6, q7, q8⟩ := hT.cells_
  have HB : Hid (addB s f = false) := Lib.hid (by unfold addB; rw [decide_eq_true h0, decide_eq_false h1]; rfl)
  have HK : Hid (Kept P w (w.alloc (.cells #[.int .i64 f.kind, .int .i64 f.n, .int .i64 f.frm, .string f.text] 56))) := Lib.hid (Kept.of_below (bx _) q8)
  have HE := Lib.hid (hE.below (bx (.cells #[.int .i64 f.kind, .int .i64 f.n, .int .i64 f.frm, .string f.text] 56)))
  obtain ⟨L, hL⟩ : ∃ L, L = s.o.fs.length := ⟨_, rfl⟩
  rw [← hL] at q2 q4 h1
  have d1 : decide ((L : Int) < 16) = false := decide_eq_false (by omega)
  unfold maxLen at q5
  clear hT hE q3 q7 q8 hL h1
  go_enter Tryz.func57, Tryz.ntmps57
  go_wp2_with fail
  refine (require_any false er _ HE.out).mono ?_
  rintro e w' ⟨rfl, rfl⟩
  unfold ends
  go_wp2_with fail
  exact ⟨rfl, add_stop HB.out rfl HK.out⟩
theorem right_false {m : List (Int × Int)} {fs : List Fld} {f : Fld} (h : ¬ (1 ≤ f.kind ∧ f.kind ≤ 6)) : Fx.right m fs f = false := by
  cases hr : Fx.right m fs f with
  | false => rfl
  | true => exact absurd (right_kind hr) h
theorem addB_right {s : St} {f : Fld} (h : Fx.right (lm s.d) s.o.fs f = false) : addB s f = false := by
  unfold addB; rw [h]; simp
set_option maxHeartbeats 1000000 in
theorem add_kind (P : Nat → Prop) (tb : Nat) (s : St) (f : Fld) (er : Addr) (w : World) (hT : TabAt w P tb s) (hE : ErrAt w er) (h0 : 0 < s.o.id) (h1 : s.o.fs.length < 16) (hk : ¬ (1 ≤ f.kind ∧ f.kind ≤ 6)) :
    Calls Tryz.prog 57 #[adr tb, fldV f] w (AddPost P tb s f er w) := by
  obtain ⟨a, c, q1, q2, q3, q4, q5, q6, q7, q8⟩ := hT.cells_
  have HB : Hid (addB s f = false) := Lib.hid (addB_right (right_false hk))
  have HK : Hid (Kept P w (w.alloc (.cells #[.int .i64 f.kind, .int .i64 f.n, .int .i64 f.frm, .string f.text] 56))) := Lib.hid (Kept.of_below (bx _) q8)
  have HE := Lib.hid (hE.below (bx (.cells #[.int .i64 f.kind, .int .i64 f.n, .int .i64 f.frm, .string f.text] 56)))
  obtain ⟨L, hL⟩ : ∃ L, L = s.o.fs.length := ⟨_, rfl⟩
  rw [← hL] at q2 q4 h1
  have d1 : (L : Int) < 16 := by omega
  unfold maxLen at q5
  clear hT hE q3 q7 q8 hL
  by_cases hk1 : 1 ≤ f.kind
  · have d2 : decide (f.kind ≤ 6) = false := decide_eq_false (by omega)
    clear hk
    go_enter Tryz.func57, Tryz.ntmps57
    go_wp2_with fail
    refine (require_any true er _ HE.out).mono ?_
    rintro e w' ⟨rfl, rfl⟩
    unfold ends
    go_wp2_with fail
    refine (require_any false er _ HE.out).mono ?_
    rintro e w' ⟨rfl, rfl⟩
    unfold ends
    go_wp2_with fail
    exact ⟨rfl, add_stop HB.out rfl HK.out⟩
  · have d2 : decide (1 ≤ f.kind) = false := decide_eq_false hk1
    clear hk
    go_enter Tryz.func57, Tryz.ntmps57
    go_wp2_with fail
    refine (require_any true er _ HE.out).mono ?_
    rintro e w' ⟨rfl, rfl⟩
    unfold ends
    go_wp2_with fail
    refine (require_any false er _ HE.out).mono ?_
    rintro e w' ⟨rfl, rfl⟩
    unfold ends
    go_wp2_with fail
    exact ⟨rfl, add_stop HB.out rfl HK.out⟩
end Go.Proofs.YtcnokccgdiodlaaGreatDoor
