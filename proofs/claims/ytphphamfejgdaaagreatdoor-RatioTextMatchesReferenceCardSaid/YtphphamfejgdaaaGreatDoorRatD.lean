/- What calculate and answer give of a function that returns a fraction, and of one that panics with the error of 'no result'. Condition: the variable of the error holds a pointer. -/
import Derived.Test.YtphphamfejgdaaaGreatDoorRatC
import Derived.Tactics
import Derived.Tactics2
import Derived.Defers
import Derived.Recover
import Derived.Laws.Pointers
namespace Go.Proofs.YtphphamfejgdaaaGreatDoor
open Go.RowKit

/-- The error as a value. -/
abbrev errV (a : Addr) : Value := .iface 130 (.pointer (some a))

theorem catch_panicking (p a : Addr) (x pv : Value) (u : TypeId) (older : List PanicEntry) (w : World) (hc : w.cell? p = some x) (hz : w.frozen? p = false) (hE : ErrAt w a) :
    CallsD Tryz.prog 71 #[.pointer (some p)] (.panicking ({ v := .iface u pv, recovered := false } :: older)) w fun e u' w' =>
      e = .returned (.tuple #[]) ∧ u' = .panicking ({ v := .iface u pv, recovered := true } :: older) ∧ w' = w.setCell p (errV a) := by
  have hE0 := hE.cell
  refine callsD_of_wpS Tryz.func71 rfl fun c₀ cs hu => ?_
  apply wpS_seq
  apply wpS_region
  simp [wpOpsS, go_sem, recoverD, hu, Tryz.ntmps71, Exit.thenS]
  refine wpS_cond (t := true) (by simp [Act.eval, Array.replicate]) ?_
  simp only [if_true]
  apply wpS_region
  simp [wpOpsS, go_sem, hc, hz, hE0, bodyPostS, results, Tryz.results71]

theorem catch_idle (p : Addr) (w : World) :
    CallsD Tryz.prog 71 #[.pointer (some p)] .returning w fun e u' w' => e = .returned (.tuple #[]) ∧ u' = .returning ∧ w' = w := by
  refine callsD_of_wpS Tryz.func71 rfl fun c₀ cs hu => ?_
  apply wpS_seq
  apply wpS_region
  simp [wpOpsS, go_sem, recoverD, hu, Tryz.ntmps71, Exit.thenS]
  refine wpS_cond (t := false) (by simp [Act.eval, Array.replicate]) ?_
  simp only [Bool.false_eq_true, if_false]
  refine wpS_of_wp (wp_skip ?_)
  cases c₀
  simp_all [bodyPostS, results, Tryz.results71]

/-- A function that has a body is entered. -/
def Enters (fn : FuncId) : Prop := ∀ (args : Array Value) (w : World), (callFunc fn args).run Tryz.prog w = .ok (.enter fn args) w

set_option maxRecDepth 20000 in
theorem calc_ok (fn : FuncId) (cap : Array Value) (x y : Int) (w : World) (hcall : Enters fn)
    (hf : ∀ w1, Below w.heap.size w w1 → Calls Tryz.prog fn cap w1 fun e w2 => e = .returned (frac x y) ∧ Below w1.heap.size w1 w2) :
    Calls Tryz.prog 60 #[.func (.func fn) #[] cap] w fun e w' => e = .returned (.tuple #[frac x y, .nilIface]) ∧ Below w.heap.size w w' := by
  have HF := Lib.hid hf
  clear hf
  unfold Enters at hcall
  have hmf : ∀ (fn : Fn) (first cap : Array Value) (w : World), (Instr.makeFunc fn first cap).run Tryz.prog w = .ok (.func fn first cap) w := fun _ _ _ _ => rfl
  go_enter_defers Tryz.func60, Tryz.ntmps60
  go_wp2_with fail
  have hb0 : Below w.heap.size w ((w.alloc (Obj.cells #[Value.int IntKind.i64 0, Value.int IntKind.i64 0] 25)).alloc (Obj.cells #[Value.nilIface] 57)) := ((Below.refl _ _).alloc (Nat.le_refl _) _).alloc (by simp) _
  refine (HF.out _ hb0).mono ?_
  rintro e w2 ⟨rfl, hB⟩
  have hB2 := hb0.trans (hB.mono (by simp; omega))
  obtain ⟨hc, hz⟩ := bcell hB
  have hc0 : w2.cell? ⟨w.heap.size, 0, none⟩ = some (.int .i64 0) := by rw [hc _ _ (by first | (simp; done) | (simp; omega))]; simp [go_sem]
  have hc1 : w2.cell? ⟨w.heap.size, 1, none⟩ = some (.int .i64 0) := by rw [hc _ _ (by first | (simp; done) | (simp; omega))]; simp [go_sem]
  have hc2 : w2.cell? ⟨w.heap.size + 1, 0, none⟩ = some .nilIface := by rw [hc _ _ (by first | (simp; done) | (simp; omega))]; simp [go_sem]
  have hz0 : w2.frozen? ⟨w.heap.size, 0, none⟩ = false := by rw [hz _ _ (by first | (simp; done) | (simp; omega))]; simp [go_sem]
  have hz1 : w2.frozen? ⟨w.heap.size, 1, none⟩ = false := by rw [hz _ _ (by first | (simp; done) | (simp; omega))]; simp [go_sem]
  have hz2 : w2.frozen? ⟨w.heap.size + 1, 0, none⟩ = false := by rw [hz _ _ (by first | (simp; done) | (simp; omega))]; simp [go_sem]
  clear hc hz
  go_wp2_with fail
  refine leaves_cons (f := 71) (args := #[.pointer (some ⟨w.heap.size + 1, 0, none⟩)]) (by simp) (by simp [go_sem]) ?_
  refine (catch_idle ⟨w.heap.size + 1, 0, none⟩ _).mono ?_
  rintro e u' w'' ⟨rfl, rfl, rfl⟩
  simp [Leaves, settle, results, Tryz.results60, go_sem, hc0, hc1, hc2]
  exact ((hB2.setCell (by simp) _).setCell (by simp) _).setCell (by simp) _

set_option maxRecDepth 20000 in
theorem calc_no (fn : FuncId) (cap : Array Value) (a : Addr) (w : World) (hcall : Enters fn) (hE : ErrAt w a)
    (hf : ∀ w1, Below w.heap.size w w1 → Calls Tryz.prog fn cap w1 fun e w2 => e = .panicked [{ v := errV a, recovered := false }] ∧ Below w1.heap.size w1 w2) :
    Calls Tryz.prog 60 #[.func (.func fn) #[] cap] w fun e w' => e = .returned (.tuple #[frac 0 0, errV a]) ∧ Below w.heap.size w w' := by
  have HF := Lib.hid hf
  clear hf
  unfold Enters at hcall
  have hmf : ∀ (fn : Fn) (first cap : Array Value) (w : World), (Instr.makeFunc fn first cap).run Tryz.prog w = .ok (.func fn first cap) w := fun _ _ _ _ => rfl
  go_enter_defers Tryz.func60, Tryz.ntmps60
  go_wp2_with fail
  have hb0 : Below w.heap.size w ((w.alloc (Obj.cells #[Value.int IntKind.i64 0, Value.int IntKind.i64 0] 25)).alloc (Obj.cells #[Value.nilIface] 57)) := ((Below.refl _ _).alloc (Nat.le_refl _) _).alloc (by simp) _
  refine (HF.out _ hb0).mono ?_
  rintro e w2 ⟨rfl, hB⟩
  have hB2 := hb0.trans (hB.mono (by simp; omega))
  obtain ⟨hc, hz⟩ := bcell hB
  have hc0 : w2.cell? ⟨w.heap.size, 0, none⟩ = some (.int .i64 0) := by rw [hc _ _ (by first | (simp; done) | (simp; omega))]; simp [go_sem]
  have hc1 : w2.cell? ⟨w.heap.size, 1, none⟩ = some (.int .i64 0) := by rw [hc _ _ (by first | (simp; done) | (simp; omega))]; simp [go_sem]
  have hc2 : w2.cell? ⟨w.heap.size + 1, 0, none⟩ = some .nilIface := by rw [hc _ _ (by first | (simp; done) | (simp; omega))]; simp [go_sem]
  have hz2 : w2.frozen? ⟨w.heap.size + 1, 0, none⟩ = false := by rw [hz _ _ (by first | (simp; done) | (simp; omega))]; simp [go_sem]
  clear hc hz
  go_wp2_with fail
  refine leaves_cons (f := 71) (args := #[.pointer (some ⟨w.heap.size + 1, 0, none⟩)]) (by simp) (by simp [go_sem]) ?_
  refine (catch_panicking ⟨w.heap.size + 1, 0, none⟩ a _ _ _ _ _ hc2 hz2 (hE.below hB2)).mono ?_
  rintro e u' w'' ⟨rfl, rfl, rfl⟩
  simp [Leaves, settle, results, Tryz.results60, go_sem, hc0, hc1, hc2]
  exact hB2.setCell (by simp) _

set_option maxRecDepth 20000 in
theorem answer_ok (fn : FuncId) (cap : Array Value) (a : Addr) (x y : Int) (w : World) (hcall : Enters fn) (hE : ErrAt w a)
    (hf : ∀ w1, Below w.heap.size w w1 → Calls Tryz.prog fn cap w1 fun e w2 => e = .returned (frac x y) ∧ Below w1.heap.size w1 w2) :
    Calls Tryz.prog 33 #[.func (.func fn) #[] cap] w fun e w' => e = .returned (.tuple #[frac x y, .int .i64 0]) ∧ Below w.heap.size w w' := by
  have HF := Lib.hid hf
  have HC := Lib.hid hcall
  have HE := Lib.hid hE
  clear hf hcall hE
  go_enter Tryz.func33, Tryz.ntmps33
  go_wp2_with fail
  have hb0 : Below w.heap.size w (w.alloc (Obj.cells #[Value.int IntKind.i64 0, Value.int IntKind.i64 0] 25)) := (Below.refl _ _).alloc (Nat.le_refl _) _
  refine (calc_ok fn cap x y _ HC.out fun w1 h1 => HF.out w1 (hb0.trans (h1.mono (by simp)))).mono ?_
  rintro e w2 ⟨rfl, hB⟩
  have hB2 := hb0.trans (hB.mono (by simp))
  have hE2 := (HE.out.below hB2).cell
  have hlt := (HE.out.below hB2).lt
  obtain ⟨hc, hz⟩ := bcell hB
  have hc0 : w2.cell? ⟨w.heap.size, 0, none⟩ = some (.int .i64 0) := by rw [hc _ _ (by first | (simp; done) | (simp; omega))]; simp [go_sem]
  have hc1 : w2.cell? ⟨w.heap.size, 1, none⟩ = some (.int .i64 0) := by rw [hc _ _ (by first | (simp; done) | (simp; omega))]; simp [go_sem]
  have hz0 : w2.frozen? ⟨w.heap.size, 0, none⟩ = false := by rw [hz _ _ (by first | (simp; done) | (simp; omega))]; simp [go_sem]
  have hz1 : w2.frozen? ⟨w.heap.size, 1, none⟩ = false := by rw [hz _ _ (by first | (simp; done) | (simp; omega))]; simp [go_sem]
  have hsz : w.heap.size < w2.heap.size := by have := hB.size; simp at this; omega
  clear hc hz
  go_wp2_with fail
  refine (is_nil _ _).mono ?_; rintro e w' ⟨rfl, rfl⟩
  go_wp2_with fail
  refine bodyPost_ret (v := .tuple #[frac x y, .int .i64 0]) (by simp [results, Tryz.results33, go_sem, hc0, hc1, hsz]) rfl ⟨rfl, ?_⟩
  exact ((hB2.setCell (Nat.le_refl _) _).setCell (Nat.le_refl _) _).alloc (by simpa using hB2.size) _

set_option maxRecDepth 20000 in
theorem answer_no (fn : FuncId) (cap : Array Value) (a : Addr) (w : World) (hcall : Enters fn) (hE : ErrAt w a)
    (hf : ∀ w1, Below w.heap.size w w1 → Calls Tryz.prog fn cap w1 fun e w2 => e = .panicked [{ v := errV a, recovered := false }] ∧ Below w1.heap.size w1 w2) :
    Calls Tryz.prog 33 #[.func (.func fn) #[] cap] w fun e w' => e = .returned (.tuple #[frac 0 0, .int .i64 30]) ∧ Below w.heap.size w w' := by
  have HF := Lib.hid hf
  have HC := Lib.hid hcall
  have HE := Lib.hid hE
  clear hf hcall hE
  go_enter Tryz.func33, Tryz.ntmps33
  go_wp2_with fail
  have hb0 : Below w.heap.size w (w.alloc (Obj.cells #[Value.int IntKind.i64 0, Value.int IntKind.i64 0] 25)) := (Below.refl _ _).alloc (Nat.le_refl _) _
  refine (calc_no fn cap a _ HC.out (HE.out.below hb0) fun w1 h1 => HF.out w1 (hb0.trans (h1.mono (by simp)))).mono ?_
  rintro e w2 ⟨rfl, hB⟩
  have hB2 := hb0.trans (hB.mono (by simp))
  have hE2 := (HE.out.below hB2).cell
  have hlt := (HE.out.below hB2).lt
  obtain ⟨hc, hz⟩ := bcell hB
  have hc0 : w2.cell? ⟨w.heap.size, 0, none⟩ = some (.int .i64 0) := by rw [hc _ _ (by first | (simp; done) | (simp; omega))]; simp [go_sem]
  have hc1 : w2.cell? ⟨w.heap.size, 1, none⟩ = some (.int .i64 0) := by rw [hc _ _ (by first | (simp; done) | (simp; omega))]; simp [go_sem]
  have hz0 : w2.frozen? ⟨w.heap.size, 0, none⟩ = false := by rw [hz _ _ (by first | (simp; done) | (simp; omega))]; simp [go_sem]
  have hz1 : w2.frozen? ⟨w.heap.size, 1, none⟩ = false := by rw [hz _ _ (by first | (simp; done) | (simp; omega))]; simp [go_sem]
  have hsz : w.heap.size < w2.heap.size := by have := hB.size; simp at this; omega
  clear hc hz
  go_wp2_with fail
  refine (is_same _ _).mono ?_; rintro e w' ⟨rfl, rfl⟩
  go_wp2_with fail
  refine bodyPost_ret (v := .tuple #[frac 0 0, .int .i64 30]) (by simp [results, Tryz.results33, go_sem, hc0, hc1, hsz]) rfl ⟨rfl, ?_⟩
  exact ((hB2.setCell (Nat.le_refl _) _).setCell (Nat.le_refl _) _).alloc (by simpa using hB2.size) _
end Go.Proofs.YtphphamfejgdaaaGreatDoor
