/- What calculate and answer give of a function that returns an int or a string, and of one that panics with the error of 'no result'. Condition: the variable of the error holds a pointer. (Written by gen_e.py.) -/
import Derived.Test.YtphphamfejgdaaaGreatDoorRatD
namespace Go.Proofs.YtphphamfejgdaaaGreatDoor
open Go.RowKit

theorem catch_panicking_int (p a : Addr) (x pv : Value) (u : TypeId) (older : List PanicEntry) (w : World) (hc : w.cell? p = some x) (hz : w.frozen? p = false) (hE : ErrAt w a) :
    CallsD Tryz.prog 74 #[.pointer (some p)] (.panicking ({ v := .iface u pv, recovered := false } :: older)) w fun e u' w' =>
      e = .returned (.tuple #[]) ∧ u' = .panicking ({ v := .iface u pv, recovered := true } :: older) ∧ w' = w.setCell p (errV a) := by
  have hE0 := hE.cell
  refine callsD_of_wpS Tryz.func74 rfl fun c₀ cs hu => ?_
  apply wpS_seq
  apply wpS_region
  simp [wpOpsS, go_sem, recoverD, hu, Tryz.ntmps74, Exit.thenS]
  refine wpS_cond (t := true) (by simp [Act.eval, Array.replicate]) ?_
  simp only [if_true]
  apply wpS_region
  simp [wpOpsS, go_sem, hc, hz, hE0, bodyPostS, results, Tryz.results74]

theorem catch_idle_int (p : Addr) (w : World) :
    CallsD Tryz.prog 74 #[.pointer (some p)] .returning w fun e u' w' => e = .returned (.tuple #[]) ∧ u' = .returning ∧ w' = w := by
  refine callsD_of_wpS Tryz.func74 rfl fun c₀ cs hu => ?_
  apply wpS_seq
  apply wpS_region
  simp [wpOpsS, go_sem, recoverD, hu, Tryz.ntmps74, Exit.thenS]
  refine wpS_cond (t := false) (by simp [Act.eval, Array.replicate]) ?_
  simp only [Bool.false_eq_true, if_false]
  refine wpS_of_wp (wp_skip ?_)
  cases c₀
  simp_all [bodyPostS, results, Tryz.results74]

set_option maxRecDepth 20000 in
theorem calc_ok_int (fn : FuncId) (cap : Array Value) (x : Int) (w : World) (hcall : Enters fn)
    (hf : ∀ w1, Below w.heap.size w w1 → Calls Tryz.prog fn cap w1 fun e w2 => e = .returned (.int .i64 x) ∧ Below w1.heap.size w1 w2) :
    Calls Tryz.prog 64 #[.func (.func fn) #[] cap] w fun e w' => e = .returned (.tuple #[.int .i64 x, .nilIface]) ∧ Below w.heap.size w w' := by
  have HF := Lib.hid hf
  clear hf
  unfold Enters at hcall
  have hmf : ∀ (fn : Fn) (first cap : Array Value) (w : World), (Instr.makeFunc fn first cap).run Tryz.prog w = .ok (.func fn first cap) w := fun _ _ _ _ => rfl
  go_enter_defers Tryz.func64, Tryz.ntmps64
  go_wp2_with fail
  have hb0 : Below w.heap.size w (w.alloc (Obj.cells #[Value.nilIface] 57)) := (Below.refl _ _).alloc (Nat.le_refl _) _
  refine (HF.out _ hb0).mono ?_
  rintro e w2 ⟨rfl, hB⟩
  have hB2 := hb0.trans (hB.mono (by simp))
  obtain ⟨hc, hz⟩ := bcell hB
  have hc2 : w2.cell? ⟨w.heap.size, 0, none⟩ = some .nilIface := by rw [hc _ _ (by first | (simp; done) | (simp; omega))]; simp [go_sem]
  have hz2 : w2.frozen? ⟨w.heap.size, 0, none⟩ = false := by rw [hz _ _ (by first | (simp; done) | (simp; omega))]; simp [go_sem]
  clear hc hz
  go_wp2_with fail
  refine leaves_cons (f := 74) (args := #[.pointer (some ⟨w.heap.size, 0, none⟩)]) (by simp) (by simp [go_sem]) ?_
  refine (catch_idle_int ⟨w.heap.size, 0, none⟩ _).mono ?_
  rintro e u' w'' ⟨rfl, rfl, rfl⟩
  simp [Leaves, settle, results, Tryz.results64, go_sem, hc2]
  exact hB2.setCell (by simp) _

set_option maxRecDepth 20000 in
theorem calc_no_int (fn : FuncId) (cap : Array Value) (a : Addr) (w : World) (hcall : Enters fn) (hE : ErrAt w a)
    (hf : ∀ w1, Below w.heap.size w w1 → Calls Tryz.prog fn cap w1 fun e w2 => e = .panicked [{ v := errV a, recovered := false }] ∧ Below w1.heap.size w1 w2) :
    Calls Tryz.prog 64 #[.func (.func fn) #[] cap] w fun e w' => e = .returned (.tuple #[.int .i64 0, errV a]) ∧ Below w.heap.size w w' := by
  have HF := Lib.hid hf
  clear hf
  unfold Enters at hcall
  have hmf : ∀ (fn : Fn) (first cap : Array Value) (w : World), (Instr.makeFunc fn first cap).run Tryz.prog w = .ok (.func fn first cap) w := fun _ _ _ _ => rfl
  go_enter_defers Tryz.func64, Tryz.ntmps64
  go_wp2_with fail
  have hb0 : Below w.heap.size w (w.alloc (Obj.cells #[Value.nilIface] 57)) := (Below.refl _ _).alloc (Nat.le_refl _) _
  refine (HF.out _ hb0).mono ?_
  rintro e w2 ⟨rfl, hB⟩
  have hB2 := hb0.trans (hB.mono (by simp))
  obtain ⟨hc, hz⟩ := bcell hB
  have hc2 : w2.cell? ⟨w.heap.size, 0, none⟩ = some .nilIface := by rw [hc _ _ (by first | (simp; done) | (simp; omega))]; simp [go_sem]
  have hz2 : w2.frozen? ⟨w.heap.size, 0, none⟩ = false := by rw [hz _ _ (by first | (simp; done) | (simp; omega))]; simp [go_sem]
  clear hc hz
  go_wp2_with fail
  refine leaves_cons (f := 74) (args := #[.pointer (some ⟨w.heap.size, 0, none⟩)]) (by simp) (by simp [go_sem]) ?_
  refine (catch_panicking_int ⟨w.heap.size, 0, none⟩ a _ _ _ _ _ hc2 hz2 (hE.below hB2)).mono ?_
  rintro e u' w'' ⟨rfl, rfl, rfl⟩
  simp [Leaves, settle, results, Tryz.results64, go_sem, hc2]
  exact hB2.setCell (by simp) _

set_option maxRecDepth 20000 in
theorem answer_ok_int (fn : FuncId) (cap : Array Value) (a : Addr) (x : Int) (w : World) (hcall : Enters fn) (hE : ErrAt w a)
    (hf : ∀ w1, Below w.heap.size w w1 → Calls Tryz.prog fn cap w1 fun e w2 => e = .returned (.int .i64 x) ∧ Below w1.heap.size w1 w2) :
    Calls Tryz.prog 47 #[.func (.func fn) #[] cap] w fun e w' => e = .returned (.tuple #[.int .i64 x, .int .i64 0]) ∧ Below w.heap.size w w' := by
  have HF := Lib.hid hf
  have HC := Lib.hid hcall
  have HE := Lib.hid hE
  clear hf hcall hE
  go_enter Tryz.func47, Tryz.ntmps47
  go_wp2_with fail
  refine (calc_ok_int fn cap x _ HC.out HF.out).mono ?_
  rintro e w2 ⟨rfl, hB⟩
  have hE2 := (HE.out.below hB).cell
  have hlt := (HE.out.below hB).lt
  go_wp2_with fail
  refine (is_nil _ _).mono ?_; rintro e w' ⟨rfl, rfl⟩
  go_wp2_with fail
  go_ret2
  exact ⟨rfl, hB⟩

set_option maxRecDepth 20000 in
theorem answer_no_int (fn : FuncId) (cap : Array Value) (a : Addr) (w : World) (hcall : Enters fn) (hE : ErrAt w a)
    (hf : ∀ w1, Below w.heap.size w w1 → Calls Tryz.prog fn cap w1 fun e w2 => e = .panicked [{ v := errV a, recovered := false }] ∧ Below w1.heap.size w1 w2) :
    Calls Tryz.prog 47 #[.func (.func fn) #[] cap] w fun e w' => e = .returned (.tuple #[.int .i64 0, .int .i64 30]) ∧ Below w.heap.size w w' := by
  have HF := Lib.hid hf
  have HC := Lib.hid hcall
  have HE := Lib.hid hE
  clear hf hcall hE
  go_enter Tryz.func47, Tryz.ntmps47
  go_wp2_with fail
  refine (calc_no_int fn cap a _ HC.out HE.out HF.out).mono ?_
  rintro e w2 ⟨rfl, hB⟩
  have hE2 := (HE.out.below hB).cell
  have hlt := (HE.out.below hB).lt
  go_wp2_with fail
  refine (is_same _ _).mono ?_; rintro e w' ⟨rfl, rfl⟩
  go_wp2_with fail
  go_ret2
  exact ⟨rfl, hB⟩

theorem catch_panicking_str (p a : Addr) (x pv : Value) (u : TypeId) (older : List PanicEntry) (w : World) (hc : w.cell? p = some x) (hz : w.frozen? p = false) (hE : ErrAt w a) :
    CallsD Tryz.prog 76 #[.pointer (some p)] (.panicking ({ v := .iface u pv, recovered := false } :: older)) w fun e u' w' =>
      e = .returned (.tuple #[]) ∧ u' = .panicking ({ v := .iface u pv, recovered := true } :: older) ∧ w' = w.setCell p (errV a) := by
  have hE0 := hE.cell
  refine callsD_of_wpS Tryz.func76 rfl fun c₀ cs hu => ?_
  apply wpS_seq
  apply wpS_region
  simp [wpOpsS, go_sem, recoverD, hu, Tryz.ntmps76, Exit.thenS]
  refine wpS_cond (t := true) (by simp [Act.eval, Array.replicate]) ?_
  simp only [if_true]
  apply wpS_region
  simp [wpOpsS, go_sem, hc, hz, hE0, bodyPostS, results, Tryz.results76]

theorem catch_idle_str (p : Addr) (w : World) :
    CallsD Tryz.prog 76 #[.pointer (some p)] .returning w fun e u' w' => e = .returned (.tuple #[]) ∧ u' = .returning ∧ w' = w := by
  refine callsD_of_wpS Tryz.func76 rfl fun c₀ cs hu => ?_
  apply wpS_seq
  apply wpS_region
  simp [wpOpsS, go_sem, recoverD, hu, Tryz.ntmps76, Exit.thenS]
  refine wpS_cond (t := false) (by simp [Act.eval, Array.replicate]) ?_
  simp only [Bool.false_eq_true, if_false]
  refine wpS_of_wp (wp_skip ?_)
  cases c₀
  simp_all [bodyPostS, results, Tryz.results76]

set_option maxRecDepth 20000 in
theorem calc_ok_str (fn : FuncId) (cap : Array Value) (x : ByteArray) (w : World) (hcall : Enters fn)
    (hf : ∀ w1, Below w.heap.size w w1 → Calls Tryz.prog fn cap w1 fun e w2 => e = .returned (.string x) ∧ Below w1.heap.size w1 w2) :
    Calls Tryz.prog 66 #[.func (.func fn) #[] cap] w fun e w' => e = .returned (.tuple #[.string x, .nilIface]) ∧ Below w.heap.size w w' := by
  have HF := Lib.hid hf
  clear hf
  unfold Enters at hcall
  have hmf : ∀ (fn : Fn) (first cap : Array Value) (w : World), (Instr.makeFunc fn first cap).run Tryz.prog w = .ok (.func fn first cap) w := fun _ _ _ _ => rfl
  go_enter_defers Tryz.func66, Tryz.ntmps66
  go_wp2_with fail
  have hb0 : Below w.heap.size w (w.alloc (Obj.cells #[Value.nilIface] 57)) := (Below.refl _ _).alloc (Nat.le_refl _) _
  refine (HF.out _ hb0).mono ?_
  rintro e w2 ⟨rfl, hB⟩
  have hB2 := hb0.trans (hB.mono (by simp))
  obtain ⟨hc, hz⟩ := bcell hB
  have hc2 : w2.cell? ⟨w.heap.size, 0, none⟩ = some .nilIface := by rw [hc _ _ (by first | (simp; done) | (simp; omega))]; simp [go_sem]
  have hz2 : w2.frozen? ⟨w.heap.size, 0, none⟩ = false := by rw [hz _ _ (by first | (simp; done) | (simp; omega))]; simp [go_sem]
  clear hc hz
  go_wp2_with fail
  refine leaves_cons (f := 76) (args := #[.pointer (some ⟨w.heap.size, 0, none⟩)]) (by simp) (by simp [go_sem]) ?_
  refine (catch_idle_str ⟨w.heap.size, 0, none⟩ _).mono ?_
  rintro e u' w'' ⟨rfl, rfl, rfl⟩
  simp [Leaves, settle, results, Tryz.results66, go_sem, hc2]
  exact hB2.setCell (by simp) _

set_option maxRecDepth 20000 in
theorem calc_no_str (fn : FuncId) (cap : Array Value) (a : Addr) (w : World) (hcall : Enters fn) (hE : ErrAt w a)
    (hf : ∀ w1, Below w.heap.size w w1 → Calls Tryz.prog fn cap w1 fun e w2 => e = .panicked [{ v := errV a, recovered := false }] ∧ Below w1.heap.size w1 w2) :
    Calls Tryz.prog 66 #[.func (.func fn) #[] cap] w fun e w' => e = .returned (.tuple #[.string ⟨#[]⟩, errV a]) ∧ Below w.heap.size w w' := by
  have HF := Lib.hid hf
  clear hf
  unfold Enters at hcall
  have hmf : ∀ (fn : Fn) (first cap : Array Value) (w : World), (Instr.makeFunc fn first cap).run Tryz.prog w = .ok (.func fn first cap) w := fun _ _ _ _ => rfl
  go_enter_defers Tryz.func66, Tryz.ntmps66
  go_wp2_with fail
  have hb0 : Below w.heap.size w (w.alloc (Obj.cells #[Value.nilIface] 57)) := (Below.refl _ _).alloc (Nat.le_refl _) _
  refine (HF.out _ hb0).mono ?_
  rintro e w2 ⟨rfl, hB⟩
  have hB2 := hb0.trans (hB.mono (by simp))
  obtain ⟨hc, hz⟩ := bcell hB
  have hc2 : w2.cell? ⟨w.heap.size, 0, none⟩ = some .nilIface := by rw [hc _ _ (by first | (simp; done) | (simp; omega))]; simp [go_sem]
  have hz2 : w2.frozen? ⟨w.heap.size, 0, none⟩ = false := by rw [hz _ _ (by first | (simp; done) | (simp; omega))]; simp [go_sem]
  clear hc hz
  go_wp2_with fail
  refine leaves_cons (f := 76) (args := #[.pointer (some ⟨w.heap.size, 0, none⟩)]) (by simp) (by simp [go_sem]) ?_
  refine (catch_panicking_str ⟨w.heap.size, 0, none⟩ a _ _ _ _ _ hc2 hz2 (hE.below hB2)).mono ?_
  rintro e u' w'' ⟨rfl, rfl, rfl⟩
  simp [Leaves, settle, results, Tryz.results66, go_sem, hc2]
  exact hB2.setCell (by simp) _

set_option maxRecDepth 20000 in
theorem answer_ok_str (fn : FuncId) (cap : Array Value) (a : Addr) (x : ByteArray) (w : World) (hcall : Enters fn) (hE : ErrAt w a)
    (hf : ∀ w1, Below w.heap.size w w1 → Calls Tryz.prog fn cap w1 fun e w2 => e = .returned (.string x) ∧ Below w1.heap.size w1 w2) :
    Calls Tryz.prog 52 #[.func (.func fn) #[] cap] w fun e w' => e = .returned (.tuple #[.string x, .int .i64 0]) ∧ Below w.heap.size w w' := by
  have HF := Lib.hid hf
  have HC := Lib.hid hcall
  have HE := Lib.hid hE
  clear hf hcall hE
  go_enter Tryz.func52, Tryz.ntmps52
  go_wp2_with fail
  refine (calc_ok_str fn cap x _ HC.out HF.out).mono ?_
  rintro e w2 ⟨rfl, hB⟩
  have hE2 := (HE.out.below hB).cell
  have hlt := (HE.out.below hB).lt
  go_wp2_with fail
  refine (is_nil _ _).mono ?_; rintro e w' ⟨rfl, rfl⟩
  go_wp2_with fail
  go_ret2
  exact ⟨rfl, hB⟩

set_option maxRecDepth 20000 in
theorem answer_no_str (fn : FuncId) (cap : Array Value) (a : Addr) (w : World) (hcall : Enters fn) (hE : ErrAt w a)
    (hf : ∀ w1, Below w.heap.size w w1 → Calls Tryz.prog fn cap w1 fun e w2 => e = .panicked [{ v := errV a, recovered := false }] ∧ Below w1.heap.size w1 w2) :
    Calls Tryz.prog 52 #[.func (.func fn) #[] cap] w fun e w' => e = .returned (.tuple #[.string ⟨#[]⟩, .int .i64 30]) ∧ Below w.heap.size w w' := by
  have HF := Lib.hid hf
  have HC := Lib.hid hcall
  have HE := Lib.hid hE
  clear hf hcall hE
  go_enter Tryz.func52, Tryz.ntmps52
  go_wp2_with fail
  refine (calc_no_str fn cap a _ HC.out HE.out HF.out).mono ?_
  rintro e w2 ⟨rfl, hB⟩
  have hE2 := (HE.out.below hB).cell
  have hlt := (HE.out.below hB).lt
  go_wp2_with fail
  refine (is_same _ _).mono ?_; rintro e w' ⟨rfl, rfl⟩
  go_wp2_with fail
  go_ret2
  exact ⟨rfl, hB⟩
end Go.Proofs.YtphphamfejgdaaaGreatDoor
