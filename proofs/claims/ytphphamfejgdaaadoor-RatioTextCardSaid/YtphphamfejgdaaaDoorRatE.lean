/- What calculate and answer give of a function that returns an int or a string, and of one that panics with the error of 'no result'. Condition: the variable of the error holds a pointer. (Written by gen_e.py.) -/
import Derived.Test.YtphphamfejgdaaaDoorRatD
namespace Go.Proofs.YtphphamfejgdaaaDoor
open Go.RowKit

theorem catch_panicking_int (p a : Addr) (x pv : Value) (u : TypeId) (older : List PanicEntry) (w : World) (hc : w.cell? p = some x) (hz : w.frozen? p = false) (hE : ErrAt w a) :
    CallsD Tryd.prog 58 #[.pointer (some p)] (.panicking ({ v := .iface u pv, recovered := false } :: older)) w fun e u' w' =>
      e = .returned (.tuple #[]) ∧ u' = .panicking ({ v := .iface u pv, recovered := true } :: older) ∧ w' = w.setCell p (errV a) := by
  have hE0 := hE.cell
  refine callsD_of_wpS Tryd.func58 rfl fun c₀ cs hu => ?_
  apply wpS_seq
  apply wpS_region
  simp [wpOpsS, go_sem, recoverD, hu, Tryd.ntmps58, Exit.thenS]
  refine wpS_cond (t := true) (by simp [Act.eval, Array.replicate]) ?_
  simp only [if_true]
  apply wpS_region
  simp [wpOpsS, go_sem, hc, hz, hE0, bodyPostS, results, Tryd.results58]

theorem catch_idle_int (p : Addr) (w : World) :
    CallsD Tryd.prog 58 #[.pointer (some p)] .returning w fun e u' w' => e = .returned (.tuple #[]) ∧ u' = .returning ∧ w' = w := by
  refine callsD_of_wpS Tryd.func58 rfl fun c₀ cs hu => ?_
  apply wpS_seq
  apply wpS_region
  simp [wpOpsS, go_sem, recoverD, hu, Tryd.ntmps58, Exit.thenS]
  refine wpS_cond (t := false) (by simp [Act.eval, Array.replicate]) ?_
  simp only [Bool.false_eq_true, if_false]
  refine wpS_of_wp (wp_skip ?_)
  cases c₀
  simp_all [bodyPostS, results, Tryd.results58]

set_option maxRecDepth 20000 in
theorem calc_ok_int (fn : FuncId) (cap : Array Value) (x : Int) (w : World) (hcall : Enters fn)
    (hf : ∀ w1, Below w.heap.size w w1 → Calls Tryd.prog fn cap w1 fun e w2 => e = .returned (.int .i64 x) ∧ Below w1.heap.size w1 w2) :
    Calls Tryd.prog 49 #[.func (.func fn) #[] cap] w fun e w' => e = .returned (.tuple #[.int .i64 x, .nilIface]) ∧ Below w.heap.size w w' := by
  have HF := Lib.hid hf
  clear hf
  unfold Enters at hcall
  have hmf : ∀ (fn : Fn) (first cap : Array Value) (w : World), (Instr.makeFunc fn first cap).run Tryd.prog w = .ok (.func fn first cap) w := fun _ _ _ _ => rfl
  go_enter_defers Tryd.func49, Tryd.ntmps49
  go_wp2_with fail
  have hb0 : Below w.heap.size w (w.alloc (Obj.cells #[Value.nilIface] 55)) := (Below.refl _ _).alloc (Nat.le_refl _) _
  refine (HF.out _ hb0).mono ?_
  rintro e w2 ⟨rfl, hB⟩
  have hB2 := hb0.trans (hB.mono (by simp))
  obtain ⟨hc, hz⟩ := bcell hB
  have hc2 : w2.cell? ⟨w.heap.size, 0, none⟩ = some .nilIface := by rw [hc _ _ (by first | (simp; done) | (simp; omega))]; simp [go_sem]
  have hz2 : w2.frozen? ⟨w.heap.size, 0, none⟩ = false := by rw [hz _ _ (by first | (simp; done) | (simp; omega))]; simp [go_sem]
  clear hc hz
  go_wp2_with fail
  refine leaves_cons (f := 58) (args := #[.pointer (some ⟨w.heap.size, 0, none⟩)]) (by simp) (by simp [go_sem]) ?_
  refine (catch_idle_int ⟨w.heap.size, 0, none⟩ _).mono ?_
  rintro e u' w'' ⟨rfl, rfl, rfl⟩
  simp [Leaves, settle, results, Tryd.results49, go_sem, hc2]
  exact hB2.setCell (by simp) _

set_option maxRecDepth 20000 in
theorem calc_no_int (fn : FuncId) (cap : Array Value) (a : Addr) (w : World) (hcall : Enters fn) (hE : ErrAt w a)
    (hf : ∀ w1, Below w.heap.size w w1 → Calls Tryd.prog fn cap w1 fun e w2 => e = .panicked [{ v := errV a, recovered := false }] ∧ Below w1.heap.size w1 w2) :
    Calls Tryd.prog 49 #[.func (.func fn) #[] cap] w fun e w' => e = .returned (.tuple #[.int .i64 0, errV a]) ∧ Below w.heap.size w w' := by
  have HF := Lib.hid hf
  clear hf
  unfold Enters at hcall
  have hmf : ∀ (fn : Fn) (first cap : Array Value) (w : World), (Instr.makeFunc fn first cap).run Tryd.prog w = .ok (.func fn first cap) w := fun _ _ _ _ => rfl
  go_enter_defers Tryd.func49, Tryd.ntmps49
  go_wp2_with fail
  have hb0 : Below w.heap.size w (w.alloc (Obj.cells #[Value.nilIface] 55)) := (Below.refl _ _).alloc (Nat.le_refl _) _
  refine (HF.out _ hb0).mono ?_
  rintro e w2 ⟨rfl, hB⟩
  have hB2 := hb0.trans (hB.mono (by simp))
  obtain ⟨hc, hz⟩ := bcell hB
  have hc2 : w2.cell? ⟨w.heap.size, 0, none⟩ = some .nilIface := by rw [hc _ _ (by first | (simp; done) | (simp; omega))]; simp [go_sem]
  have hz2 : w2.frozen? ⟨w.heap.size, 0, none⟩ = false := by rw [hz _ _ (by first | (simp; done) | (simp; omega))]; simp [go_sem]
  clear hc hz
  go_wp2_with fail
  refine leaves_cons (f := 58) (args := #[.pointer (some ⟨w.heap.size, 0, none⟩)]) (by simp) (by simp [go_sem]) ?_
  refine (catch_panicking_int ⟨w.heap.size, 0, none⟩ a _ _ _ _ _ hc2 hz2 (hE.below hB2)).mono ?_
  rintro e u' w'' ⟨rfl, rfl, rfl⟩
  simp [Leaves, settle, results, Tryd.results49, go_sem, hc2]
  exact hB2.setCell (by simp) _

set_option maxRecDepth 20000 in
theorem answer_ok_int (fn : FuncId) (cap : Array Value) (a : Addr) (x : Int) (w : World) (hcall : Enters fn) (hE : ErrAt w a)
    (hf : ∀ w1, Below w.heap.size w w1 → Calls Tryd.prog fn cap w1 fun e w2 => e = .returned (.int .i64 x) ∧ Below w1.heap.size w1 w2) :
    Calls Tryd.prog 29 #[.func (.func fn) #[] cap] w fun e w' => e = .returned (.tuple #[.int .i64 x, .int .i64 0]) ∧ Below w.heap.size w w' := by
  have HF := Lib.hid hf
  have HC := Lib.hid hcall
  have HE := Lib.hid hE
  clear hf hcall hE
  go_enter Tryd.func29, Tryd.ntmps29
  go_wp2_with fail
  refine (calc_ok_int fn cap x _ HC.out HF.out).mono ?_
  rintro e w2 ⟨rfl, hB⟩
  have hE2 := (HE.out.below hB).cell
  have hlt := (HE.out.below hB).lt
  go_wp2_with fail
  refine (is_nil _ _).mono ?_; rintro e w' ⟨rfl, rfl⟩
  go_wp2_with fail
  go_ret2
  exact ⟨rfl, hB⟩

set_option maxRecDepth 20000 in
theorem answer_no_int (fn : FuncId) (cap : Array Value) (a : Addr) (w : World) (hcall : Enters fn) (hE : ErrAt w a)
    (hf : ∀ w1, Below w.heap.size w w1 → Calls Tryd.prog fn cap w1 fun e w2 => e = .panicked [{ v := errV a, recovered := false }] ∧ Below w1.heap.size w1 w2) :
    Calls Tryd.prog 29 #[.func (.func fn) #[] cap] w fun e w' => e = .returned (.tuple #[.int .i64 0, .int .i64 30]) ∧ Below w.heap.size w w' := by
  have HF := Lib.hid hf
  have HC := Lib.hid hcall
  have HE := Lib.hid hE
  clear hf hcall hE
  go_enter Tryd.func29, Tryd.ntmps29
  go_wp2_with fail
  refine (calc_no_int fn cap a _ HC.out HE.out HF.out).mono ?_
  rintro e w2 ⟨rfl, hB⟩
  have hE2 := (HE.out.below hB).cell
  have hlt := (HE.out.below hB).lt
  go_wp2_with fail
  refine (is_same _ _).mono ?_; rintro e w' ⟨rfl, rfl⟩
  go_wp2_with fail
  go_ret2
  exact ⟨rfl, hB⟩

theorem catch_panicking_str (p a : Addr) (x pv : Value) (u : TypeId) (older : List PanicEntry) (w : World) (hc : w.cell? p = some x) (hz : w.frozen? p = false) (hE : ErrAt w a) :
    CallsD Tryd.prog 64 #[.pointer (some p)] (.panicking ({ v := .iface u pv, recovered := false } :: older)) w fun e u' w' =>
      e = .returned (.tuple #[]) ∧ u' = .panicking ({ v := .iface u pv, recovered := true } :: older) ∧ w' = w.setCell p (errV a) := by
  have hE0 := hE.cell
  refine callsD_of_wpS Tryd.func64 rfl fun c₀ cs hu => ?_
  apply wpS_seq
  apply wpS_region
  simp [wpOpsS, go_sem, recoverD, hu, Tryd.ntmps64, Exit.thenS]
  refine wpS_cond (t := true) (by simp [Act.eval, Array.replicate]) ?_
  simp only [if_true]
  apply wpS_region
  simp [wpOpsS, go_sem, hc, hz, hE0, bodyPostS, results, Tryd.results64]

theorem catch_idle_str (p : Addr) (w : World) :
    CallsD Tryd.prog 64 #[.pointer (some p)] .returning w fun e u' w' => e = .returned (.tuple #[]) ∧ u' = .returning ∧ w' = w := by
  refine callsD_of_wpS Tryd.func64 rfl fun c₀ cs hu => ?_
  apply wpS_seq
  apply wpS_region
  simp [wpOpsS, go_sem, recoverD, hu, Tryd.ntmps64, Exit.thenS]
  refine wpS_cond (t := false) (by simp [Act.eval, Array.replicate]) ?_
  simp only [Bool.false_eq_true, if_false]
  refine wpS_of_wp (wp_skip ?_)
  cases c₀
  simp_all [bodyPostS, results, Tryd.results64]

set_option maxRecDepth 20000 in
theorem calc_ok_str (fn : FuncId) (cap : Array Value) (x : ByteArray) (w : World) (hcall : Enters fn)
    (hf : ∀ w1, Below w.heap.size w w1 → Calls Tryd.prog fn cap w1 fun e w2 => e = .returned (.string x) ∧ Below w1.heap.size w1 w2) :
    Calls Tryd.prog 54 #[.func (.func fn) #[] cap] w fun e w' => e = .returned (.tuple #[.string x, .nilIface]) ∧ Below w.heap.size w w' := by
  have HF := Lib.hid hf
  clear hf
  unfold Enters at hcall
  have hmf : ∀ (fn : Fn) (first cap : Array Value) (w : World), (Instr.makeFunc fn first cap).run Tryd.prog w = .ok (.func fn first cap) w := fun _ _ _ _ => rfl
  go_enter_defers Tryd.func54, Tryd.ntmps54
  go_wp2_with fail
  have hb0 : Below w.heap.size w (w.alloc (Obj.cells #[Value.nilIface] 55)) := (Below.refl _ _).alloc (Nat.le_refl _) _
  refine (HF.out _ hb0).mono ?_
  rintro e w2 ⟨rfl, hB⟩
  have hB2 := hb0.trans (hB.mono (by simp))
  obtain ⟨hc, hz⟩ := bcell hB
  have hc2 : w2.cell? ⟨w.heap.size, 0, none⟩ = some .nilIface := by rw [hc _ _ (by first | (simp; done) | (simp; omega))]; simp [go_sem]
  have hz2 : w2.frozen? ⟨w.heap.size, 0, none⟩ = false := by rw [hz _ _ (by first | (simp; done) | (simp; omega))]; simp [go_sem]
  clear hc hz
  go_wp2_with fail
  refine leaves_cons (f := 64) (args := #[.pointer (some ⟨w.heap.size, 0, none⟩)]) (by simp) (by simp [go_sem]) ?_
  refine (catch_idle_str ⟨w.heap.size, 0, none⟩ _).mono ?_
  rintro e u' w'' ⟨rfl, rfl, rfl⟩
  simp [Leaves, settle, results, Tryd.results54, go_sem, hc2]
  exact hB2.setCell (by simp) _

set_option maxRecDepth 20000 in
theorem calc_no_str (fn : FuncId) (cap : Array Value) (a : Addr) (w : World) (hcall : Enters fn) (hE : ErrAt w a)
    (hf : ∀ w1, Below w.heap.size w w1 → Calls Tryd.prog fn cap w1 fun e w2 => e = .panicked [{ v := errV a, recovered := false }] ∧ Below w1.heap.size w1 w2) :
    Calls Tryd.prog 54 #[.func (.func fn) #[] cap] w fun e w' => e = .returned (.tuple #[.string ⟨#[]⟩, errV a]) ∧ Below w.heap.size w w' := by
  have HF := Lib.hid hf
  clear hf
  unfold Enters at hcall
  have hmf : ∀ (fn : Fn) (first cap : Array Value) (w : World), (Instr.makeFunc fn first cap).run Tryd.prog w = .ok (.func fn first cap) w := fun _ _ _ _ => rfl
  go_enter_defers Tryd.func54, Tryd.ntmps54
  go_wp2_with fail
  have hb0 : Below w.heap.size w (w.alloc (Obj.cells #[Value.nilIface] 55)) := (Below.refl _ _).alloc (Nat.le_refl _) _
  refine (HF.out _ hb0).mono ?_
  rintro e w2 ⟨rfl, hB⟩
  have hB2 := hb0.trans (hB.mono (by simp))
  obtain ⟨hc, hz⟩ := bcell hB
  have hc2 : w2.cell? ⟨w.heap.size, 0, none⟩ = some .nilIface := by rw [hc _ _ (by first | (simp; done) | (simp; omega))]; simp [go_sem]
  have hz2 : w2.frozen? ⟨w.heap.size, 0, none⟩ = false := by rw [hz _ _ (by first | (simp; done) | (simp; omega))]; simp [go_sem]
  clear hc hz
  go_wp2_with fail
  refine leaves_cons (f := 64) (args := #[.pointer (some ⟨w.heap.size, 0, none⟩)]) (by simp) (by simp [go_sem]) ?_
  refine (catch_panicking_str ⟨w.heap.size, 0, none⟩ a _ _ _ _ _ hc2 hz2 (hE.below hB2)).mono ?_
  rintro e u' w'' ⟨rfl, rfl, rfl⟩
  simp [Leaves, settle, results, Tryd.results54, go_sem, hc2]
  exact hB2.setCell (by simp) _

set_option maxRecDepth 20000 in
theorem answer_ok_str (fn : FuncId) (cap : Array Value) (a : Addr) (x : ByteArray) (w : World) (hcall : Enters fn) (hE : ErrAt w a)
    (hf : ∀ w1, Below w.heap.size w w1 → Calls Tryd.prog fn cap w1 fun e w2 => e = .returned (.string x) ∧ Below w1.heap.size w1 w2) :
    Calls Tryd.prog 41 #[.func (.func fn) #[] cap] w fun e w' => e = .returned (.tuple #[.string x, .int .i64 0]) ∧ Below w.heap.size w w' := by
  have HF := Lib.hid hf
  have HC := Lib.hid hcall
  have HE := Lib.hid hE
  clear hf hcall hE
  go_enter Tryd.func41, Tryd.ntmps41
  go_wp2_with fail
  refine (calc_ok_str fn cap x _ HC.out HF.out).mono ?_
  rintro e w2 ⟨rfl, hB⟩
  have hE2 := (HE.out.below hB).cell
  have hlt := (HE.out.below hB).lt
  go_wp2_with fail
  refine (is_nil _ _).mono ?_; rintro e w' ⟨rfl, rfl⟩
  go_wp2_with fail
  go_ret2
  exact ⟨rfl, hB⟩

set_option maxRecDepth 20000 in
theorem answer_no_str (fn : FuncId) (cap : Array Value) (a : Addr) (w : World) (hcall : Enters fn) (hE : ErrAt w a)
    (hf : ∀ w1, Below w.heap.size w w1 → Calls Tryd.prog fn cap w1 fun e w2 => e = .panicked [{ v := errV a, recovered := false }] ∧ Below w1.heap.size w1 w2) :
    Calls Tryd.prog 41 #[.func (.func fn) #[] cap] w fun e w' => e = .returned (.tuple #[.string ⟨#[]⟩, .int .i64 30]) ∧ Below w.heap.size w w' := by
  have HF := Lib.hid hf
  have HC := Lib.hid hcall
  have HE := Lib.hid hE
  clear hf hcall hE
  go_enter Tryd.func41, Tryd.ntmps41
  go_wp2_with fail
  refine (calc_no_str fn cap a _ HC.out HE.out HF.out).mono ?_
  rintro e w2 ⟨rfl, hB⟩
  have hE2 := (HE.out.below hB).cell
  have hlt := (HE.out.below hB).lt
  go_wp2_with fail
  refine (is_same _ _).mono ?_; rintro e w' ⟨rfl, rfl⟩
  go_wp2_with fail
  go_ret2
  exact ⟨rfl, hB⟩
end Go.Proofs.YtphphamfejgdaaaDoor
