/- Small functions of package format: within, require, and what the kinds ask of a field by itself. Conditions: the variable of the error holds a pointer. -/
import Derived.Test.YtcnokccgdiodlaaGreatDoorProg
import Derived.Test.YtcnokccgdiodlaaGreatDoorFmtText
import Derived.WalkKit
import Derived.Outline
import Derived.Below
import Derived.IntWalk
import Derived.LoopTactic
import Derived.Lib.Hide
import Derived.Deep.QuietTactic
import Derived.BigQuiet
import Derived.Tactics
import Derived.Tactics2
import Derived.WalkLawsBesides
import Derived.Laws.EntriesVeiled
namespace Go.Proofs.YtcnokccgdiodlaaGreatDoor
open Go.RowKit Fx

/-- A field as a value. -/
abbrev fldV (f : Fld) : Value := .agg #[.int .i64 f.kind, .int .i64 f.n, .int .i64 f.frm, .string f.text]
/-- The error as a value. -/
abbrev errV (a : Addr) : Value := .iface 151 (.pointer (some a))
/-- The variable of the error holds a pointer. -/
structure ErrAt (w : World) (a : Addr) : Prop where
  cell : w.cell? ⟨0, 0, none⟩ = some (errV a)
theorem ErrAt.lt {w : World} {a : Addr} (h : ErrAt w a) : 0 < w.heap.size := World.block_lt_of_cell? (h := h.cell)
theorem ErrAt.below {w w' : World} {a : Addr} (h : ErrAt w a) (hb : Below w.heap.size w w') : ErrAt w' a := ⟨(hb.cell (p := ⟨0, 0, none⟩) h.lt).trans h.cell⟩
theorem bcell {W w1 : World} {B : Nat} (hb : Below B W w1) : (∀ b o, b < B → w1.cell? ⟨b, o, none⟩ = W.cell? ⟨b, o, none⟩) ∧ (∀ b o, b < B → w1.frozen? ⟨b, o, none⟩ = W.frozen? ⟨b, o, none⟩) :=
  ⟨fun b o h => hb.cell (p := ⟨b, o, none⟩) h, fun b o h => hb.frozen (p := ⟨b, o, none⟩) h⟩
theorem ret_bool {a b : Bool} (h : a = b) : Ending.returned (.bool a) = .returned (.bool b) := by rw [h]
theorem ret_int {k : IntKind} {a b : Int} (h : a = b) : Ending.returned (.int k a) = .returned (.int k b) := by rw [h]

/-- A function that has a body is entered. -/
def Enters (fn : FuncId) : Prop := ∀ (args : Array Value) (w : World), (callFunc fn args).run Tryz.prog w = .ok (.enter fn args) w
theorem enters_of {f : FuncId} {fn : Func} (hf : Tryz.prog.funcs[f]? = some fn) (hn : (fn.name == "runtime.NumGoroutine") = false) (hb : fn.body.isNone = false) : Enters f := fun args w => by
  have hn' : fn.name ≠ "runtime.NumGoroutine" := by simpa using hn
  have hb' : fn.body ≠ none := by intro h; rw [h] at hb; cases hb
  unfold callFunc
  simp [go_sem, hf, hn', hb']
/-- What a function without results that may stop the reading ends in. -/
def ends (a : Addr) : Bool → Ending
  | true => .returned (.tuple #[])
  | false => .panicked [{ v := errV a, recovered := false }]

theorem require_any (c : Bool) (er : Addr) (w : World) (hE : ErrAt w er) :
    Calls Tryz.prog 49 #[.bool c] w fun e w' => e = ends er c ∧ w = w' := by
  have hc := hE.cell
  cases c with
  | true =>
    clear hc hE
    go_enter Tryz.func49, Tryz.ntmps49
    go_wp2
    go_end0
    exact ⟨rfl, rfl⟩
  | false =>
    clear hE
    go_enter Tryz.func49, Tryz.ntmps49
    go_wp2
    exact ⟨rfl, rfl, rfl⟩

def withinB (n lo hi : Int) : Bool := decide (lo ≤ n) && decide (n ≤ hi)
theorem within_any (n lo hi : Int) (v : Bool) (w : World) (hv : withinB n lo hi = v) :
    Calls Tryz.prog 80 #[.int .i64 n, .int .i64 lo, .int .i64 hi] w fun e w' => e = .returned (.bool v) ∧ w = w' := by
  unfold withinB at hv
  by_cases h1 : lo ≤ n
  · have hv2 : decide (n ≤ hi) = v := by simpa [h1] using hv
    have HV := Lib.hid hv2
    clear hv hv2
    go_enter Tryz.func80, Tryz.ntmps80
    go_wp2
    go_ret
    exact ⟨ret_bool HV.out, rfl⟩
  · have h2 : decide (lo ≤ n) = false := by simpa using h1
    have hv2 : false = v := by simpa [h1] using hv
    have HV := Lib.hid hv2
    clear hv hv2
    go_enter Tryz.func80, Tryz.ntmps80
    go_wp2
    go_ret
    exact ⟨ret_bool HV.out, rfl⟩

theorem dd {p q : Prop} [Decidable p] [Decidable q] (h : p ↔ q) : decide p = decide q := decide_eq_decide.2 h
theorem bx {w : World} (o : Obj) : Below w.heap.size w (w.alloc o) := (Below.refl _ _).alloc (Nat.le_refl _) _

theorem literal_any (v0 : Value) (f : Fld) (v : Bool) (w : World) (hf : f.text.size ≤ 9223372036854775807) (hv : literal f = v) :
    Calls Tryz.prog 79 #[v0, fldV f] w fun e w' => e = .returned (.bool v) ∧ Below w.heap.size w w' := by
  have HV := Lib.hid hv
  clear hv
  by_cases h1 : f.n = 0
  · by_cases h2 : f.frm = -1
    · obtain ⟨u, hu⟩ : ∃ u, withinB (f.text.size : Int) 1 16 = u := ⟨_, rfl⟩
      have HU := Lib.hid hu
      clear hu
      have d1 : ((f.n : Int) == 0) = true := by simpa using h1
      have d2 : ((f.frm : Int) == -1) = true := by simpa using h2
      have HH := Lib.hid (And.intro h1 h2)
      clear h1 h2
      go_enter Tryz.func79, Tryz.ntmps79
      go_wp2_with fail
      refine (within_any _ _ _ u _ HU.out).mono ?_
      rintro e w' ⟨rfl, rfl⟩
      go_wp2_with fail
      go_ret
      refine ⟨ret_bool ?_, bx _⟩
      rw [← HV.out, ← HU.out]
      unfold literal withinB
      rw [decide_eq_true HH.out.1, decide_eq_true HH.out.2, Bool.true_and, Bool.true_and]
      congr 1
      · exact dd (by omega)
      · exact dd (by omega)
    · have d1 : ((f.n : Int) == 0) = true := by simpa using h1
      have d2 : ((f.frm : Int) == -1) = false := by simpa using h2
      have HH : Hid (false = v) := Lib.hid (by rw [← HV.out]; simp [literal, h2])
      clear h1 h2
      go_enter Tryz.func79, Tryz.ntmps79
      go_wp2_with fail
      go_ret
      exact ⟨ret_bool HH.out, bx _⟩
  · have d1 : ((f.n : Int) == 0) = false := by simpa using h1
    have HH : Hid (false = v) := Lib.hid (by rw [← HV.out]; simp [literal, h1])
    clear h1
    go_enter Tryz.func79, Tryz.ntmps79
    go_wp2_with fail
    go_ret
    exact ⟨ret_bool HH.out, bx _⟩
theorem textLen_any (v0 : Value) (f : Fld) (w : World) :
    Calls Tryz.prog 81 #[v0, fldV f] w fun e w' => e = .returned (.int .i64 f.text.size) ∧ Below w.heap.size w w' := by
  go_enter Tryz.func81, Tryz.ntmps81
  go_wp2_with fail
  go_ret
  exact ⟨rfl, bx _⟩
theorem zeroLen_any (v0 : Value) (f : Fld) (w : World) :
    Calls Tryz.prog 89 #[v0, fldV f] w fun e w' => e = .returned (.int .i64 0) ∧ Below w.heap.size w w' := by
  go_enter Tryz.func89, Tryz.ntmps89
  go_wp2_with fail
  go_ret
  exact ⟨rfl, bx _⟩
theorem nLen_any (v0 : Value) (f : Fld) (w : World) :
    Calls Tryz.prog 104 #[v0, fldV f] w fun e w' => e = .returned (.int .i64 f.n) ∧ Below w.heap.size w w' := by
  go_enter Tryz.func104, Tryz.ntmps104
  go_wp2_with fail
  go_ret
  exact ⟨rfl, bx _⟩
theorem str_empty (t : ByteArray) : t.toList = [] ↔ t.size = 0 := by
  rw [ByteArray.toList_eq]
  obtain ⟨⟨l⟩⟩ := t
  show l = [] ↔ l.length = 0
  exact List.length_eq_zero_iff.symm
theorem sized_any (v0 : Value) (lo hi : Int) (p q : Addr) (f : Fld) (v : Bool) (w : World) (hp : w.cell? p = some (.int .i64 lo)) (hq : w.cell? q = some (.int .i64 hi)) (hv : Fx.sized lo hi f = v) :
    Calls Tryz.prog 103 #[v0, fldV f, .pointer (some p), .pointer (some q)] w fun e w' => e = .returned (.bool v) ∧ Below w.heap.size w w' := by
  have HV := Lib.hid hv
  clear hv
  have hp1 := World.block_lt_of_cell? (h := hp)
  have hq1 := World.block_lt_of_cell? (h := hq)
  by_cases h1 : f.frm = -1
  · have d1 : ((f.frm : Int) == -1) = true := by simpa using h1
    by_cases h2 : f.text.size = 0
    · have d2 : f.text.toList = [] := (str_empty _).2 h2
      have d3 : f.text.toList.isEmpty = true := by rw [d2]; rfl
      obtain ⟨u, hu⟩ : ∃ u, withinB f.n lo hi = u := ⟨_, rfl⟩
      have HU : Hid (withinB f.n lo hi = u ∧ u = v) := Lib.hid ⟨hu, by rw [← hu, ← HV.out]; unfold Fx.sized withinB; rw [decide_eq_true h1, decide_eq_true h2, Bool.true_and, Bool.true_and]⟩
      clear hu h1 h2
      go_enter Tryz.func103, Tryz.ntmps103
      go_wp2_with fail
      refine (within_any _ _ _ u _ HU.out.1).mono ?_
      rintro e w' ⟨rfl, rfl⟩
      go_wp2_with fail
      go_ret
      exact ⟨ret_bool HU.out.2, bx _⟩
    · have d2 : ¬ f.text.toList = [] := fun h => h2 ((str_empty _).1 h)
      have d3 : f.text.toList.isEmpty = false := by simpa using d2
      have HH : Hid (false = v) := Lib.hid (by rw [← HV.out]; simp [Fx.sized, h2])
      clear h1 h2
      go_enter Tryz.func103, Tryz.ntmps103
      go_wp2_with fail
      go_ret
      exact ⟨ret_bool HH.out, bx _⟩
  · have d1 : ((f.frm : Int) == -1) = false := by simpa using h1
    have HH : Hid (false = v) := Lib.hid (by rw [← HV.out]; simp [Fx.sized, h1])
    clear h1
    go_enter Tryz.func103, Tryz.ntmps103
    go_wp2_with fail
    go_ret
    exact ⟨ret_bool HH.out, bx _⟩
end Go.Proofs.YtcnokccgdiodlaaGreatDoor
