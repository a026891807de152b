/- Make and Valid. Conditions: ints; the variable of the error holds a pointer. -/
import Derived.Test.YtphphamfejgdaaaGreatDoorRatE
namespace Go.Proofs.YtphphamfejgdaaaGreatDoor
open Go.RowKit

theorem enters_of {f : FuncId} {fn : Func} (hf : Tryz.prog.funcs[f]? = some fn) (hn : (fn.name == "runtime.NumGoroutine") = false) (hb : fn.body.isNone = false) : Enters f := fun args w => by
  have hn' : fn.name ≠ "runtime.NumGoroutine" := by simpa using hn
  have hb' : fn.body ≠ none := by intro h; rw [h] at hb; cases hb
  unfold callFunc
  simp [go_sem, hf, hn', hb']

/-- A function that makes a fraction or finds no result: what answer gives of it. -/
theorem answer_any (fn : FuncId) (cap : Array Value) (o : Option Rat) (a : Addr) (x y z : Int) (w : World) (hcall : Enters fn) (hE : ErrAt w a)
    (hok : ∀ q, o = some q → ∀ w1, Below w.heap.size w w1 → Calls Tryz.prog fn cap w1 fun e w2 => e = .returned (frac q.num q.den) ∧ Below w1.heap.size w1 w2)
    (hno : o = none → ∀ w1, Below w.heap.size w w1 → Calls Tryz.prog fn cap w1 fun e w2 => e = .panicked [{ v := errV a, recovered := false }] ∧ Below w1.heap.size w1 w2)
    (hx : Rt.nm o = x ∧ Rt.dn o = y ∧ Rt.er o = z) :
    Calls Tryz.prog 33 #[.func (.func fn) #[] cap] w fun e w' => e = .returned (.tuple #[frac x y, .int .i64 z]) ∧ Below w.heap.size w w' := by
  obtain ⟨rfl, rfl, rfl⟩ := hx
  cases o with
  | some q => exact answer_ok fn cap a q.num q.den w hcall hE (hok q rfl)
  | none => exact answer_no fn cap a w hcall hE (hno rfl)

theorem make1_ok (bp bq : Nat) (n d x y : Int) (q : Rat) (w : World) (n1 : -9223372036854775808 ≤ n) (n2 : n ≤ 9223372036854775807) (d1 : -9223372036854775808 ≤ d) (d2 : d ≤ 9223372036854775807)
    (hm : Rt.mk n d = some q) (hx : q.num = x) (hy : (q.den : Int) = y) (cp : w.cell? ⟨bp, 0, none⟩ = some (.int .i64 n)) (cq : w.cell? ⟨bq, 0, none⟩ = some (.int .i64 d)) :
    Calls Tryz.prog 34 #[.pointer (some ⟨bp, 0, none⟩), .pointer (some ⟨bq, 0, none⟩)] w fun e w' => e = .returned (frac x y) ∧ Below w.heap.size w w' := by
  have HM := Lib.hid (And.intro n1 (And.intro n2 (And.intro d1 (And.intro d2 (And.intro hm (And.intro hx hy))))))
  clear n1 n2 d1 d2 hm hx hy
  have hp := World.block_lt_of_cell? (a := ⟨bp, 0, none⟩) (h := cp)
  have hq := World.block_lt_of_cell? (a := ⟨bq, 0, none⟩) (h := cq)
  go_enter Tryz.func34, Tryz.ntmps34
  go_wp2_with fail
  obtain ⟨n1, n2, d1, d2, hm, hx, hy⟩ := HM.out
  refine (quotient_ok n d x y q _ n1 n2 d1 d2 hm hx hy).mono ?_
  clear n1 n2 d1 d2 hm hx hy
  rintro e w2 ⟨rfl, hB⟩
  obtain ⟨hc, hz⟩ := bcell hB
  have hc0 : w2.cell? ⟨w.heap.size, 0, none⟩ = some (.int .i64 0) := by rw [hc _ _ (by first | (simp; done) | (simp; omega))]; simp [go_sem]
  have hc1 : w2.cell? ⟨w.heap.size, 1, none⟩ = some (.int .i64 0) := by rw [hc _ _ (by first | (simp; done) | (simp; omega))]; simp [go_sem]
  have hz0 : w2.frozen? ⟨w.heap.size, 0, none⟩ = false := by rw [hz _ _ (by first | (simp; done) | (simp; omega))]; simp [go_sem]
  have hz1 : w2.frozen? ⟨w.heap.size, 1, none⟩ = false := by rw [hz _ _ (by first | (simp; done) | (simp; omega))]; simp [go_sem]
  have hB2 : Below w.heap.size w w2 := ((Below.refl _ _).alloc (Nat.le_refl _) _).trans (hB.mono (by simp))
  clear hc hz
  go_wp2_with fail
  refine bodyPost_ret (v := frac x y) (by simp [results, Tryz.results34, go_sem, hc0, hc1]) rfl ⟨rfl, ?_⟩
  exact (hB2.setCell (Nat.le_refl _) _).setCell (Nat.le_refl _) _

theorem make1_no (bp bq : Nat) (n d : Int) (a : Addr) (w : World) (n1 : -9223372036854775808 ≤ n) (n2 : n ≤ 9223372036854775807) (d1 : -9223372036854775808 ≤ d) (d2 : d ≤ 9223372036854775807)
    (hm : Rt.mk n d = none) (hE : ErrAt w a) (cp : w.cell? ⟨bp, 0, none⟩ = some (.int .i64 n)) (cq : w.cell? ⟨bq, 0, none⟩ = some (.int .i64 d)) :
    Calls Tryz.prog 34 #[.pointer (some ⟨bp, 0, none⟩), .pointer (some ⟨bq, 0, none⟩)] w fun e w' => e = .panicked [{ v := errV a, recovered := false }] ∧ Below w.heap.size w w' := by
  have HM := Lib.hid (And.intro n1 (And.intro n2 (And.intro d1 (And.intro d2 hm))))
  clear n1 n2 d1 d2 hm
  have hp := World.block_lt_of_cell? (a := ⟨bp, 0, none⟩) (h := cp)
  have hq := World.block_lt_of_cell? (a := ⟨bq, 0, none⟩) (h := cq)
  go_enter Tryz.func34, Tryz.ntmps34
  go_wp2_with fail
  obtain ⟨n1, n2, d1, d2, hm⟩ := HM.out
  refine (quotient_no n d a _ n1 n2 d1 d2 hm (hE.alloc _)).mono ?_
  clear n1 n2 d1 d2 hm
  rintro e w2 ⟨rfl, hB⟩
  have hB2 : Below w.heap.size w w2 := ((Below.refl _ _).alloc (Nat.le_refl _) _).trans (hB.mono (by simp))
  go_wp2_with fail
  exact ⟨rfl, rfl, hB2⟩

/-- The parts of a result. -/
theorem make_any (n d x y z : Int) (a : Addr) (w : World) (n1 : -9223372036854775808 ≤ n) (n2 : n ≤ 9223372036854775807) (d1 : -9223372036854775808 ≤ d) (d2 : d ≤ 9223372036854775807)
    (hE : ErrAt w a) (hx : Rt.nm (Rt.mk n d) = x) (hy : Rt.dn (Rt.mk n d) = y) (hz : Rt.er (Rt.mk n d) = z) :
    Calls Tryz.prog 7 #[.int .i64 n, .int .i64 d] w fun e w' => e = .returned (.tuple #[frac x y, .int .i64 z]) ∧ Below w.heap.size w w' := by
  have hmf : ∀ (fn : Fn) (first cap : Array Value) (w : World), (Instr.makeFunc fn first cap).run Tryz.prog w = .ok (.func fn first cap) w := fun _ _ _ _ => rfl
  have HM := Lib.hid (And.intro n1 (And.intro n2 (And.intro d1 d2)))
  have HX := Lib.hid (And.intro hx (And.intro hy hz))
  have HE := Lib.hid hE
  clear n1 n2 d1 d2 hx hy hz hE
  have hen : Enters 34 := enters_of Tryz.func34 (by kernel_rfl) (by kernel_rfl)
  have HN := Lib.hid hen
  clear hen
  go_enter Tryz.func7, Tryz.ntmps7
  go_wp2_with fail
  have hb0 : Below w.heap.size w (((w.alloc (Obj.cells #[Value.int IntKind.i64 n] 3)).alloc (Obj.cells #[Value.int IntKind.i64 d] 3)).alloc (Obj.cells #[Value.int IntKind.i64 0, Value.int IntKind.i64 0] 25)) :=
    (((Below.refl _ _).alloc (Nat.le_refl _) _).alloc (by simp) _).alloc (by simp; omega) _
  have hE1 := HE.out.below hb0
  obtain ⟨n1, n2, d1, d2⟩ := HM.out
  refine (answer_any 34 _ (Rt.mk n d) a x y z _ HN.out hE1 (fun q hq w1 h1 => ?_) (fun hq w1 h1 => ?_) HX.out).mono ?_
  · obtain ⟨hc, _⟩ := bcell h1
    exact make1_ok _ _ n d q.num q.den q w1 n1 n2 d1 d2 hq rfl rfl (by rw [hc _ _ (by simp; omega)]; simp [go_sem]) (by rw [hc _ _ (by simp)]; simp [go_sem])
  · obtain ⟨hc, _⟩ := bcell h1
    exact make1_no _ _ n d a w1 n1 n2 d1 d2 hq (hE1.below h1) (by rw [hc _ _ (by simp; omega)]; simp [go_sem]) (by rw [hc _ _ (by simp)]; simp [go_sem])
  clear n1 n2 d1 d2
  rintro e w2 ⟨rfl, hB⟩
  obtain ⟨hc, hz⟩ := bcell hB
  have hc0 : w2.cell? ⟨w.heap.size + 1 + 1, 0, none⟩ = some (.int .i64 0) := by rw [hc _ _ (by first | (simp; done) | (simp; omega))]; simp [go_sem]
  have hc1 : w2.cell? ⟨w.heap.size + 1 + 1, 1, none⟩ = some (.int .i64 0) := by rw [hc _ _ (by first | (simp; done) | (simp; omega))]; simp [go_sem]
  have hz0 : w2.frozen? ⟨w.heap.size + 1 + 1, 0, none⟩ = false := by rw [hz _ _ (by first | (simp; done) | (simp; omega))]; simp [go_sem]
  have hz1 : w2.frozen? ⟨w.heap.size + 1 + 1, 1, none⟩ = false := by rw [hz _ _ (by first | (simp; done) | (simp; omega))]; simp [go_sem]
  have hB2 : Below w.heap.size w w2 := hb0.trans (hB.mono (by simp; omega))
  clear hc hz
  go_wp2_with fail
  refine bodyPost_ret (v := .tuple #[frac x y, .int .i64 z]) (by simp [results, Tryz.results7, go_sem, hc0, hc1]) rfl ⟨rfl, ?_⟩
  exact (hB2.setCell (by simp; omega) _).setCell (by simp; omega) _
end Go.Proofs.YtphphamfejgdaaaGreatDoor
