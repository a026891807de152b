/- Print. Conditions: ints; what the functions of texts read of memory. -/
import Derived.Test.YtphphamfejgdaaaGreatDoorRatN
namespace Go.Proofs.YtphphamfejgdaaaGreatDoor
open Go.RowKit

/-- What a function that gives a text or finds no result ends in. -/
def outcomeS (a : Addr) : Option ByteArray → Ending
  | some s => .returned (.string s)
  | none => .panicked [{ v := errV a, recovered := false }]
def strO (o : Option ByteArray) : ByteArray := match o with | some s => s | none => ⟨#[]⟩
def errO (o : Option ByteArray) : Int := match o with | some _ => 0 | none => 30
theorem answer_any_str (fn : FuncId) (cap : Array Value) (o : Option ByteArray) (a : Addr) (x : ByteArray) (z : Int) (w : World) (hcall : Enters fn) (hE : ErrAt w a)
    (h : ∀ w1, Below w.heap.size w w1 → Calls Tryz.prog fn cap w1 fun e w2 => e = outcomeS a o ∧ Below w1.heap.size w1 w2) (hx : strO o = x) (hz : errO o = z) :
    Calls Tryz.prog 52 #[.func (.func fn) #[] cap] w fun e w' => e = .returned (.tuple #[.string x, .int .i64 z]) ∧ Below w.heap.size w w' := by
  subst hx
  subst hz
  cases o with
  | some k => exact answer_ok_str fn cap a k w hcall hE h
  | none => exact answer_no_str fn cap a w hcall hE h
/-- What Print gives. -/
def printO (a b : Int) : Option ByteArray := if (Rt.rd a b).isSome then some ⟨(textI a b).toArray⟩ else none

set_option maxRecDepth 20000 in
set_option maxHeartbeats 1000000 in
theorem print1_any (bp : Nat) (a b : Int) (o : Option ByteArray) (er : Addr) (w : World) (a1 : -9223372036854775808 ≤ a) (a2 : a ≤ 9223372036854775807) (b1 : -9223372036854775808 ≤ b) (b2 : b ≤ 9223372036854775807)
    (hT : Txt w er) (ho : printO a b = o) (p0 : w.cell? ⟨bp, 0, none⟩ = some (.int .i64 a)) (p1 : w.cell? ⟨bp, 1, none⟩ = some (.int .i64 b)) :
    Calls Tryz.prog 53 #[.pointer (some ⟨bp, 0, none⟩)] w fun e w' => e = outcomeS er o ∧ Below w.heap.size w w' := by
  have HM := Lib.hid (And.intro (fun i => two_bounds a1 a2 a1 a2 i) (fun i => two_bounds b1 b2 b1 b2 i))
  have HT := Lib.hid hT
  have HO := Lib.hid ho
  have hp := World.block_lt_of_cell? (a := ⟨bp, 0, none⟩) (h := p0)
  clear a1 a2 b1 b2 hT ho
  obtain ⟨v, hv⟩ : ∃ v, (Rt.rd a b).isSome = v := ⟨_, rfl⟩
  have HV := Lib.hid hv
  clear hv
  go_enter Tryz.func53, Tryz.ntmps53
  go_wp2_with fail
  have hb0 : Below w.heap.size w (w.alloc (Obj.cells #[Value.int IntKind.i64 a, Value.int IntKind.i64 b] 25)) := (Below.refl _ _).alloc (Nat.le_refl _) _
  refine (check_any w.heap.size 1 (two a a) (two b b) v er _ (by decide) (fun i _ => ⟨HM.out.1 i, HM.out.2 i⟩) ⟨fun i hi => ?_, fun i hi => ?_⟩ (HT.out.err.below hb0) (by rw [allV_one]; exact HV.out)).mono ?_
  · match i, hi with
    | 0, _ => simp [go_sem, two]
  · match i, hi with
    | 0, _ => simp [go_sem, two]
  cases v with
  | false =>
    have ho1 : o = none := by rw [← HO.out]; unfold printO; rw [HV.out]; rfl
    subst ho1
    rintro e w2 ⟨rfl, hB⟩
    have hB2 : Below w.heap.size w w2 := hb0.trans (hB.mono (by simp))
    clear hB hb0
    unfold verdict
    go_wp2_with fail
    exact ⟨rfl, rfl, hB2⟩
  | true =>
    obtain ⟨S, hS⟩ : ∃ S : ByteArray, ⟨(textI a b).toArray⟩ = S := ⟨_, rfl⟩
    have ho1 : o = some S := by rw [← HO.out, ← hS]; unfold printO; rw [HV.out]; rfl
    subst ho1
    have HBB := Lib.hid (one_bounds HV.out rfl)
    have HS := Lib.hid hS
    clear hS
    rintro e w2 ⟨rfl, hB⟩
    obtain ⟨hc, hz⟩ := bcell hB
    have x0 : w2.cell? ⟨bp, 0, none⟩ = some (.int .i64 a) := by rw [hc _ _ (by first | (simp; done) | (simp; omega))]; simp [go_sem, *]
    have x1 : w2.cell? ⟨bp, 1, none⟩ = some (.int .i64 b) := by rw [hc _ _ (by first | (simp; done) | (simp; omega))]; simp [go_sem, *]
    have HB2 : Hid (Below w.heap.size w w2) := Lib.hid (hb0.trans (hB.mono (by simp)))
    clear hB hb0 hc hz p0 p1
    unfold verdict
    go_wp2_with fail
    have hb := HBB.out
    refine (text_any a b S er _ hb.1.1 hb.1.2 (by omega) hb.2.2 (HT.out.below HB2.out) HS.out).mono ?_
    clear hb
    rintro e w3 ⟨rfl, hB3⟩
    have HB4 : Hid (Below w.heap.size w w3) := Lib.hid (HB2.out.trans (hB3.mono HB2.out.size))
    clear hB3
    go_wp2_with fail
    go_ret
    exact ⟨rfl, HB4.out⟩

set_option maxRecDepth 20000 in
theorem Print_any (a b : Int) (s : ByteArray) (z : Int) (er : Addr) (w : World) (a1 : -9223372036854775808 ≤ a) (a2 : a ≤ 9223372036854775807) (b1 : -9223372036854775808 ≤ b) (b2 : b ≤ 9223372036854775807)
    (hT : Txt w er) (hs : strO (printO a b) = s) (hz : errO (printO a b) = z) :
    Calls Tryz.prog 28 #[frac a b] w fun e w' => e = .returned (.tuple #[.string s, .int .i64 z]) ∧ Below w.heap.size w w' := by
  have hmf : ∀ (fn : Fn) (first cap : Array Value) (w : World), (Instr.makeFunc fn first cap).run Tryz.prog w = .ok (.func fn first cap) w := fun _ _ _ _ => rfl
  have HM := Lib.hid (And.intro (And.intro a1 a2) (And.intro b1 b2))
  have HX := Lib.hid (And.intro hs hz)
  have HT := Lib.hid hT
  clear a1 a2 b1 b2 hs hz hT
  have hen : Enters 53 := enters_of Tryz.func53 (by kernel_rfl) (by kernel_rfl)
  have HN := Lib.hid hen
  clear hen
  go_enter Tryz.func28, Tryz.ntmps28
  go_wp2_with fail
  have hb0 : Below w.heap.size w (w.alloc (Obj.cells #[Value.int IntKind.i64 a, Value.int IntKind.i64 b] 25)) := (Below.refl _ _).alloc (Nat.le_refl _) _
  have HT1 := Lib.hid (HT.out.below hb0)
  refine (answer_any_str 53 _ (printO a b) er s z _ HN.out HT1.out.err (fun w1 h1 => ?_) HX.out.1 HX.out.2).mono ?_
  · obtain ⟨hc, _⟩ := bcell h1
    exact print1_any w.heap.size a b _ er w1 HM.out.1.1 HM.out.1.2 HM.out.2.1 HM.out.2.2 (HT1.out.below h1) rfl
      (by rw [hc _ _ (by simp)]; simp [go_sem]) (by rw [hc _ _ (by simp)]; simp [go_sem])
  rintro e w2 ⟨rfl, hB⟩
  have hB2 : Below w.heap.size w w2 := hb0.trans (hB.mono (by simp))
  clear hB hb0
  go_wp2_with fail
  go_ret2
  exact ⟨rfl, hB2⟩
end Go.Proofs.YtphphamfejgdaaaGreatDoor
