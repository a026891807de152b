/- Compare, Floor. Conditions: ints; the variable of the error holds a pointer. -/
import Derived.Test.YtphphamfejgdaaaGreatDoorRatI
namespace Go.Proofs.YtphphamfejgdaaaGreatDoor
open Go.RowKit

/-- What a function that gives an int or finds no result ends in. -/
def outcomeI (a : Addr) : Option Int → Ending
  | some k => .returned (.int .i64 k)
  | none => .panicked [{ v := errV a, recovered := false }]
def erI : Option Int → Int
  | some _ => 0
  | none => 30
theorem answer_any_int (fn : FuncId) (cap : Array Value) (o : Option Int) (a : Addr) (x : Int) (w : World) (hcall : Enters fn) (hE : ErrAt w a)
    (h : ∀ w1, Below w.heap.size w w1 → Calls Tryz.prog fn cap w1 fun e w2 => e = outcomeI a o ∧ Below w1.heap.size w1 w2) (hx : o.getD 0 = x) :
    Calls Tryz.prog 47 #[.func (.func fn) #[] cap] w fun e w' => (∃ z, e = .returned (.tuple #[.int .i64 x, .int .i64 z])) ∧ Below w.heap.size w w' := by
  subst hx
  cases o with
  | some k => exact (answer_ok_int fn cap a k w hcall hE h).mono (by rintro e w' ⟨rfl, hB⟩; exact ⟨⟨_, rfl⟩, hB⟩)
  | none => exact (answer_no_int fn cap a w hcall hE h).mono (by rintro e w' ⟨rfl, hB⟩; exact ⟨⟨_, rfl⟩, hB⟩)

set_option maxRecDepth 20000 in
set_option maxHeartbeats 1000000 in
theorem cmp1_any (bp bq : Nat) (a b c d : Int) (er : Addr) (w : World) (a1 : -9223372036854775808 ≤ a) (a2 : a ≤ 9223372036854775807) (b1 : -9223372036854775808 ≤ b) (b2 : b ≤ 9223372036854775807)
    (c1 : -9223372036854775808 ≤ c) (c2 : c ≤ 9223372036854775807) (d1 : -9223372036854775808 ≤ d) (d2 : d ≤ 9223372036854775807) (hE : ErrAt w er) (hT : TwoAt w bp bq a b c d) :
    Calls Tryz.prog 48 #[.pointer (some ⟨bp, 0, none⟩), .pointer (some ⟨bq, 0, none⟩)] w fun e w' => e = outcomeI er (if Rt.both a b c d then some (Rt.cmpI (a * d) (c * b)) else none) ∧ Below w.heap.size w w' := by
  have HM := Lib.hid (And.intro (fun i => two_bounds a1 a2 c1 c2 i) (fun i => two_bounds b1 b2 d1 d2 i))
  have HE := Lib.hid hE
  obtain ⟨p0, p1, q0, q1⟩ := hT
  have hp := World.block_lt_of_cell? (a := ⟨bp, 0, none⟩) (h := p0)
  have hq := World.block_lt_of_cell? (a := ⟨bq, 0, none⟩) (h := q0)
  clear a1 a2 b1 b2 c1 c2 d1 d2 hE
  obtain ⟨v, hv⟩ : ∃ v, Rt.both a b c d = v := ⟨_, rfl⟩
  rw [hv]
  have HV := Lib.hid hv
  clear hv
  obtain ⟨o, ho⟩ : ∃ o, (if v = true then some (Rt.cmpI (a * d) (c * b)) else none) = o := ⟨_, rfl⟩
  rw [ho]
  have HO := Lib.hid ho
  clear ho
  go_enter Tryz.func48, Tryz.ntmps48
  go_wp2_with fail
  have hb0 : Below w.heap.size w (w.alloc (Obj.cells #[Value.int IntKind.i64 a, Value.int IntKind.i64 b, Value.int IntKind.i64 c, Value.int IntKind.i64 d] 25)) := (Below.refl _ _).alloc (Nat.le_refl _) _
  refine (check_any w.heap.size 2 (two a c) (two b d) v er _ (by decide) (fun i _ => ⟨HM.out.1 i, HM.out.2 i⟩) ⟨fun i hi => ?_, fun i hi => ?_⟩ (HE.out.below hb0) (by rw [allV_two]; exact HV.out)).mono ?_
  · match i, hi with
    | 0, _ => simp [go_sem, two]
    | 1, _ => simp [go_sem, two]
  · match i, hi with
    | 0, _ => simp [go_sem, two]
    | 1, _ => simp [go_sem, two]
  cases v with
  | false =>
    have ho1 : o = none := by rw [← HO.out]; rfl
    subst ho1
    rintro e w2 ⟨rfl, hB⟩
    have hB2 : Below w.heap.size w w2 := hb0.trans (hB.mono (by simp))
    clear hB hb0
    unfold verdict
    go_wp2_with fail
    exact ⟨rfl, rfl, hB2⟩
  | true =>
    have ho1 : o = some (Rt.cmpI (a * d) (c * b)) := by rw [← HO.out]; rfl
    subst ho1
    have HBB := Lib.hid (both_bounds HV.out)
    rintro e w2 ⟨rfl, hB⟩
    obtain ⟨hc, hz⟩ := bcell hB
    have x0 : w2.cell? ⟨bp, 0, none⟩ = some (.int .i64 a) := by rw [hc _ _ (by first | (simp; done) | (simp; omega))]; simp [go_sem, *]
    have x1 : w2.cell? ⟨bp, 1, none⟩ = some (.int .i64 b) := by rw [hc _ _ (by first | (simp; done) | (simp; omega))]; simp [go_sem, *]
    have x2 : w2.cell? ⟨bq, 0, none⟩ = some (.int .i64 c) := by rw [hc _ _ (by first | (simp; done) | (simp; omega))]; simp [go_sem, *]
    have x3 : w2.cell? ⟨bq, 1, none⟩ = some (.int .i64 d) := by rw [hc _ _ (by first | (simp; done) | (simp; omega))]; simp [go_sem, *]
    have HB2 : Hid (Below w.heap.size w w2) := Lib.hid (hb0.trans (hB.mono (by simp)))
    clear hB hb0 hc hz p0 p1 q0 q1
    unfold verdict
    go_wp2_with fail
    have hb := HBB.out
    refine (compare_any a b c d _ _ hb.1.1 hb.1.2 hb.2.1.1 hb.2.1.2 hb.2.2.1.1 hb.2.2.1.2 hb.2.2.2.1 hb.2.2.2.2 rfl).mono ?_
    clear hb
    rintro e w3 ⟨rfl, hB3⟩
    have HB4 : Below w.heap.size w w3 := HB2.out.trans (hB3.mono HB2.out.size)
    clear hB3
    go_wp2_with fail
    go_ret
    exact ⟨rfl, HB4⟩

set_option maxRecDepth 20000 in
set_option maxHeartbeats 1000000 in
theorem Compare_any (a b c d x : Int) (er : Addr) (w : World) (a1 : -9223372036854775808 ≤ a) (a2 : a ≤ 9223372036854775807) (b1 : -9223372036854775808 ≤ b) (b2 : b ≤ 9223372036854775807)
    (c1 : -9223372036854775808 ≤ c) (c2 : c ≤ 9223372036854775807) (d1 : -9223372036854775808 ≤ d) (d2 : d ≤ 9223372036854775807) (hE : ErrAt w er) (hx : Rt.cmpO a b c d = x) :
    Calls Tryz.prog 22 #[frac a b, frac c d] w fun e w' => e = .returned (.int .i64 x) ∧ Below w.heap.size w w' := by
  have hmf : ∀ (fn : Fn) (first cap : Array Value) (w : World), (Instr.makeFunc fn first cap).run Tryz.prog w = .ok (.func fn first cap) w := fun _ _ _ _ => rfl
  have HM := Lib.hid (And.intro (And.intro a1 a2) (And.intro (And.intro b1 b2) (And.intro (And.intro c1 c2) (And.intro d1 d2))))
  have HX := Lib.hid hx
  have HE := Lib.hid hE
  clear a1 a2 b1 b2 c1 c2 d1 d2 hx hE
  have hen : Enters 48 := enters_of Tryz.func48 (by kernel_rfl) (by kernel_rfl)
  have HN := Lib.hid hen
  clear hen
  go_enter Tryz.func22, Tryz.ntmps22
  go_wp2_with fail
  have hb0 : Below w.heap.size w ((w.alloc (Obj.cells #[Value.int IntKind.i64 a, Value.int IntKind.i64 b] 25)).alloc (Obj.cells #[Value.int IntKind.i64 c, Value.int IntKind.i64 d] 25)) :=
    ((Below.refl _ _).alloc (Nat.le_refl _) _).alloc (by simp) _
  have HE1 := Lib.hid (HE.out.below hb0)
  refine (answer_any_int 48 _ (if Rt.both a b c d then some (Rt.cmpI (a * d) (c * b)) else none) er x _ HN.out HE1.out (fun w1 h1 => ?_) ?_).mono ?_
  · obtain ⟨hc, _⟩ := bcell h1
    exact cmp1_any w.heap.size (w.heap.size + 1) a b c d er w1 HM.out.1.1 HM.out.1.2 HM.out.2.1.1 HM.out.2.1.2 HM.out.2.2.1.1 HM.out.2.2.1.2 HM.out.2.2.2.1 HM.out.2.2.2.2 (HE1.out.below h1)
      ⟨by rw [hc _ _ (by simp; omega)]; simp [go_sem], by rw [hc _ _ (by simp; omega)]; simp [go_sem], by rw [hc _ _ (by simp)]; simp [go_sem], by rw [hc _ _ (by simp)]; simp [go_sem]⟩
  · rw [← HX.out]; unfold Rt.cmpO; split <;> rfl
  rintro e w2 ⟨⟨z, rfl⟩, hB⟩
  have hB2 : Below w.heap.size w w2 := hb0.trans (hB.mono (by simp; omega))
  clear hB hb0
  go_wp2_with fail
  go_ret
  exact ⟨rfl, hB2⟩

/-! Floor -/
theorem allV_one (a b : Int) : allV (two a a) (two b b) 1 = (Rt.rd a b).isSome := by simp [allV, two]
theorem one_bounds {a b : Int} {v : Bool} (hv : (Rt.rd a b).isSome = v) (h : v = true) : (-1000000000 ≤ a ∧ a ≤ 1000000000) ∧ 1 ≤ b ∧ b ≤ 1000000000 := by
  subst h
  cases h : Rt.rd a b with
  | none => rw [h] at hv; cases hv
  | some p =>
    obtain ⟨a1, a2, b1, b2⟩ := Rt.rd_bounds h
    exact ⟨⟨a1, a2⟩, b1, b2⟩

set_option maxRecDepth 20000 in
set_option maxHeartbeats 1000000 in
theorem floor1_any (bp : Nat) (a b : Int) (er : Addr) (w : World) (a1 : -9223372036854775808 ≤ a) (a2 : a ≤ 9223372036854775807) (b1 : -9223372036854775808 ≤ b) (b2 : b ≤ 9223372036854775807)
    (hE : ErrAt w er) (p0 : w.cell? ⟨bp, 0, none⟩ = some (.int .i64 a)) (p1 : w.cell? ⟨bp, 1, none⟩ = some (.int .i64 b)) :
    Calls Tryz.prog 50 #[.pointer (some ⟨bp, 0, none⟩)] w fun e w' => e = outcomeI er (if (Rt.rd a b).isSome then some (a / b) else none) ∧ Below w.heap.size w w' := by
  have HM := Lib.hid (And.intro (fun i => two_bounds a1 a2 a1 a2 i) (fun i => two_bounds b1 b2 b1 b2 i))
  have HE := Lib.hid hE
  have hp := World.block_lt_of_cell? (a := ⟨bp, 0, none⟩) (h := p0)
  clear a1 a2 b1 b2 hE
  obtain ⟨v, hv⟩ : ∃ v, (Rt.rd a b).isSome = v := ⟨_, rfl⟩
  rw [hv]
  have HV := Lib.hid hv
  clear hv
  obtain ⟨o, ho⟩ : ∃ o, (if v = true then some (a / b) else none) = o := ⟨_, rfl⟩
  rw [ho]
  have HO := Lib.hid ho
  clear ho
  go_enter Tryz.func50, Tryz.ntmps50
  go_wp2_with fail
  have hb0 : Below w.heap.size w (w.alloc (Obj.cells #[Value.int IntKind.i64 a, Value.int IntKind.i64 b] 25)) := (Below.refl _ _).alloc (Nat.le_refl _) _
  refine (check_any w.heap.size 1 (two a a) (two b b) v er _ (by decide) (fun i _ => ⟨HM.out.1 i, HM.out.2 i⟩) ⟨fun i hi => ?_, fun i hi => ?_⟩ (HE.out.below hb0) (by rw [allV_one]; exact HV.out)).mono ?_
  · match i, hi with
    | 0, _ => simp [go_sem, two]
  · match i, hi with
    | 0, _ => simp [go_sem, two]
  cases v with
  | false =>
    have ho1 : o = none := by rw [← HO.out]; rfl
    subst ho1
    rintro e w2 ⟨rfl, hB⟩
    have hB2 : Below w.heap.size w w2 := hb0.trans (hB.mono (by simp))
    clear hB hb0
    unfold verdict
    go_wp2_with fail
    exact ⟨rfl, rfl, hB2⟩
  | true =>
    have ho1 : o = some (a / b) := by rw [← HO.out]; rfl
    subst ho1
    have HBB := Lib.hid (one_bounds HV.out rfl)
    rintro e w2 ⟨rfl, hB⟩
    obtain ⟨hc, hz⟩ := bcell hB
    have x0 : w2.cell? ⟨bp, 0, none⟩ = some (.int .i64 a) := by rw [hc _ _ (by first | (simp; done) | (simp; omega))]; simp [go_sem, *]
    have x1 : w2.cell? ⟨bp, 1, none⟩ = some (.int .i64 b) := by rw [hc _ _ (by first | (simp; done) | (simp; omega))]; simp [go_sem, *]
    have HB2 : Hid (Below w.heap.size w w2) := Lib.hid (hb0.trans (hB.mono (by simp)))
    clear hB hb0 hc hz p0 p1
    unfold verdict
    go_wp2_with fail
    have hb := HBB.out
    refine (floor_any a b _ _ (by omega) (by omega) hb.2.1 (by omega) rfl).mono ?_
    clear hb
    rintro e w3 ⟨rfl, rfl⟩
    go_wp2_with fail
    go_ret
    exact ⟨rfl, HB2.out⟩

set_option maxRecDepth 20000 in
set_option maxHeartbeats 1000000 in
theorem Floor_any (a b x : Int) (er : Addr) (w : World) (a1 : -9223372036854775808 ≤ a) (a2 : a ≤ 9223372036854775807) (b1 : -9223372036854775808 ≤ b) (b2 : b ≤ 9223372036854775807)
    (hE : ErrAt w er) (hx : Rt.floorO a b = x) :
    Calls Tryz.prog 24 #[frac a b] w fun e w' => e = .returned (.int .i64 x) ∧ Below w.heap.size w w' := by
  have hmf : ∀ (fn : Fn) (first cap : Array Value) (w : World), (Instr.makeFunc fn first cap).run Tryz.prog w = .ok (.func fn first cap) w := fun _ _ _ _ => rfl
  have HM := Lib.hid (And.intro (And.intro a1 a2) (And.intro b1 b2))
  have HX := Lib.hid hx
  have HE := Lib.hid hE
  clear a1 a2 b1 b2 hx hE
  have hen : Enters 50 := enters_of Tryz.func50 (by kernel_rfl) (by kernel_rfl)
  have HN := Lib.hid hen
  clear hen
  go_enter Tryz.func24, Tryz.ntmps24
  go_wp2_with fail
  have hb0 : Below w.heap.size w (w.alloc (Obj.cells #[Value.int IntKind.i64 a, Value.int IntKind.i64 b] 25)) := (Below.refl _ _).alloc (Nat.le_refl _) _
  have HE1 := Lib.hid (HE.out.below hb0)
  refine (answer_any_int 50 _ (if (Rt.rd a b).isSome then some (a / b) else none) er x _ HN.out HE1.out (fun w1 h1 => ?_) ?_).mono ?_
  · obtain ⟨hc, _⟩ := bcell h1
    exact floor1_any w.heap.size a b er w1 HM.out.1.1 HM.out.1.2 HM.out.2.1 HM.out.2.2 (HE1.out.below h1)
      (by rw [hc _ _ (by simp)]; simp [go_sem]) (by rw [hc _ _ (by simp)]; simp [go_sem])
  · rw [← HX.out]; unfold Rt.floorO; split <;> rfl
  rintro e w2 ⟨⟨z, rfl⟩, hB⟩
  have hB2 : Below w.heap.size w w2 := hb0.trans (hB.mono (by simp))
  clear hB hb0
  go_wp2_with fail
  go_ret
  exact ⟨rfl, hB2⟩
end Go.Proofs.YtphphamfejgdaaaGreatDoor
