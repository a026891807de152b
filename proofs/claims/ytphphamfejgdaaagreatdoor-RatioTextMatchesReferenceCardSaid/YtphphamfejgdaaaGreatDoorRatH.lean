/- Add, Sub, Mul, Div. Conditions: ints; the variable of the error holds a pointer. (Written by gen_h.py.) -/
import Derived.Test.YtphphamfejgdaaaGreatDoorRatG
namespace Go.Proofs.YtphphamfejgdaaaGreatDoor
open Go.RowKit

/-- The numbers of two fractions. -/
def two (a c : Int) (i : Nat) : Int := if i = 0 then a else c
theorem allV_two (a b c d : Int) : allV (two a c) (two b d) 2 = Rt.both a b c d := by simp [allV, two, Rt.both]
theorem prod_bound {x y : Int} (hx : -1000000000 ≤ x) (hx2 : x ≤ 1000000000) (hy : -1000000000 ≤ y) (hy2 : y ≤ 1000000000) : -1000000000000000000 ≤ x * y ∧ x * y ≤ 1000000000000000000 := by
  have h : (x * y).natAbs ≤ 1000000000 * 1000000000 := by
    rw [Int.natAbs_mul]; exact Nat.mul_le_mul (by omega) (by omega)
  omega
theorem both_bounds {a b c d : Int} (h : Rt.both a b c d = true) : (-1000000000 ≤ a ∧ a ≤ 1000000000) ∧ (1 ≤ b ∧ b ≤ 1000000000) ∧ (-1000000000 ≤ c ∧ c ≤ 1000000000) ∧ 1 ≤ d ∧ d ≤ 1000000000 := by
  obtain ⟨p, q, hp, hq⟩ := Rt.both_some h
  obtain ⟨a1, a2, b1, b2⟩ := Rt.rd_bounds hp
  obtain ⟨c1, c2, d1, d2⟩ := Rt.rd_bounds hq
  exact ⟨⟨a1, a2⟩, ⟨b1, b2⟩, ⟨c1, c2⟩, d1, d2⟩
theorem two_bounds {a c : Int} (a1 : -9223372036854775808 ≤ a) (a2 : a ≤ 9223372036854775807) (c1 : -9223372036854775808 ≤ c) (c2 : c ≤ 9223372036854775807) (i : Nat) : -9223372036854775808 ≤ two a c i ∧ two a c i ≤ 9223372036854775807 := by
  unfold two; split
  · exact ⟨a1, a2⟩
  · exact ⟨c1, c2⟩
/-- The two fractions in memory, as a closure finds them. -/
structure TwoAt (w : World) (bp bq : Nat) (a b c d : Int) : Prop where
  p0 : w.cell? ⟨bp, 0, none⟩ = some (.int .i64 a)
  p1 : w.cell? ⟨bp, 1, none⟩ = some (.int .i64 b)
  q0 : w.cell? ⟨bq, 0, none⟩ = some (.int .i64 c)
  q1 : w.cell? ⟨bq, 1, none⟩ = some (.int .i64 d)


set_option maxRecDepth 20000 in
set_option maxHeartbeats 1000000 in
theorem add1_any (bp bq : Nat) (a b c d : Int) (o : Option Rat) (er : Addr) (w : World) (a1 : -9223372036854775808 ≤ a) (a2 : a ≤ 9223372036854775807) (b1 : -9223372036854775808 ≤ b) (b2 : b ≤ 9223372036854775807)
    (c1 : -9223372036854775808 ≤ c) (c2 : c ≤ 9223372036854775807) (d1 : -9223372036854775808 ≤ d) (d2 : d ≤ 9223372036854775807) (hE : ErrAt w er) (ho : Rt.addO a b c d = o) (hT : TwoAt w bp bq a b c d) :
    Calls Tryz.prog 38 #[.pointer (some ⟨bp, 0, none⟩), .pointer (some ⟨bq, 0, none⟩)] w fun e w' => e = outcome er o ∧ Below w.heap.size w w' := by
  have HM := Lib.hid (And.intro (fun i => two_bounds a1 a2 c1 c2 i) (fun i => two_bounds b1 b2 d1 d2 i))
  have HE := Lib.hid hE
  have HO := Lib.hid ho
  obtain ⟨p0, p1, q0, q1⟩ := hT
  have hp := World.block_lt_of_cell? (a := ⟨bp, 0, none⟩) (h := p0)
  have hq := World.block_lt_of_cell? (a := ⟨bq, 0, none⟩) (h := q0)
  clear a1 a2 b1 b2 c1 c2 d1 d2 hE ho
  go_enter Tryz.func38, Tryz.ntmps38
  go_wp2_with fail
  obtain ⟨v, hv⟩ : ∃ v, Rt.both a b c d = v := ⟨_, rfl⟩
  have hb0 : Below w.heap.size w ((w.alloc (Obj.cells #[Value.int IntKind.i64 0, Value.int IntKind.i64 0] 25)).alloc (Obj.cells #[Value.int IntKind.i64 a, Value.int IntKind.i64 b, Value.int IntKind.i64 c, Value.int IntKind.i64 d] 25)) :=
    ((Below.refl _ _).alloc (Nat.le_refl _) _).alloc (by simp) _
  refine (check_any (w.heap.size + 1) 2 (two a c) (two b d) v er _ (by decide) (fun i _ => ⟨HM.out.1 i, HM.out.2 i⟩) ⟨fun i hi => ?_, fun i hi => ?_⟩ (HE.out.below hb0) (by rw [allV_two]; exact hv)).mono ?_
  · match i, hi with
    | 0, _ => simp [go_sem, two]
    | 1, _ => simp [go_sem, two]
  · match i, hi with
    | 0, _ => simp [go_sem, two]
    | 1, _ => simp [go_sem, two]
  cases v with
  | false =>
    have ho1 : o = none := by rw [← HO.out]; unfold Rt.addO; rw [hv]; rfl
    subst ho1
    clear hv
    rintro e w2 ⟨rfl, hB⟩
    have hB2 : Below w.heap.size w w2 := hb0.trans (hB.mono (by simp; omega))
    clear hB hb0
    unfold verdict
    go_wp2_with fail
    exact ⟨rfl, rfl, hB2⟩
  | true =>
    have hb := both_bounds hv
    have ho1 : Rt.mk ((a * d) + (c * b)) (b * d) = o := by have := HO.out; unfold Rt.addO at this; rw [hv] at this; exact this
    have k0 := prod_bound (x := a) (y := d) hb.1.1 hb.1.2 (by omega) hb.2.2.2.2
    obtain ⟨P0, hP0⟩ : ∃ P, a * d = P := ⟨_, rfl⟩
    rw [hP0] at k0 ho1
    have k1 := prod_bound (x := c) (y := b) hb.2.2.1.1 hb.2.2.1.2 (by omega) hb.2.1.2
    obtain ⟨P1, hP1⟩ : ∃ P, c * b = P := ⟨_, rfl⟩
    rw [hP1] at k1 ho1
    have k2 := prod_bound (x := b) (y := d) (by omega) hb.2.1.2 (by omega) hb.2.2.2.2
    obtain ⟨P2, hP2⟩ : ∃ P, b * d = P := ⟨_, rfl⟩
    rw [hP2] at k2 ho1
    have n1 : -9223372036854775808 ≤ P0 + P1 := by omega
    have n2 : P0 + P1 ≤ 9223372036854775807 := by omega
    have m0 : -9223372036854775808 ≤ P0 := by omega
    have l0 : P0 ≤ 9223372036854775807 := by omega
    have m1 : -9223372036854775808 ≤ P1 := by omega
    have l1 : P1 ≤ 9223372036854775807 := by omega
    have m2 : -9223372036854775808 ≤ P2 := by omega
    have l2 : P2 ≤ 9223372036854775807 := by omega
    have HO1 := Lib.hid ho1
    clear hv hb ho1 k0 k1 k2
    rintro e w2 ⟨rfl, hB⟩
    obtain ⟨hc, hz⟩ := bcell hB
    have x0 : w2.cell? ⟨bp, 0, none⟩ = some (.int .i64 a) := by rw [hc _ _ (by first | (simp; done) | (simp; omega))]; simp [go_sem, *]
    have x1 : w2.cell? ⟨bp, 1, none⟩ = some (.int .i64 b) := by rw [hc _ _ (by first | (simp; done) | (simp; omega))]; simp [go_sem, *]
    have x2 : w2.cell? ⟨bq, 0, none⟩ = some (.int .i64 c) := by rw [hc _ _ (by first | (simp; done) | (simp; omega))]; simp [go_sem, *]
    have x3 : w2.cell? ⟨bq, 1, none⟩ = some (.int .i64 d) := by rw [hc _ _ (by first | (simp; done) | (simp; omega))]; simp [go_sem, *]
    have y0 : w2.cell? ⟨w.heap.size, 0, none⟩ = some (.int .i64 0) := by rw [hc _ _ (by first | (simp; done) | (simp; omega))]; simp [go_sem]
    have y1 : w2.cell? ⟨w.heap.size, 1, none⟩ = some (.int .i64 0) := by rw [hc _ _ (by first | (simp; done) | (simp; omega))]; simp [go_sem]
    have z0 : w2.frozen? ⟨w.heap.size, 0, none⟩ = false := by rw [hz _ _ (by first | (simp; done) | (simp; omega))]; simp [go_sem]
    have z1 : w2.frozen? ⟨w.heap.size, 1, none⟩ = false := by rw [hz _ _ (by first | (simp; done) | (simp; omega))]; simp [go_sem]
    have hsz : w.heap.size < w2.heap.size := by have := hB.size; simp at this; omega
    have HB2 : Hid (Below w.heap.size w w2) := Lib.hid (hb0.trans (hB.mono (by simp; omega)))
    clear hB hb0 hc hz p0 p1 q0 q1
    unfold verdict
    go_wp2_with fail
    cases o with
    | none =>
      refine (quotient_no (P0 + P1) (P2) er _ n1 n2 m2 l2 HO1.out (HE.out.below HB2.out)).mono ?_
      rintro e w3 ⟨rfl, hB3⟩
      have hB4 : Below w.heap.size w w3 := HB2.out.trans (hB3.mono (by omega))
      clear hB3
      go_wp2_with fail
      exact ⟨rfl, rfl, hB4⟩
    | some q =>
      refine (quotient_ok (P0 + P1) (P2) q.num q.den q _ n1 n2 m2 l2 HO1.out rfl rfl).mono ?_
      rintro e w3 ⟨rfl, hB3⟩
      have HB4 : Hid (Below w.heap.size w w3) := Lib.hid (HB2.out.trans (hB3.mono (by omega)))
      obtain ⟨hc, hz⟩ := bcell hB3
      rw [← hc _ _ hsz] at y0 y1
      rw [← hz _ _ hsz] at z0 z1
      clear hB3 hc hz
      go_wp2_with fail
      refine bodyPost_ret (v := frac q.num q.den) (by simp [results, Tryz.results38, go_sem, y0, y1]) rfl ⟨rfl, ?_⟩
      exact (HB4.out.setCell (Nat.le_refl _) _).setCell (Nat.le_refl _) _

set_option maxRecDepth 20000 in
set_option maxHeartbeats 1000000 in
theorem add_any (a b c d x y z : Int) (er : Addr) (w : World) (a1 : -9223372036854775808 ≤ a) (a2 : a ≤ 9223372036854775807) (b1 : -9223372036854775808 ≤ b) (b2 : b ≤ 9223372036854775807)
    (c1 : -9223372036854775808 ≤ c) (c2 : c ≤ 9223372036854775807) (d1 : -9223372036854775808 ≤ d) (d2 : d ≤ 9223372036854775807) (hE : ErrAt w er)
    (hx : Rt.nm (Rt.addO a b c d) = x) (hy : Rt.dn (Rt.addO a b c d) = y) (hz : Rt.er (Rt.addO a b c d) = z) :
    Calls Tryz.prog 10 #[frac a b, frac c d] w fun e w' => e = .returned (.tuple #[frac x y, .int .i64 z]) ∧ Below w.heap.size w w' := by
  have hmf : ∀ (fn : Fn) (first cap : Array Value) (w : World), (Instr.makeFunc fn first cap).run Tryz.prog w = .ok (.func fn first cap) w := fun _ _ _ _ => rfl
  have HM := Lib.hid (And.intro (And.intro a1 a2) (And.intro (And.intro b1 b2) (And.intro (And.intro c1 c2) (And.intro d1 d2))))
  have HX := Lib.hid (And.intro hx (And.intro hy hz))
  have HE := Lib.hid hE
  clear a1 a2 b1 b2 c1 c2 d1 d2 hx hy hz hE
  have hen : Enters 38 := enters_of Tryz.func38 (by kernel_rfl) (by kernel_rfl)
  have HN := Lib.hid hen
  clear hen
  go_enter Tryz.func10, Tryz.ntmps10
  go_wp2_with fail
  have hb0 : Below w.heap.size w (((w.alloc (Obj.cells #[Value.int IntKind.i64 a, Value.int IntKind.i64 b] 25)).alloc (Obj.cells #[Value.int IntKind.i64 c, Value.int IntKind.i64 d] 25)).alloc (Obj.cells #[Value.int IntKind.i64 0, Value.int IntKind.i64 0] 25)) :=
    (((Below.refl _ _).alloc (Nat.le_refl _) _).alloc (by simp) _).alloc (by simp; omega) _
  have HE1 := Lib.hid (HE.out.below hb0)
  have HT : ∀ w1, Below _ _ w1 → Calls Tryz.prog 38 _ w1 fun e w2 => e = outcome er (Rt.addO a b c d) ∧ Below w1.heap.size w1 w2 := fun w1 h1 => by
    obtain ⟨hc, _⟩ := bcell h1
    exact add1_any w.heap.size (w.heap.size + 1) a b c d _ er w1 HM.out.1.1 HM.out.1.2 HM.out.2.1.1 HM.out.2.1.2 HM.out.2.2.1.1 HM.out.2.2.1.2 HM.out.2.2.2.1 HM.out.2.2.2.2 (HE1.out.below h1) rfl
      ⟨by rw [hc _ _ (by simp; omega)]; simp [go_sem], by rw [hc _ _ (by simp; omega)]; simp [go_sem], by rw [hc _ _ (by simp)]; simp [go_sem], by rw [hc _ _ (by simp)]; simp [go_sem]⟩
  refine (answer_any 38 _ (Rt.addO a b c d) er x y z _ HN.out HE1.out (fun q hq w1 h1 => ?_) (fun hq w1 h1 => ?_) HX.out).mono ?_
  · have h2 := HT w1 h1
    rw [hq] at h2
    exact h2
  · have h2 := HT w1 h1
    rw [hq] at h2
    exact h2
  clear HT
  rintro e w2 ⟨rfl, hB⟩
  obtain ⟨hc, hz⟩ := bcell hB
  have hc0 : w2.cell? ⟨w.heap.size + 1 + 1, 0, none⟩ = some (.int .i64 0) := by rw [hc _ _ (by first | (simp; done) | (simp; omega))]; simp [go_sem]
  have hc1 : w2.cell? ⟨w.heap.size + 1 + 1, 1, none⟩ = some (.int .i64 0) := by rw [hc _ _ (by first | (simp; done) | (simp; omega))]; simp [go_sem]
  have hz0 : w2.frozen? ⟨w.heap.size + 1 + 1, 0, none⟩ = false := by rw [hz _ _ (by first | (simp; done) | (simp; omega))]; simp [go_sem]
  have hz1 : w2.frozen? ⟨w.heap.size + 1 + 1, 1, none⟩ = false := by rw [hz _ _ (by first | (simp; done) | (simp; omega))]; simp [go_sem]
  have hB2 : Below w.heap.size w w2 := hb0.trans (hB.mono (by simp; omega))
  clear hc hz
  go_wp2_with fail
  refine bodyPost_ret (v := .tuple #[frac x y, .int .i64 z]) (by simp [results, Tryz.results10, go_sem, hc0, hc1]) rfl ⟨rfl, ?_⟩
  exact (hB2.setCell (by simp; omega) _).setCell (by simp; omega) _

set_option maxRecDepth 20000 in
set_option maxHeartbeats 1000000 in
theorem sub1_any (bp bq : Nat) (a b c d : Int) (o : Option Rat) (er : Addr) (w : World) (a1 : -9223372036854775808 ≤ a) (a2 : a ≤ 9223372036854775807) (b1 : -9223372036854775808 ≤ b) (b2 : b ≤ 9223372036854775807)
    (c1 : -9223372036854775808 ≤ c) (c2 : c ≤ 9223372036854775807) (d1 : -9223372036854775808 ≤ d) (d2 : d ≤ 9223372036854775807) (hE : ErrAt w er) (ho : Rt.subO a b c d = o) (hT : TwoAt w bp bq a b c d) :
    Calls Tryz.prog 41 #[.pointer (some ⟨bp, 0, none⟩), .pointer (some ⟨bq, 0, none⟩)] w fun e w' => e = outcome er o ∧ Below w.heap.size w w' := by
  have HM := Lib.hid (And.intro (fun i => two_bounds a1 a2 c1 c2 i) (fun i => two_bounds b1 b2 d1 d2 i))
  have HE := Lib.hid hE
  have HO := Lib.hid ho
  obtain ⟨p0, p1, q0, q1⟩ := hT
  have hp := World.block_lt_of_cell? (a := ⟨bp, 0, none⟩) (h := p0)
  have hq := World.block_lt_of_cell? (a := ⟨bq, 0, none⟩) (h := q0)
  clear a1 a2 b1 b2 c1 c2 d1 d2 hE ho
  go_enter Tryz.func41, Tryz.ntmps41
  go_wp2_with fail
  obtain ⟨v, hv⟩ : ∃ v, Rt.both a b c d = v := ⟨_, rfl⟩
  have hb0 : Below w.heap.size w ((w.alloc (Obj.cells #[Value.int IntKind.i64 0, Value.int IntKind.i64 0] 25)).alloc (Obj.cells #[Value.int IntKind.i64 a, Value.int IntKind.i64 b, Value.int IntKind.i64 c, Value.int IntKind.i64 d] 25)) :=
    ((Below.refl _ _).alloc (Nat.le_refl _) _).alloc (by simp) _
  refine (check_any (w.heap.size + 1) 2 (two a c) (two b d) v er _ (by decide) (fun i _ => ⟨HM.out.1 i, HM.out.2 i⟩) ⟨fun i hi => ?_, fun i hi => ?_⟩ (HE.out.below hb0) (by rw [allV_two]; exact hv)).mono ?_
  · match i, hi with
    | 0, _ => simp [go_sem, two]
    | 1, _ => simp [go_sem, two]
  · match i, hi with
    | 0, _ => simp [go_sem, two]
    | 1, _ => simp [go_sem, two]
  cases v with
  | false =>
    have ho1 : o = none := by rw [← HO.out]; unfold Rt.subO; rw [hv]; rfl
    subst ho1
    clear hv
    rintro e w2 ⟨rfl, hB⟩
    have hB2 : Below w.heap.size w w2 := hb0.trans (hB.mono (by simp; omega))
    clear hB hb0
    unfold verdict
    go_wp2_with fail
    exact ⟨rfl, rfl, hB2⟩
  | true =>
    have hb := both_bounds hv
    have ho1 : Rt.mk ((a * d) - (c * b)) (b * d) = o := by have := HO.out; unfold Rt.subO at this; rw [hv] at this; exact this
    have k0 := prod_bound (x := a) (y := d) hb.1.1 hb.1.2 (by omega) hb.2.2.2.2
    obtain ⟨P0, hP0⟩ : ∃ P, a * d = P := ⟨_, rfl⟩
    rw [hP0] at k0 ho1
    have k1 := prod_bound (x := c) (y := b) hb.2.2.1.1 hb.2.2.1.2 (by omega) hb.2.1.2
    obtain ⟨P1, hP1⟩ : ∃ P, c * b = P := ⟨_, rfl⟩
    rw [hP1] at k1 ho1
    have k2 := prod_bound (x := b) (y := d) (by omega) hb.2.1.2 (by omega) hb.2.2.2.2
    obtain ⟨P2, hP2⟩ : ∃ P, b * d = P := ⟨_, rfl⟩
    rw [hP2] at k2 ho1
    have n1 : -9223372036854775808 ≤ P0 - P1 := by omega
    have n2 : P0 - P1 ≤ 9223372036854775807 := by omega
    have m0 : -9223372036854775808 ≤ P0 := by omega
    have l0 : P0 ≤ 9223372036854775807 := by omega
    have m1 : -9223372036854775808 ≤ P1 := by omega
    have l1 : P1 ≤ 9223372036854775807 := by omega
    have m2 : -9223372036854775808 ≤ P2 := by omega
    have l2 : P2 ≤ 9223372036854775807 := by omega
    have HO1 := Lib.hid ho1
    clear hv hb ho1 k0 k1 k2
    rintro e w2 ⟨rfl, hB⟩
    obtain ⟨hc, hz⟩ := bcell hB
    have x0 : w2.cell? ⟨bp, 0, none⟩ = some (.int .i64 a) := by rw [hc _ _ (by first | (simp; done) | (simp; omega))]; simp [go_sem, *]
    have x1 : w2.cell? ⟨bp, 1, none⟩ = some (.int .i64 b) := by rw [hc _ _ (by first | (simp; done) | (simp; omega))]; simp [go_sem, *]
    have x2 : w2.cell? ⟨bq, 0, none⟩ = some (.int .i64 c) := by rw [hc _ _ (by first | (simp; done) | (simp; omega))]; simp [go_sem, *]
    have x3 : w2.cell? ⟨bq, 1, none⟩ = some (.int .i64 d) := by rw [hc _ _ (by first | (simp; done) | (simp; omega))]; simp [go_sem, *]
    have y0 : w2.cell? ⟨w.heap.size, 0, none⟩ = some (.int .i64 0) := by rw [hc _ _ (by first | (simp; done) | (simp; omega))]; simp [go_sem]
    have y1 : w2.cell? ⟨w.heap.size, 1, none⟩ = some (.int .i64 0) := by rw [hc _ _ (by first | (simp; done) | (simp; omega))]; simp [go_sem]
    have z0 : w2.frozen? ⟨w.heap.size, 0, none⟩ = false := by rw [hz _ _ (by first | (simp; done) | (simp; omega))]; simp [go_sem]
    have z1 : w2.frozen? ⟨w.heap.size, 1, none⟩ = false := by rw [hz _ _ (by first | (simp; done) | (simp; omega))]; simp [go_sem]
    have hsz : w.heap.size < w2.heap.size := by have := hB.size; simp at this; omega
    have HB2 : Hid (Below w.heap.size w w2) := Lib.hid (hb0.trans (hB.mono (by simp; omega)))
    clear hB hb0 hc hz p0 p1 q0 q1
    unfold verdict
    go_wp2_with fail
    cases o with
    | none =>
      refine (quotient_no (P0 - P1) (P2) er _ n1 n2 m2 l2 HO1.out (HE.out.below HB2.out)).mono ?_
      rintro e w3 ⟨rfl, hB3⟩
      have hB4 : Below w.heap.size w w3 := HB2.out.trans (hB3.mono (by omega))
      clear hB3
      go_wp2_with fail
      exact ⟨rfl, rfl, hB4⟩
    | some q =>
      refine (quotient_ok (P0 - P1) (P2) q.num q.den q _ n1 n2 m2 l2 HO1.out rfl rfl).mono ?_
      rintro e w3 ⟨rfl, hB3⟩
      have HB4 : Hid (Below w.heap.size w w3) := Lib.hid (HB2.out.trans (hB3.mono (by omega)))
      obtain ⟨hc, hz⟩ := bcell hB3
      rw [← hc _ _ hsz] at y0 y1
      rw [← hz _ _ hsz] at z0 z1
      clear hB3 hc hz
      go_wp2_with fail
      refine bodyPost_ret (v := frac q.num q.den) (by simp [results, Tryz.results41, go_sem, y0, y1]) rfl ⟨rfl, ?_⟩
      exact (HB4.out.setCell (Nat.le_refl _) _).setCell (Nat.le_refl _) _

set_option maxRecDepth 20000 in
set_option maxHeartbeats 1000000 in
theorem sub_any (a b c d x y z : Int) (er : Addr) (w : World) (a1 : -9223372036854775808 ≤ a) (a2 : a ≤ 9223372036854775807) (b1 : -9223372036854775808 ≤ b) (b2 : b ≤ 9223372036854775807)
    (c1 : -9223372036854775808 ≤ c) (c2 : c ≤ 9223372036854775807) (d1 : -9223372036854775808 ≤ d) (d2 : d ≤ 9223372036854775807) (hE : ErrAt w er)
    (hx : Rt.nm (Rt.subO a b c d) = x) (hy : Rt.dn (Rt.subO a b c d) = y) (hz : Rt.er (Rt.subO a b c d) = z) :
    Calls Tryz.prog 12 #[frac a b, frac c d] w fun e w' => e = .returned (.tuple #[frac x y, .int .i64 z]) ∧ Below w.heap.size w w' := by
  have hmf : ∀ (fn : Fn) (first cap : Array Value) (w : World), (Instr.makeFunc fn first cap).run Tryz.prog w = .ok (.func fn first cap) w := fun _ _ _ _ => rfl
  have HM := Lib.hid (And.intro (And.intro a1 a2) (And.intro (And.intro b1 b2) (And.intro (And.intro c1 c2) (And.intro d1 d2))))
  have HX := Lib.hid (And.intro hx (And.intro hy hz))
  have HE := Lib.hid hE
  clear a1 a2 b1 b2 c1 c2 d1 d2 hx hy hz hE
  have hen : Enters 41 := enters_of Tryz.func41 (by kernel_rfl) (by kernel_rfl)
  have HN := Lib.hid hen
  clear hen
  go_enter Tryz.func12, Tryz.ntmps12
  go_wp2_with fail
  have hb0 : Below w.heap.size w (((w.alloc (Obj.cells #[Value.int IntKind.i64 a, Value.int IntKind.i64 b] 25)).alloc (Obj.cells #[Value.int IntKind.i64 c, Value.int IntKind.i64 d] 25)).alloc (Obj.cells #[Value.int IntKind.i64 0, Value.int IntKind.i64 0] 25)) :=
    (((Below.refl _ _).alloc (Nat.le_refl _) _).alloc (by simp) _).alloc (by simp; omega) _
  have HE1 := Lib.hid (HE.out.below hb0)
  have HT : ∀ w1, Below _ _ w1 → Calls Tryz.prog 41 _ w1 fun e w2 => e = outcome er (Rt.subO a b c d) ∧ Below w1.heap.size w1 w2 := fun w1 h1 => by
    obtain ⟨hc, _⟩ := bcell h1
    exact sub1_any w.heap.size (w.heap.size + 1) a b c d _ er w1 HM.out.1.1 HM.out.1.2 HM.out.2.1.1 HM.out.2.1.2 HM.out.2.2.1.1 HM.out.2.2.1.2 HM.out.2.2.2.1 HM.out.2.2.2.2 (HE1.out.below h1) rfl
      ⟨by rw [hc _ _ (by simp; omega)]; simp [go_sem], by rw [hc _ _ (by simp; omega)]; simp [go_sem], by rw [hc _ _ (by simp)]; simp [go_sem], by rw [hc _ _ (by simp)]; simp [go_sem]⟩
  refine (answer_any 41 _ (Rt.subO a b c d) er x y z _ HN.out HE1.out (fun q hq w1 h1 => ?_) (fun hq w1 h1 => ?_) HX.out).mono ?_
  · have h2 := HT w1 h1
    rw [hq] at h2
    exact h2
  · have h2 := HT w1 h1
    rw [hq] at h2
    exact h2
  clear HT
  rintro e w2 ⟨rfl, hB⟩
  obtain ⟨hc, hz⟩ := bcell hB
  have hc0 : w2.cell? ⟨w.heap.size + 1 + 1, 0, none⟩ = some (.int .i64 0) := by rw [hc _ _ (by first | (simp; done) | (simp; omega))]; simp [go_sem]
  have hc1 : w2.cell? ⟨w.heap.size + 1 + 1, 1, none⟩ = some (.int .i64 0) := by rw [hc _ _ (by first | (simp; done) | (simp; omega))]; simp [go_sem]
  have hz0 : w2.frozen? ⟨w.heap.size + 1 + 1, 0, none⟩ = false := by rw [hz _ _ (by first | (simp; done) | (simp; omega))]; simp [go_sem]
  have hz1 : w2.frozen? ⟨w.heap.size + 1 + 1, 1, none⟩ = false := by rw [hz _ _ (by first | (simp; done) | (simp; omega))]; simp [go_sem]
  have hB2 : Below w.heap.size w w2 := hb0.trans (hB.mono (by simp; omega))
  clear hc hz
  go_wp2_with fail
  refine bodyPost_ret (v := .tuple #[frac x y, .int .i64 z]) (by simp [results, Tryz.results12, go_sem, hc0, hc1]) rfl ⟨rfl, ?_⟩
  exact (hB2.setCell (by simp; omega) _).setCell (by simp; omega) _

set_option maxRecDepth 20000 in
set_option maxHeartbeats 1000000 in
theorem mul1_any (bp bq : Nat) (a b c d : Int) (o : Option Rat) (er : Addr) (w : World) (a1 : -9223372036854775808 ≤ a) (a2 : a ≤ 9223372036854775807) (b1 : -9223372036854775808 ≤ b) (b2 : b ≤ 9223372036854775807)
    (c1 : -9223372036854775808 ≤ c) (c2 : c ≤ 9223372036854775807) (d1 : -9223372036854775808 ≤ d) (d2 : d ≤ 9223372036854775807) (hE : ErrAt w er) (ho : Rt.mulO a b c d = o) (hT : TwoAt w bp bq a b c d) :
    Calls Tryz.prog 42 #[.pointer (some ⟨bp, 0, none⟩), .pointer (some ⟨bq, 0, none⟩)] w fun e w' => e = outcome er o ∧ Below w.heap.size w w' := by
  have HM := Lib.hid (And.intro (fun i => two_bounds a1 a2 c1 c2 i) (fun i => two_bounds b1 b2 d1 d2 i))
  have HE := Lib.hid hE
  have HO := Lib.hid ho
  obtain ⟨p0, p1, q0, q1⟩ := hT
  have hp := World.block_lt_of_cell? (a := ⟨bp, 0, none⟩) (h := p0)
  have hq := World.block_lt_of_cell? (a := ⟨bq, 0, none⟩) (h := q0)
  clear a1 a2 b1 b2 c1 c2 d1 d2 hE ho
  go_enter Tryz.func42, Tryz.ntmps42
  go_wp2_with fail
  obtain ⟨v, hv⟩ : ∃ v, Rt.both a b c d = v := ⟨_, rfl⟩
  have hb0 : Below w.heap.size w ((w.alloc (Obj.cells #[Value.int IntKind.i64 0, Value.int IntKind.i64 0] 25)).alloc (Obj.cells #[Value.int IntKind.i64 a, Value.int IntKind.i64 b, Value.int IntKind.i64 c, Value.int IntKind.i64 d] 25)) :=
    ((Below.refl _ _).alloc (Nat.le_refl _) _).alloc (by simp) _
  refine (check_any (w.heap.size + 1) 2 (two a c) (two b d) v er _ (by decide) (fun i _ => ⟨HM.out.1 i, HM.out.2 i⟩) ⟨fun i hi => ?_, fun i hi => ?_⟩ (HE.out.below hb0) (by rw [allV_two]; exact hv)).mono ?_
  · match i, hi with
    | 0, _ => simp [go_sem, two]
    | 1, _ => simp [go_sem, two]
  · match i, hi with
    | 0, _ => simp [go_sem, two]
    | 1, _ => simp [go_sem, two]
  cases v with
  | false =>
    have ho1 : o = none := by rw [← HO.out]; unfold Rt.mulO; rw [hv]; rfl
    subst ho1
    clear hv
    rintro e w2 ⟨rfl, hB⟩
    have hB2 : Below w.heap.size w w2 := hb0.trans (hB.mono (by simp; omega))
    clear hB hb0
    unfold verdict
    go_wp2_with fail
    exact ⟨rfl, rfl, hB2⟩
  | true =>
    have hb := both_bounds hv
    have ho1 : Rt.mk (a * c) (b * d) = o := by have := HO.out; unfold Rt.mulO at this; rw [hv] at this; exact this
    have k0 := prod_bound (x := a) (y := c) hb.1.1 hb.1.2 hb.2.2.1.1 hb.2.2.1.2
    obtain ⟨P0, hP0⟩ : ∃ P, a * c = P := ⟨_, rfl⟩
    rw [hP0] at k0 ho1
    have k1 := prod_bound (x := b) (y := d) (by omega) hb.2.1.2 (by omega) hb.2.2.2.2
    obtain ⟨P1, hP1⟩ : ∃ P, b * d = P := ⟨_, rfl⟩
    rw [hP1] at k1 ho1
    have n1 : -9223372036854775808 ≤ P0 := by omega
    have n2 : P0 ≤ 9223372036854775807 := by omega
    have m0 : -9223372036854775808 ≤ P0 := by omega
    have l0 : P0 ≤ 9223372036854775807 := by omega
    have m1 : -9223372036854775808 ≤ P1 := by omega
    have l1 : P1 ≤ 9223372036854775807 := by omega
    have HO1 := Lib.hid ho1
    clear hv hb ho1 k0 k1
    rintro e w2 ⟨rfl, hB⟩
    obtain ⟨hc, hz⟩ := bcell hB
    have x0 : w2.cell? ⟨bp, 0, none⟩ = some (.int .i64 a) := by rw [hc _ _ (by first | (simp; done) | (simp; omega))]; simp [go_sem, *]
    have x1 : w2.cell? ⟨bp, 1, none⟩ = some (.int .i64 b) := by rw [hc _ _ (by first | (simp; done) | (simp; omega))]; simp [go_sem, *]
    have x2 : w2.cell? ⟨bq, 0, none⟩ = some (.int .i64 c) := by rw [hc _ _ (by first | (simp; done) | (simp; omega))]; simp [go_sem, *]
    have x3 : w2.cell? ⟨bq, 1, none⟩ = some (.int .i64 d) := by rw [hc _ _ (by first | (simp; done) | (simp; omega))]; simp [go_sem, *]
    have y0 : w2.cell? ⟨w.heap.size, 0, none⟩ = some (.int .i64 0) := by rw [hc _ _ (by first | (simp; done) | (simp; omega))]; simp [go_sem]
    have y1 : w2.cell? ⟨w.heap.size, 1, none⟩ = some (.int .i64 0) := by rw [hc _ _ (by first | (simp; done) | (simp; omega))]; simp [go_sem]
    have z0 : w2.frozen? ⟨w.heap.size, 0, none⟩ = false := by rw [hz _ _ (by first | (simp; done) | (simp; omega))]; simp [go_sem]
    have z1 : w2.frozen? ⟨w.heap.size, 1, none⟩ = false := by rw [hz _ _ (by first | (simp; done) | (simp; omega))]; simp [go_sem]
    have hsz : w.heap.size < w2.heap.size := by have := hB.size; simp at this; omega
    have HB2 : Hid (Below w.heap.size w w2) := Lib.hid (hb0.trans (hB.mono (by simp; omega)))
    clear hB hb0 hc hz p0 p1 q0 q1
    unfold verdict
    go_wp2_with fail
    cases o with
    | none =>
      refine (quotient_no (P0) (P1) er _ n1 n2 m1 l1 HO1.out (HE.out.below HB2.out)).mono ?_
      rintro e w3 ⟨rfl, hB3⟩
      have hB4 : Below w.heap.size w w3 := HB2.out.trans (hB3.mono (by omega))
      clear hB3
      go_wp2_with fail
      exact ⟨rfl, rfl, hB4⟩
    | some q =>
      refine (quotient_ok (P0) (P1) q.num q.den q _ n1 n2 m1 l1 HO1.out rfl rfl).mono ?_
      rintro e w3 ⟨rfl, hB3⟩
      have HB4 : Hid (Below w.heap.size w w3) := Lib.hid (HB2.out.trans (hB3.mono (by omega)))
      obtain ⟨hc, hz⟩ := bcell hB3
      rw [← hc _ _ hsz] at y0 y1
      rw [← hz _ _ hsz] at z0 z1
      clear hB3 hc hz
      go_wp2_with fail
      refine bodyPost_ret (v := frac q.num q.den) (by simp [results, Tryz.results42, go_sem, y0, y1]) rfl ⟨rfl, ?_⟩
      exact (HB4.out.setCell (Nat.le_refl _) _).setCell (Nat.le_refl _) _

set_option maxRecDepth 20000 in
set_option maxHeartbeats 1000000 in
theorem mul_any (a b c d x y z : Int) (er : Addr) (w : World) (a1 : -9223372036854775808 ≤ a) (a2 : a ≤ 9223372036854775807) (b1 : -9223372036854775808 ≤ b) (b2 : b ≤ 9223372036854775807)
    (c1 : -9223372036854775808 ≤ c) (c2 : c ≤ 9223372036854775807) (d1 : -9223372036854775808 ≤ d) (d2 : d ≤ 9223372036854775807) (hE : ErrAt w er)
    (hx : Rt.nm (Rt.mulO a b c d) = x) (hy : Rt.dn (Rt.mulO a b c d) = y) (hz : Rt.er (Rt.mulO a b c d) = z) :
    Calls Tryz.prog 14 #[frac a b, frac c d] w fun e w' => e = .returned (.tuple #[frac x y, .int .i64 z]) ∧ Below w.heap.size w w' := by
  have hmf : ∀ (fn : Fn) (first cap : Array Value) (w : World), (Instr.makeFunc fn first cap).run Tryz.prog w = .ok (.func fn first cap) w := fun _ _ _ _ => rfl
  have HM := Lib.hid (And.intro (And.intro a1 a2) (And.intro (And.intro b1 b2) (And.intro (And.intro c1 c2) (And.intro d1 d2))))
  have HX := Lib.hid (And.intro hx (And.intro hy hz))
  have HE := Lib.hid hE
  clear a1 a2 b1 b2 c1 c2 d1 d2 hx hy hz hE
  have hen : Enters 42 := enters_of Tryz.func42 (by kernel_rfl) (by kernel_rfl)
  have HN := Lib.hid hen
  clear hen
  go_enter Tryz.func14, Tryz.ntmps14
  go_wp2_with fail
  have hb0 : Below w.heap.size w (((w.alloc (Obj.cells #[Value.int IntKind.i64 a, Value.int IntKind.i64 b] 25)).alloc (Obj.cells #[Value.int IntKind.i64 c, Value.int IntKind.i64 d] 25)).alloc (Obj.cells #[Value.int IntKind.i64 0, Value.int IntKind.i64 0] 25)) :=
    (((Below.refl _ _).alloc (Nat.le_refl _) _).alloc (by simp) _).alloc (by simp; omega) _
  have HE1 := Lib.hid (HE.out.below hb0)
  have HT : ∀ w1, Below _ _ w1 → Calls Tryz.prog 42 _ w1 fun e w2 => e = outcome er (Rt.mulO a b c d) ∧ Below w1.heap.size w1 w2 := fun w1 h1 => by
    obtain ⟨hc, _⟩ := bcell h1
    exact mul1_any w.heap.size (w.heap.size + 1) a b c d _ er w1 HM.out.1.1 HM.out.1.2 HM.out.2.1.1 HM.out.2.1.2 HM.out.2.2.1.1 HM.out.2.2.1.2 HM.out.2.2.2.1 HM.out.2.2.2.2 (HE1.out.below h1) rfl
      ⟨by rw [hc _ _ (by simp; omega)]; simp [go_sem], by rw [hc _ _ (by simp; omega)]; simp [go_sem], by rw [hc _ _ (by simp)]; simp [go_sem], by rw [hc _ _ (by simp)]; simp [go_sem]⟩
  refine (answer_any 42 _ (Rt.mulO a b c d) er x y z _ HN.out HE1.out (fun q hq w1 h1 => ?_) (fun hq w1 h1 => ?_) HX.out).mono ?_
  · have h2 := HT w1 h1
    rw [hq] at h2
    exact h2
  · have h2 := HT w1 h1
    rw [hq] at h2
    exact h2
  clear HT
  rintro e w2 ⟨rfl, hB⟩
  obtain ⟨hc, hz⟩ := bcell hB
  have hc0 : w2.cell? ⟨w.heap.size + 1 + 1, 0, none⟩ = some (.int .i64 0) := by rw [hc _ _ (by first | (simp; done) | (simp; omega))]; simp [go_sem]
  have hc1 : w2.cell? ⟨w.heap.size + 1 + 1, 1, none⟩ = some (.int .i64 0) := by rw [hc _ _ (by first | (simp; done) | (simp; omega))]; simp [go_sem]
  have hz0 : w2.frozen? ⟨w.heap.size + 1 + 1, 0, none⟩ = false := by rw [hz _ _ (by first | (simp; done) | (simp; omega))]; simp [go_sem]
  have hz1 : w2.frozen? ⟨w.heap.size + 1 + 1, 1, none⟩ = false := by rw [hz _ _ (by first | (simp; done) | (simp; omega))]; simp [go_sem]
  have hB2 : Below w.heap.size w w2 := hb0.trans (hB.mono (by simp; omega))
  clear hc hz
  go_wp2_with fail
  refine bodyPost_ret (v := .tuple #[frac x y, .int .i64 z]) (by simp [results, Tryz.results14, go_sem, hc0, hc1]) rfl ⟨rfl, ?_⟩
  exact (hB2.setCell (by simp; omega) _).setCell (by simp; omega) _

set_option maxRecDepth 20000 in
set_option maxHeartbeats 1000000 in
theorem div1_any (bp bq : Nat) (a b c d : Int) (o : Option Rat) (er : Addr) (w : World) (a1 : -9223372036854775808 ≤ a) (a2 : a ≤ 9223372036854775807) (b1 : -9223372036854775808 ≤ b) (b2 : b ≤ 9223372036854775807)
    (c1 : -9223372036854775808 ≤ c) (c2 : c ≤ 9223372036854775807) (d1 : -9223372036854775808 ≤ d) (d2 : d ≤ 9223372036854775807) (hE : ErrAt w er) (ho : Rt.divO a b c d = o) (hT : TwoAt w bp bq a b c d) :
    Calls Tryz.prog 43 #[.pointer (some ⟨bp, 0, none⟩), .pointer (some ⟨bq, 0, none⟩)] w fun e w' => e = outcome er o ∧ Below w.heap.size w w' := by
  have HM := Lib.hid (And.intro (fun i => two_bounds a1 a2 c1 c2 i) (fun i => two_bounds b1 b2 d1 d2 i))
  have HE := Lib.hid hE
  have HO := Lib.hid ho
  obtain ⟨p0, p1, q0, q1⟩ := hT
  have hp := World.block_lt_of_cell? (a := ⟨bp, 0, none⟩) (h := p0)
  have hq := World.block_lt_of_cell? (a := ⟨bq, 0, none⟩) (h := q0)
  clear a1 a2 b1 b2 c1 c2 d1 d2 hE ho
  go_enter Tryz.func43, Tryz.ntmps43
  go_wp2_with fail
  obtain ⟨v, hv⟩ : ∃ v, Rt.both a b c d = v := ⟨_, rfl⟩
  have hb0 : Below w.heap.size w ((w.alloc (Obj.cells #[Value.int IntKind.i64 0, Value.int IntKind.i64 0] 25)).alloc (Obj.cells #[Value.int IntKind.i64 a, Value.int IntKind.i64 b, Value.int IntKind.i64 c, Value.int IntKind.i64 d] 25)) :=
    ((Below.refl _ _).alloc (Nat.le_refl _) _).alloc (by simp) _
  refine (check_any (w.heap.size + 1) 2 (two a c) (two b d) v er _ (by decide) (fun i _ => ⟨HM.out.1 i, HM.out.2 i⟩) ⟨fun i hi => ?_, fun i hi => ?_⟩ (HE.out.below hb0) (by rw [allV_two]; exact hv)).mono ?_
  · match i, hi with
    | 0, _ => simp [go_sem, two]
    | 1, _ => simp [go_sem, two]
  · match i, hi with
    | 0, _ => simp [go_sem, two]
    | 1, _ => simp [go_sem, two]
  cases v with
  | false =>
    have ho1 : o = none := by rw [← HO.out]; unfold Rt.divO; rw [hv]; rfl
    subst ho1
    clear hv
    rintro e w2 ⟨rfl, hB⟩
    have hB2 : Below w.heap.size w w2 := hb0.trans (hB.mono (by simp; omega))
    clear hB hb0
    unfold verdict
    go_wp2_with fail
    exact ⟨rfl, rfl, hB2⟩
  | true =>
    have hb := both_bounds hv
    have ho1 : Rt.mk (a * d) (b * c) = o := by have := HO.out; unfold Rt.divO at this; rw [hv] at this; exact this
    have k0 := prod_bound (x := a) (y := d) hb.1.1 hb.1.2 (by omega) hb.2.2.2.2
    obtain ⟨P0, hP0⟩ : ∃ P, a * d = P := ⟨_, rfl⟩
    rw [hP0] at k0 ho1
    have k1 := prod_bound (x := b) (y := c) (by omega) hb.2.1.2 hb.2.2.1.1 hb.2.2.1.2
    obtain ⟨P1, hP1⟩ : ∃ P, b * c = P := ⟨_, rfl⟩
    rw [hP1] at k1 ho1
    have n1 : -9223372036854775808 ≤ P0 := by omega
    have n2 : P0 ≤ 9223372036854775807 := by omega
    have m0 : -9223372036854775808 ≤ P0 := by omega
    have l0 : P0 ≤ 9223372036854775807 := by omega
    have m1 : -9223372036854775808 ≤ P1 := by omega
    have l1 : P1 ≤ 9223372036854775807 := by omega
    have HO1 := Lib.hid ho1
    clear hv hb ho1 k0 k1
    rintro e w2 ⟨rfl, hB⟩
    obtain ⟨hc, hz⟩ := bcell hB
    have x0 : w2.cell? ⟨bp, 0, none⟩ = some (.int .i64 a) := by rw [hc _ _ (by first | (simp; done) | (simp; omega))]; simp [go_sem, *]
    have x1 : w2.cell? ⟨bp, 1, none⟩ = some (.int .i64 b) := by rw [hc _ _ (by first | (simp; done) | (simp; omega))]; simp [go_sem, *]
    have x2 : w2.cell? ⟨bq, 0, none⟩ = some (.int .i64 c) := by rw [hc _ _ (by first | (simp; done) | (simp; omega))]; simp [go_sem, *]
    have x3 : w2.cell? ⟨bq, 1, none⟩ = some (.int .i64 d) := by rw [hc _ _ (by first | (simp; done) | (simp; omega))]; simp [go_sem, *]
    have y0 : w2.cell? ⟨w.heap.size, 0, none⟩ = some (.int .i64 0) := by rw [hc _ _ (by first | (simp; done) | (simp; omega))]; simp [go_sem]
    have y1 : w2.cell? ⟨w.heap.size, 1, none⟩ = some (.int .i64 0) := by rw [hc _ _ (by first | (simp; done) | (simp; omega))]; simp [go_sem]
    have z0 : w2.frozen? ⟨w.heap.size, 0, none⟩ = false := by rw [hz _ _ (by first | (simp; done) | (simp; omega))]; simp [go_sem]
    have z1 : w2.frozen? ⟨w.heap.size, 1, none⟩ = false := by rw [hz _ _ (by first | (simp; done) | (simp; omega))]; simp [go_sem]
    have hsz : w.heap.size < w2.heap.size := by have := hB.size; simp at this; omega
    have HB2 : Hid (Below w.heap.size w w2) := Lib.hid (hb0.trans (hB.mono (by simp; omega)))
    clear hB hb0 hc hz p0 p1 q0 q1
    unfold verdict
    go_wp2_with fail
    cases o with
    | none =>
      refine (quotient_no (P0) (P1) er _ n1 n2 m1 l1 HO1.out (HE.out.below HB2.out)).mono ?_
      rintro e w3 ⟨rfl, hB3⟩
      have hB4 : Below w.heap.size w w3 := HB2.out.trans (hB3.mono (by omega))
      clear hB3
      go_wp2_with fail
      exact ⟨rfl, rfl, hB4⟩
    | some q =>
      refine (quotient_ok (P0) (P1) q.num q.den q _ n1 n2 m1 l1 HO1.out rfl rfl).mono ?_
      rintro e w3 ⟨rfl, hB3⟩
      have HB4 : Hid (Below w.heap.size w w3) := Lib.hid (HB2.out.trans (hB3.mono (by omega)))
      obtain ⟨hc, hz⟩ := bcell hB3
      rw [← hc _ _ hsz] at y0 y1
      rw [← hz _ _ hsz] at z0 z1
      clear hB3 hc hz
      go_wp2_with fail
      refine bodyPost_ret (v := frac q.num q.den) (by simp [results, Tryz.results43, go_sem, y0, y1]) rfl ⟨rfl, ?_⟩
      exact (HB4.out.setCell (Nat.le_refl _) _).setCell (Nat.le_refl _) _

set_option maxRecDepth 20000 in
set_option maxHeartbeats 1000000 in
theorem div_any (a b c d x y z : Int) (er : Addr) (w : World) (a1 : -9223372036854775808 ≤ a) (a2 : a ≤ 9223372036854775807) (b1 : -9223372036854775808 ≤ b) (b2 : b ≤ 9223372036854775807)
    (c1 : -9223372036854775808 ≤ c) (c2 : c ≤ 9223372036854775807) (d1 : -9223372036854775808 ≤ d) (d2 : d ≤ 9223372036854775807) (hE : ErrAt w er)
    (hx : Rt.nm (Rt.divO a b c d) = x) (hy : Rt.dn (Rt.divO a b c d) = y) (hz : Rt.er (Rt.divO a b c d) = z) :
    Calls Tryz.prog 16 #[frac a b, frac c d] w fun e w' => e = .returned (.tuple #[frac x y, .int .i64 z]) ∧ Below w.heap.size w w' := by
  have hmf : ∀ (fn : Fn) (first cap : Array Value) (w : World), (Instr.makeFunc fn first cap).run Tryz.prog w = .ok (.func fn first cap) w := fun _ _ _ _ => rfl
  have HM := Lib.hid (And.intro (And.intro a1 a2) (And.intro (And.intro b1 b2) (And.intro (And.intro c1 c2) (And.intro d1 d2))))
  have HX := Lib.hid (And.intro hx (And.intro hy hz))
  have HE := Lib.hid hE
  clear a1 a2 b1 b2 c1 c2 d1 d2 hx hy hz hE
  have hen : Enters 43 := enters_of Tryz.func43 (by kernel_rfl) (by kernel_rfl)
  have HN := Lib.hid hen
  clear hen
  go_enter Tryz.func16, Tryz.ntmps16
  go_wp2_with fail
  have hb0 : Below w.heap.size w (((w.alloc (Obj.cells #[Value.int IntKind.i64 a, Value.int IntKind.i64 b] 25)).alloc (Obj.cells #[Value.int IntKind.i64 c, Value.int IntKind.i64 d] 25)).alloc (Obj.cells #[Value.int IntKind.i64 0, Value.int IntKind.i64 0] 25)) :=
    (((Below.refl _ _).alloc (Nat.le_refl _) _).alloc (by simp) _).alloc (by simp; omega) _
  have HE1 := Lib.hid (HE.out.below hb0)
  have HT : ∀ w1, Below _ _ w1 → Calls Tryz.prog 43 _ w1 fun e w2 => e = outcome er (Rt.divO a b c d) ∧ Below w1.heap.size w1 w2 := fun w1 h1 => by
    obtain ⟨hc, _⟩ := bcell h1
    exact div1_any w.heap.size (w.heap.size + 1) a b c d _ er w1 HM.out.1.1 HM.out.1.2 HM.out.2.1.1 HM.out.2.1.2 HM.out.2.2.1.1 HM.out.2.2.1.2 HM.out.2.2.2.1 HM.out.2.2.2.2 (HE1.out.below h1) rfl
      ⟨by rw [hc _ _ (by simp; omega)]; simp [go_sem], by rw [hc _ _ (by simp; omega)]; simp [go_sem], by rw [hc _ _ (by simp)]; simp [go_sem], by rw [hc _ _ (by simp)]; simp [go_sem]⟩
  refine (answer_any 43 _ (Rt.divO a b c d) er x y z _ HN.out HE1.out (fun q hq w1 h1 => ?_) (fun hq w1 h1 => ?_) HX.out).mono ?_
  · have h2 := HT w1 h1
    rw [hq] at h2
    exact h2
  · have h2 := HT w1 h1
    rw [hq] at h2
    exact h2
  clear HT
  rintro e w2 ⟨rfl, hB⟩
  obtain ⟨hc, hz⟩ := bcell hB
  have hc0 : w2.cell? ⟨w.heap.size + 1 + 1, 0, none⟩ = some (.int .i64 0) := by rw [hc _ _ (by first | (simp; done) | (simp; omega))]; simp [go_sem]
  have hc1 : w2.cell? ⟨w.heap.size + 1 + 1, 1, none⟩ = some (.int .i64 0) := by rw [hc _ _ (by first | (simp; done) | (simp; omega))]; simp [go_sem]
  have hz0 : w2.frozen? ⟨w.heap.size + 1 + 1, 0, none⟩ = false := by rw [hz _ _ (by first | (simp; done) | (simp; omega))]; simp [go_sem]
  have hz1 : w2.frozen? ⟨w.heap.size + 1 + 1, 1, none⟩ = false := by rw [hz _ _ (by first | (simp; done) | (simp; omega))]; simp [go_sem]
  have hB2 : Below w.heap.size w w2 := hb0.trans (hB.mono (by simp; omega))
  clear hc hz
  go_wp2_with fail
  refine bodyPost_ret (v := .tuple #[frac x y, .int .i64 z]) (by simp [results, Tryz.results16, go_sem, hc0, hc1]) rfl ⟨rfl, ?_⟩
  exact (hB2.setCell (by simp; omega) _).setCell (by simp; omega) _
end Go.Proofs.YtphphamfejgdaaaGreatDoor
