/- The reference's Add, Sub, Mul, Div, Compare, Floor, Round, Clamp. Conditions: ints. (Written by gen_refc.py.) -/
import Derived.Test.YtphphamfejgdaaaGreatDoorRatRefB
namespace Go.Proofs.YtphphamfejgdaaaGreatDoor
open Go.RowKit

set_option maxRecDepth 20000 in
set_option maxHeartbeats 1000000 in
theorem radd_any (a b c d x y z : Int) (w : World) (a1 : -9223372036854775808 ≤ a) (a2 : a ≤ 9223372036854775807) (b1 : -9223372036854775808 ≤ b) (b2 : b ≤ 9223372036854775807) (c1 : -9223372036854775808 ≤ c) (c2 : c ≤ 9223372036854775807) (d1 : -9223372036854775808 ≤ d) (d2 : d ≤ 9223372036854775807) (hx : Parts (Rt.addO a b c d) x y z) :
    Calls Tryz.prog 11 #[frac a b, frac c d] w fun e w' => e = .returned (.tuple #[frac x y, .int .i64 z]) ∧ Below w.heap.size w w' := by
  obtain ⟨v, hv⟩ : ∃ v, Rt.both a b c d = v := ⟨_, rfl⟩
  have HM := Lib.hid (And.intro (And.intro a1 a2) (And.intro (And.intro b1 b2) (And.intro (And.intro c1 c2) (And.intro (And.intro d1 d2) hv))))
  have HX := Lib.hid hx
  clear a1 a2 b1 b2 c1 c2 d1 d2 hx hv
  go_enter Tryz.func11, Tryz.ntmps11
  go_wp2_with fail
  have hb0 : Below w.heap.size w (((w.alloc (Obj.cells #[Value.int IntKind.i64 a, Value.int IntKind.i64 b] 25)).alloc (Obj.cells #[Value.int IntKind.i64 c, Value.int IntKind.i64 d] 25)).alloc (Obj.cells #[Value.int IntKind.i64 0, Value.int IntKind.i64 0] 25)) := ((((Below.refl _ _).alloc (by first | exact Nat.le_refl _ | (simp; done) | (simp; omega)) _).alloc (by first | exact Nat.le_refl _ | (simp; done) | (simp; omega)) _).alloc (by first | exact Nat.le_refl _ | (simp; done) | (simp; omega)) _)
  obtain ⟨⟨a1, a2⟩, ⟨b1, b2⟩, ⟨c1, c2⟩, ⟨d1, d2⟩, hv⟩ := HM.out
  refine (rboth_any a b c d v _ a1 a2 b1 b2 c1 c2 d1 d2 hv).mono ?_
  clear a1 a2 b1 b2 c1 c2 d1 d2 hv
  rintro e w2 ⟨rfl, hB⟩
  obtain ⟨hc, hz⟩ := bcell hB
  have x0 : w2.cell? ⟨w.heap.size, 0, none⟩ = some (.int .i64 a) := by rw [hc _ _ (by first | (simp; done) | (simp; omega))]; simp [go_sem]
  have x1 : w2.cell? ⟨w.heap.size, 1, none⟩ = some (.int .i64 b) := by rw [hc _ _ (by first | (simp; done) | (simp; omega))]; simp [go_sem]
  have x2 : w2.cell? ⟨w.heap.size + 1, 0, none⟩ = some (.int .i64 c) := by rw [hc _ _ (by first | (simp; done) | (simp; omega))]; simp [go_sem]
  have x3 : w2.cell? ⟨w.heap.size + 1, 1, none⟩ = some (.int .i64 d) := by rw [hc _ _ (by first | (simp; done) | (simp; omega))]; simp [go_sem]
  have y0 : w2.cell? ⟨w.heap.size + 1 + 1, 0, none⟩ = some (.int .i64 0) := by rw [hc _ _ (by first | (simp; done) | (simp; omega))]; simp [go_sem]
  have y1 : w2.cell? ⟨w.heap.size + 1 + 1, 1, none⟩ = some (.int .i64 0) := by rw [hc _ _ (by first | (simp; done) | (simp; omega))]; simp [go_sem]
  have z0 : w2.frozen? ⟨w.heap.size + 1 + 1, 0, none⟩ = false := by rw [hz _ _ (by first | (simp; done) | (simp; omega))]; simp [go_sem]
  have z1 : w2.frozen? ⟨w.heap.size + 1 + 1, 1, none⟩ = false := by rw [hz _ _ (by first | (simp; done) | (simp; omega))]; simp [go_sem]
  have hsz : w.heap.size + 1 + 1 < w2.heap.size := by have := hB.size; simp at this; omega
  have HB2 : Hid (Below w.heap.size w w2) := Lib.hid (hb0.trans (hB.mono (by simp; omega)))
  clear hB hb0 hc hz
  cases v with
  | false =>
    obtain ⟨rfl, rfl, rfl⟩ : x = 0 ∧ y = 0 ∧ z = 30 := by
      obtain ⟨h1, h2, h3⟩ := HX.out
      have e : Rt.addO a b c d = none := by unfold Rt.addO; rw [HM.out.2.2.2.2]; rfl
      rw [e] at h1 h2 h3
      exact ⟨h1.symm, h2.symm, h3.symm⟩
    clear x0 x1 x2 x3
    go_wp2_with fail
    refine bodyPost_ret (v := .tuple #[frac 0 0, .int .i64 30]) (by simp [results, Tryz.results11, go_sem, y0, y1]) rfl ⟨rfl, ?_⟩
    exact (HB2.out.setCell (by simp; omega) _).setCell (by simp; omega) _
  | true =>
    have hb := both_bounds HM.out.2.2.2.2
    have hmk : Rt.addO a b c d = Rt.mk (a * d + c * b) (b * d) := by unfold Rt.addO; rw [HM.out.2.2.2.2]; rfl
    have hX := HX.out
    rw [hmk] at hX
    have k0 := prod_bound (x := a) (y := d) (by omega) (by omega) (by omega) (by omega)
    obtain ⟨P0, hP0⟩ : ∃ P, a * d = P := ⟨_, rfl⟩
    rw [hP0] at k0 hX
    have k1 := prod_bound (x := c) (y := b) (by omega) (by omega) (by omega) (by omega)
    obtain ⟨P1, hP1⟩ : ∃ P, c * b = P := ⟨_, rfl⟩
    rw [hP1] at k1 hX
    have k2 := prod_bound (x := b) (y := d) (by omega) (by omega) (by omega) (by omega)
    obtain ⟨P2, hP2⟩ : ∃ P, b * d = P := ⟨_, rfl⟩
    rw [hP2] at k2 hX
    have m0 : -9223372036854775808 ≤ P0 := by omega
    have l0 : P0 ≤ 9223372036854775807 := by omega
    have m1 : -9223372036854775808 ≤ P1 := by omega
    have l1 : P1 ≤ 9223372036854775807 := by omega
    have m2 : -9223372036854775808 ≤ P2 := by omega
    have l2 : P2 ≤ 9223372036854775807 := by omega
    obtain ⟨SN, hSN⟩ : ∃ S, P0 + P1 = S := ⟨_, rfl⟩
    rw [hSN] at hX
    have s1 : -9223372036854775808 ≤ SN := by omega
    have s2 : SN ≤ 9223372036854775807 := by omega
    have HX2 := Lib.hid hX
    clear hb hmk hX k0 k1 k2
    go_wp2_with fail
    refine (rmake_any SN P2 x y z _ (by omega) (by omega) (by omega) (by omega) HX2.out).mono ?_
    rintro e w3 ⟨rfl, hB3⟩
    have HB4 : Hid (Below w.heap.size w w3) := Lib.hid (HB2.out.trans (hB3.mono HB2.out.size))
    obtain ⟨hc, hz⟩ := bcell hB3
    rw [← hc _ _ hsz] at y0 y1
    rw [← hz _ _ hsz] at z0 z1
    clear hB3 hc hz x0 x1 x2 x3 hsz
    go_wp2_with fail
    refine bodyPost_ret (v := .tuple #[frac x y, .int .i64 z]) (by simp [results, Tryz.results11, go_sem, y0, y1]) rfl ⟨rfl, ?_⟩
    exact (HB4.out.setCell (by simp; omega) _).setCell (by simp; omega) _

set_option maxRecDepth 20000 in
set_option maxHeartbeats 1000000 in
theorem rsub_any (a b c d x y z : Int) (w : World) (a1 : -9223372036854775808 ≤ a) (a2 : a ≤ 9223372036854775807) (b1 : -9223372036854775808 ≤ b) (b2 : b ≤ 9223372036854775807) (c1 : -9223372036854775808 ≤ c) (c2 : c ≤ 9223372036854775807) (d1 : -9223372036854775808 ≤ d) (d2 : d ≤ 9223372036854775807) (hx : Parts (Rt.subO a b c d) x y z) :
    Calls Tryz.prog 13 #[frac a b, frac c d] w fun e w' => e = .returned (.tuple #[frac x y, .int .i64 z]) ∧ Below w.heap.size w w' := by
  obtain ⟨v, hv⟩ : ∃ v, Rt.both a b c d = v := ⟨_, rfl⟩
  have HM := Lib.hid (And.intro (And.intro a1 a2) (And.intro (And.intro b1 b2) (And.intro (And.intro c1 c2) (And.intro (And.intro d1 d2) hv))))
  have HX := Lib.hid hx
  clear a1 a2 b1 b2 c1 c2 d1 d2 hx hv
  go_enter Tryz.func13, Tryz.ntmps13
  go_wp2_with fail
  have hb0 : Below w.heap.size w (((w.alloc (Obj.cells #[Value.int IntKind.i64 a, Value.int IntKind.i64 b] 25)).alloc (Obj.cells #[Value.int IntKind.i64 c, Value.int IntKind.i64 d] 25)).alloc (Obj.cells #[Value.int IntKind.i64 0, Value.int IntKind.i64 0] 25)) := ((((Below.refl _ _).alloc (by first | exact Nat.le_refl _ | (simp; done) | (simp; omega)) _).alloc (by first | exact Nat.le_refl _ | (simp; done) | (simp; omega)) _).alloc (by first | exact Nat.le_refl _ | (simp; done) | (simp; omega)) _)
  obtain ⟨⟨a1, a2⟩, ⟨b1, b2⟩, ⟨c1, c2⟩, ⟨d1, d2⟩, hv⟩ := HM.out
  refine (rboth_any a b c d v _ a1 a2 b1 b2 c1 c2 d1 d2 hv).mono ?_
  clear a1 a2 b1 b2 c1 c2 d1 d2 hv
  rintro e w2 ⟨rfl, hB⟩
  obtain ⟨hc, hz⟩ := bcell hB
  have x0 : w2.cell? ⟨w.heap.size, 0, none⟩ = some (.int .i64 a) := by rw [hc _ _ (by first | (simp; done) | (simp; omega))]; simp [go_sem]
  have x1 : w2.cell? ⟨w.heap.size, 1, none⟩ = some (.int .i64 b) := by rw [hc _ _ (by first | (simp; done) | (simp; omega))]; simp [go_sem]
  have x2 : w2.cell? ⟨w.heap.size + 1, 0, none⟩ = some (.int .i64 c) := by rw [hc _ _ (by first | (simp; done) | (simp; omega))]; simp [go_sem]
  have x3 : w2.cell? ⟨w.heap.size + 1, 1, none⟩ = some (.int .i64 d) := by rw [hc _ _ (by first | (simp; done) | (simp; omega))]; simp [go_sem]
  have y0 : w2.cell? ⟨w.heap.size + 1 + 1, 0, none⟩ = some (.int .i64 0) := by rw [hc _ _ (by first | (simp; done) | (simp; omega))]; simp [go_sem]
  have y1 : w2.cell? ⟨w.heap.size + 1 + 1, 1, none⟩ = some (.int .i64 0) := by rw [hc _ _ (by first | (simp; done) | (simp; omega))]; simp [go_sem]
  have z0 : w2.frozen? ⟨w.heap.size + 1 + 1, 0, none⟩ = false := by rw [hz _ _ (by first | (simp; done) | (simp; omega))]; simp [go_sem]
  have z1 : w2.frozen? ⟨w.heap.size + 1 + 1, 1, none⟩ = false := by rw [hz _ _ (by first | (simp; done) | (simp; omega))]; simp [go_sem]
  have hsz : w.heap.size + 1 + 1 < w2.heap.size := by have := hB.size; simp at this; omega
  have HB2 : Hid (Below w.heap.size w w2) := Lib.hid (hb0.trans (hB.mono (by simp; omega)))
  clear hB hb0 hc hz
  cases v with
  | false =>
    obtain ⟨rfl, rfl, rfl⟩ : x = 0 ∧ y = 0 ∧ z = 30 := by
      obtain ⟨h1, h2, h3⟩ := HX.out
      have e : Rt.subO a b c d = none := by unfold Rt.subO; rw [HM.out.2.2.2.2]; rfl
      rw [e] at h1 h2 h3
      exact ⟨h1.symm, h2.symm, h3.symm⟩
    clear x0 x1 x2 x3
    go_wp2_with fail
    refine bodyPost_ret (v := .tuple #[frac 0 0, .int .i64 30]) (by simp [results, Tryz.results13, go_sem, y0, y1]) rfl ⟨rfl, ?_⟩
    exact (HB2.out.setCell (by simp; omega) _).setCell (by simp; omega) _
  | true =>
    have hb := both_bounds HM.out.2.2.2.2
    have hmk : Rt.subO a b c d = Rt.mk (a * d - c * b) (b * d) := by unfold Rt.subO; rw [HM.out.2.2.2.2]; rfl
    have hX := HX.out
    rw [hmk] at hX
    have k0 := prod_bound (x := a) (y := d) (by omega) (by omega) (by omega) (by omega)
    obtain ⟨P0, hP0⟩ : ∃ P, a * d = P := ⟨_, rfl⟩
    rw [hP0] at k0 hX
    have k1 := prod_bound (x := c) (y := b) (by omega) (by omega) (by omega) (by omega)
    obtain ⟨P1, hP1⟩ : ∃ P, c * b = P := ⟨_, rfl⟩
    rw [hP1] at k1 hX
    have k2 := prod_bound (x := b) (y := d) (by omega) (by omega) (by omega) (by omega)
    obtain ⟨P2, hP2⟩ : ∃ P, b * d = P := ⟨_, rfl⟩
    rw [hP2] at k2 hX
    have m0 : -9223372036854775808 ≤ P0 := by omega
    have l0 : P0 ≤ 9223372036854775807 := by omega
    have m1 : -9223372036854775808 ≤ P1 := by omega
    have l1 : P1 ≤ 9223372036854775807 := by omega
    have m2 : -9223372036854775808 ≤ P2 := by omega
    have l2 : P2 ≤ 9223372036854775807 := by omega
    obtain ⟨SN, hSN⟩ : ∃ S, P0 - P1 = S := ⟨_, rfl⟩
    rw [hSN] at hX
    have s1 : -9223372036854775808 ≤ SN := by omega
    have s2 : SN ≤ 9223372036854775807 := by omega
    have HX2 := Lib.hid hX
    clear hb hmk hX k0 k1 k2
    go_wp2_with fail
    refine (rmake_any SN P2 x y z _ (by omega) (by omega) (by omega) (by omega) HX2.out).mono ?_
    rintro e w3 ⟨rfl, hB3⟩
    have HB4 : Hid (Below w.heap.size w w3) := Lib.hid (HB2.out.trans (hB3.mono HB2.out.size))
    obtain ⟨hc, hz⟩ := bcell hB3
    rw [← hc _ _ hsz] at y0 y1
    rw [← hz _ _ hsz] at z0 z1
    clear hB3 hc hz x0 x1 x2 x3 hsz
    go_wp2_with fail
    refine bodyPost_ret (v := .tuple #[frac x y, .int .i64 z]) (by simp [results, Tryz.results13, go_sem, y0, y1]) rfl ⟨rfl, ?_⟩
    exact (HB4.out.setCell (by simp; omega) _).setCell (by simp; omega) _

set_option maxRecDepth 20000 in
set_option maxHeartbeats 1000000 in
theorem rmul_any (a b c d x y z : Int) (w : World) (a1 : -9223372036854775808 ≤ a) (a2 : a ≤ 9223372036854775807) (b1 : -9223372036854775808 ≤ b) (b2 : b ≤ 9223372036854775807) (c1 : -9223372036854775808 ≤ c) (c2 : c ≤ 9223372036854775807) (d1 : -9223372036854775808 ≤ d) (d2 : d ≤ 9223372036854775807) (hx : Parts (Rt.mulO a b c d) x y z) :
    Calls Tryz.prog 15 #[frac a b, frac c d] w fun e w' => e = .returned (.tuple #[frac x y, .int .i64 z]) ∧ Below w.heap.size w w' := by
  obtain ⟨v, hv⟩ : ∃ v, Rt.both a b c d = v := ⟨_, rfl⟩
  have HM := Lib.hid (And.intro (And.intro a1 a2) (And.intro (And.intro b1 b2) (And.intro (And.intro c1 c2) (And.intro (And.intro d1 d2) hv))))
  have HX := Lib.hid hx
  clear a1 a2 b1 b2 c1 c2 d1 d2 hx hv
  go_enter Tryz.func15, Tryz.ntmps15
  go_wp2_with fail
  have hb0 : Below w.heap.size w (((w.alloc (Obj.cells #[Value.int IntKind.i64 a, Value.int IntKind.i64 b] 25)).alloc (Obj.cells #[Value.int IntKind.i64 c, Value.int IntKind.i64 d] 25)).alloc (Obj.cells #[Value.int IntKind.i64 0, Value.int IntKind.i64 0] 25)) := ((((Below.refl _ _).alloc (by first | exact Nat.le_refl _ | (simp; done) | (simp; omega)) _).alloc (by first | exact Nat.le_refl _ | (simp; done) | (simp; omega)) _).alloc (by first | exact Nat.le_refl _ | (simp; done) | (simp; omega)) _)
  obtain ⟨⟨a1, a2⟩, ⟨b1, b2⟩, ⟨c1, c2⟩, ⟨d1, d2⟩, hv⟩ := HM.out
  refine (rboth_any a b c d v _ a1 a2 b1 b2 c1 c2 d1 d2 hv).mono ?_
  clear a1 a2 b1 b2 c1 c2 d1 d2 hv
  rintro e w2 ⟨rfl, hB⟩
  obtain ⟨hc, hz⟩ := bcell hB
  have x0 : w2.cell? ⟨w.heap.size, 0, none⟩ = some (.int .i64 a) := by rw [hc _ _ (by first | (simp; done) | (simp; omega))]; simp [go_sem]
  have x1 : w2.cell? ⟨w.heap.size, 1, none⟩ = some (.int .i64 b) := by rw [hc _ _ (by first | (simp; done) | (simp; omega))]; simp [go_sem]
  have x2 : w2.cell? ⟨w.heap.size + 1, 0, none⟩ = some (.int .i64 c) := by rw [hc _ _ (by first | (simp; done) | (simp; omega))]; simp [go_sem]
  have x3 : w2.cell? ⟨w.heap.size + 1, 1, none⟩ = some (.int .i64 d) := by rw [hc _ _ (by first | (simp; done) | (simp; omega))]; simp [go_sem]
  have y0 : w2.cell? ⟨w.heap.size + 1 + 1, 0, none⟩ = some (.int .i64 0) := by rw [hc _ _ (by first | (simp; done) | (simp; omega))]; simp [go_sem]
  have y1 : w2.cell? ⟨w.heap.size + 1 + 1, 1, none⟩ = some (.int .i64 0) := by rw [hc _ _ (by first | (simp; done) | (simp; omega))]; simp [go_sem]
  have z0 : w2.frozen? ⟨w.heap.size + 1 + 1, 0, none⟩ = false := by rw [hz _ _ (by first | (simp; done) | (simp; omega))]; simp [go_sem]
  have z1 : w2.frozen? ⟨w.heap.size + 1 + 1, 1, none⟩ = false := by rw [hz _ _ (by first | (simp; done) | (simp; omega))]; simp [go_sem]
  have hsz : w.heap.size + 1 + 1 < w2.heap.size := by have := hB.size; simp at this; omega
  have HB2 : Hid (Below w.heap.size w w2) := Lib.hid (hb0.trans (hB.mono (by simp; omega)))
  clear hB hb0 hc hz
  cases v with
  | false =>
    obtain ⟨rfl, rfl, rfl⟩ : x = 0 ∧ y = 0 ∧ z = 30 := by
      obtain ⟨h1, h2, h3⟩ := HX.out
      have e : Rt.mulO a b c d = none := by unfold Rt.mulO; rw [HM.out.2.2.2.2]; rfl
      rw [e] at h1 h2 h3
      exact ⟨h1.symm, h2.symm, h3.symm⟩
    clear x0 x1 x2 x3
    go_wp2_with fail
    refine bodyPost_ret (v := .tuple #[frac 0 0, .int .i64 30]) (by simp [results, Tryz.results15, go_sem, y0, y1]) rfl ⟨rfl, ?_⟩
    exact (HB2.out.setCell (by simp; omega) _).setCell (by simp; omega) _
  | true =>
    have hb := both_bounds HM.out.2.2.2.2
    have hmk : Rt.mulO a b c d = Rt.mk (a * c) (b * d) := by unfold Rt.mulO; rw [HM.out.2.2.2.2]; rfl
    have hX := HX.out
    rw [hmk] at hX
    have k0 := prod_bound (x := a) (y := c) (by omega) (by omega) (by omega) (by omega)
    obtain ⟨P0, hP0⟩ : ∃ P, a * c = P := ⟨_, rfl⟩
    rw [hP0] at k0 hX
    have k1 := prod_bound (x := b) (y := d) (by omega) (by omega) (by omega) (by omega)
    obtain ⟨P1, hP1⟩ : ∃ P, b * d = P := ⟨_, rfl⟩
    rw [hP1] at k1 hX
    have m0 : -9223372036854775808 ≤ P0 := by omega
    have l0 : P0 ≤ 9223372036854775807 := by omega
    have m1 : -9223372036854775808 ≤ P1 := by omega
    have l1 : P1 ≤ 9223372036854775807 := by omega
    have HX2 := Lib.hid hX
    clear hb hmk hX k0 k1
    go_wp2_with fail
    refine (rmake_any P0 P1 x y z _ (by omega) (by omega) (by omega) (by omega) HX2.out).mono ?_
    rintro e w3 ⟨rfl, hB3⟩
    have HB4 : Hid (Below w.heap.size w w3) := Lib.hid (HB2.out.trans (hB3.mono HB2.out.size))
    obtain ⟨hc, hz⟩ := bcell hB3
    rw [← hc _ _ hsz] at y0 y1
    rw [← hz _ _ hsz] at z0 z1
    clear hB3 hc hz x0 x1 x2 x3 hsz
    go_wp2_with fail
    refine bodyPost_ret (v := .tuple #[frac x y, .int .i64 z]) (by simp [results, Tryz.results15, go_sem, y0, y1]) rfl ⟨rfl, ?_⟩
    exact (HB4.out.setCell (by simp; omega) _).setCell (by simp; omega) _

set_option maxRecDepth 20000 in
set_option maxHeartbeats 1000000 in
theorem rdiv_any (a b c d x y z : Int) (w : World) (a1 : -9223372036854775808 ≤ a) (a2 : a ≤ 9223372036854775807) (b1 : -9223372036854775808 ≤ b) (b2 : b ≤ 9223372036854775807) (c1 : -9223372036854775808 ≤ c) (c2 : c ≤ 9223372036854775807) (d1 : -9223372036854775808 ≤ d) (d2 : d ≤ 9223372036854775807) (hx : Parts (Rt.divO a b c d) x y z) :
    Calls Tryz.prog 17 #[frac a b, frac c d] w fun e w' => e = .returned (.tuple #[frac x y, .int .i64 z]) ∧ Below w.heap.size w w' := by
  obtain ⟨v, hv⟩ : ∃ v, Rt.both a b c d = v := ⟨_, rfl⟩
  have HM := Lib.hid (And.intro (And.intro a1 a2) (And.intro (And.intro b1 b2) (And.intro (And.intro c1 c2) (And.intro (And.intro d1 d2) hv))))
  have HX := Lib.hid hx
  clear a1 a2 b1 b2 c1 c2 d1 d2 hx hv
  go_enter Tryz.func17, Tryz.ntmps17
  go_wp2_with fail
  have hb0 : Below w.heap.size w (((w.alloc (Obj.cells #[Value.int IntKind.i64 a, Value.int IntKind.i64 b] 25)).alloc (Obj.cells #[Value.int IntKind.i64 c, Value.int IntKind.i64 d] 25)).alloc (Obj.cells #[Value.int IntKind.i64 0, Value.int IntKind.i64 0] 25)) := ((((Below.refl _ _).alloc (by first | exact Nat.le_refl _ | (simp; done) | (simp; omega)) _).alloc (by first | exact Nat.le_refl _ | (simp; done) | (simp; omega)) _).alloc (by first | exact Nat.le_refl _ | (simp; done) | (simp; omega)) _)
  obtain ⟨⟨a1, a2⟩, ⟨b1, b2⟩, ⟨c1, c2⟩, ⟨d1, d2⟩, hv⟩ := HM.out
  refine (rboth_any a b c d v _ a1 a2 b1 b2 c1 c2 d1 d2 hv).mono ?_
  clear a1 a2 b1 b2 c1 c2 d1 d2 hv
  rintro e w2 ⟨rfl, hB⟩
  obtain ⟨hc, hz⟩ := bcell hB
  have x0 : w2.cell? ⟨w.heap.size, 0, none⟩ = some (.int .i64 a) := by rw [hc _ _ (by first | (simp; done) | (simp; omega))]; simp [go_sem]
  have x1 : w2.cell? ⟨w.heap.size, 1, none⟩ = some (.int .i64 b) := by rw [hc _ _ (by first | (simp; done) | (simp; omega))]; simp [go_sem]
  have x2 : w2.cell? ⟨w.heap.size + 1, 0, none⟩ = some (.int .i64 c) := by rw [hc _ _ (by first | (simp; done) | (simp; omega))]; simp [go_sem]
  have x3 : w2.cell? ⟨w.heap.size + 1, 1, none⟩ = some (.int .i64 d) := by rw [hc _ _ (by first | (simp; done) | (simp; omega))]; simp [go_sem]
  have y0 : w2.cell? ⟨w.heap.size + 1 + 1, 0, none⟩ = some (.int .i64 0) := by rw [hc _ _ (by first | (simp; done) | (simp; omega))]; simp [go_sem]
  have y1 : w2.cell? ⟨w.heap.size + 1 + 1, 1, none⟩ = some (.int .i64 0) := by rw [hc _ _ (by first | (simp; done) | (simp; omega))]; simp [go_sem]
  have z0 : w2.frozen? ⟨w.heap.size + 1 + 1, 0, none⟩ = false := by rw [hz _ _ (by first | (simp; done) | (simp; omega))]; simp [go_sem]
  have z1 : w2.frozen? ⟨w.heap.size + 1 + 1, 1, none⟩ = false := by rw [hz _ _ (by first | (simp; done) | (simp; omega))]; simp [go_sem]
  have hsz : w.heap.size + 1 + 1 < w2.heap.size := by have := hB.size; simp at this; omega
  have HB2 : Hid (Below w.heap.size w w2) := Lib.hid (hb0.trans (hB.mono (by simp; omega)))
  clear hB hb0 hc hz
  cases v with
  | false =>
    obtain ⟨rfl, rfl, rfl⟩ : x = 0 ∧ y = 0 ∧ z = 30 := by
      obtain ⟨h1, h2, h3⟩ := HX.out
      have e : Rt.divO a b c d = none := by unfold Rt.divO; rw [HM.out.2.2.2.2]; rfl
      rw [e] at h1 h2 h3
      exact ⟨h1.symm, h2.symm, h3.symm⟩
    clear x0 x1 x2 x3
    go_wp2_with fail
    refine bodyPost_ret (v := .tuple #[frac 0 0, .int .i64 30]) (by simp [results, Tryz.results17, go_sem, y0, y1]) rfl ⟨rfl, ?_⟩
    exact (HB2.out.setCell (by simp; omega) _).setCell (by simp; omega) _
  | true =>
    have hb := both_bounds HM.out.2.2.2.2
    have hmk : Rt.divO a b c d = Rt.mk (a * d) (b * c) := by unfold Rt.divO; rw [HM.out.2.2.2.2]; rfl
    have hX := HX.out
    rw [hmk] at hX
    have k0 := prod_bound (x := a) (y := d) (by omega) (by omega) (by omega) (by omega)
    obtain ⟨P0, hP0⟩ : ∃ P, a * d = P := ⟨_, rfl⟩
    rw [hP0] at k0 hX
    have k1 := prod_bound (x := b) (y := c) (by omega) (by omega) (by omega) (by omega)
    obtain ⟨P1, hP1⟩ : ∃ P, b * c = P := ⟨_, rfl⟩
    rw [hP1] at k1 hX
    have m0 : -9223372036854775808 ≤ P0 := by omega
    have l0 : P0 ≤ 9223372036854775807 := by omega
    have m1 : -9223372036854775808 ≤ P1 := by omega
    have l1 : P1 ≤ 9223372036854775807 := by omega
    have HX2 := Lib.hid hX
    clear hb hmk hX k0 k1
    go_wp2_with fail
    refine (rmake_any P0 P1 x y z _ (by omega) (by omega) (by omega) (by omega) HX2.out).mono ?_
    rintro e w3 ⟨rfl, hB3⟩
    have HB4 : Hid (Below w.heap.size w w3) := Lib.hid (HB2.out.trans (hB3.mono HB2.out.size))
    obtain ⟨hc, hz⟩ := bcell hB3
    rw [← hc _ _ hsz] at y0 y1
    rw [← hz _ _ hsz] at z0 z1
    clear hB3 hc hz x0 x1 x2 x3 hsz
    go_wp2_with fail
    refine bodyPost_ret (v := .tuple #[frac x y, .int .i64 z]) (by simp [results, Tryz.results17, go_sem, y0, y1]) rfl ⟨rfl, ?_⟩
    exact (HB4.out.setCell (by simp; omega) _).setCell (by simp; omega) _

set_option maxRecDepth 20000 in
set_option maxHeartbeats 1000000 in
theorem rcmp_any (a b c d r : Int) (w : World) (a1 : -9223372036854775808 ≤ a) (a2 : a ≤ 9223372036854775807) (b1 : -9223372036854775808 ≤ b) (b2 : b ≤ 9223372036854775807) (c1 : -9223372036854775808 ≤ c) (c2 : c ≤ 9223372036854775807) (d1 : -9223372036854775808 ≤ d) (d2 : d ≤ 9223372036854775807) (hr : Rt.cmpO a b c d = r) :
    Calls Tryz.prog 23 #[frac a b, frac c d] w fun e w' => e = .returned (.int .i64 r) ∧ Below w.heap.size w w' := by
  obtain ⟨v, hv⟩ : ∃ v, Rt.both a b c d = v := ⟨_, rfl⟩
  have HM := Lib.hid (And.intro (And.intro a1 a2) (And.intro (And.intro b1 b2) (And.intro (And.intro c1 c2) (And.intro (And.intro d1 d2) hv))))
  have HR := Lib.hid hr
  clear a1 a2 b1 b2 c1 c2 d1 d2 hr hv
  go_enter Tryz.func23, Tryz.ntmps23
  go_wp2_with fail
  have hb0 : Below w.heap.size w ((w.alloc (Obj.cells #[Value.int IntKind.i64 a, Value.int IntKind.i64 b] 25)).alloc (Obj.cells #[Value.int IntKind.i64 c, Value.int IntKind.i64 d] 25)) := (((Below.refl _ _).alloc (by first | exact Nat.le_refl _ | (simp; done) | (simp; omega)) _).alloc (by first | exact Nat.le_refl _ | (simp; done) | (simp; omega)) _)
  obtain ⟨⟨a1, a2⟩, ⟨b1, b2⟩, ⟨c1, c2⟩, ⟨d1, d2⟩, hv⟩ := HM.out
  refine (rboth_any a b c d v _ a1 a2 b1 b2 c1 c2 d1 d2 hv).mono ?_
  clear a1 a2 b1 b2 c1 c2 d1 d2 hv
  rintro e w2 ⟨rfl, hB⟩
  obtain ⟨hc, hz⟩ := bcell hB
  have x0 : w2.cell? ⟨w.heap.size, 0, none⟩ = some (.int .i64 a) := by rw [hc _ _ (by first | (simp; done) | (simp; omega))]; simp [go_sem]
  have x1 : w2.cell? ⟨w.heap.size, 1, none⟩ = some (.int .i64 b) := by rw [hc _ _ (by first | (simp; done) | (simp; omega))]; simp [go_sem]
  have x2 : w2.cell? ⟨w.heap.size + 1, 0, none⟩ = some (.int .i64 c) := by rw [hc _ _ (by first | (simp; done) | (simp; omega))]; simp [go_sem]
  have x3 : w2.cell? ⟨w.heap.size + 1, 1, none⟩ = some (.int .i64 d) := by rw [hc _ _ (by first | (simp; done) | (simp; omega))]; simp [go_sem]
  have HB2 : Hid (Below w.heap.size w w2) := Lib.hid (hb0.trans (hB.mono (by first | (simp; done) | (simp; omega))))
  clear hB hb0 hc hz
  cases v with
  | false =>
    obtain rfl : r = 0 := by rw [← HR.out]; unfold Rt.cmpO; rw [HM.out.2.2.2.2]; rfl
    go_wp2_with fail
    go_ret
    exact ⟨rfl, HB2.out⟩
  | true =>
    have hb := both_bounds HM.out.2.2.2.2
    have hR : Rt.cmpI (a * d) (c * b) = r := by rw [← HR.out]; unfold Rt.cmpO; rw [HM.out.2.2.2.2]; rfl
    have k0 := prod_bound (x := a) (y := d) (by omega) (by omega) (by omega) (by omega)
    obtain ⟨P0, hP0⟩ : ∃ P, a * d = P := ⟨_, rfl⟩
    have k1 := prod_bound (x := c) (y := b) (by omega) (by omega) (by omega) (by omega)
    obtain ⟨P1, hP1⟩ : ∃ P, c * b = P := ⟨_, rfl⟩
    rw [hP0] at k0 hR
    rw [hP1] at k1 hR
    have m0 : -9223372036854775808 ≤ P0 := by omega
    have l0 : P0 ≤ 9223372036854775807 := by omega
    have m1 : -9223372036854775808 ≤ P1 := by omega
    have l1 : P1 ≤ 9223372036854775807 := by omega
    have HR2 := Lib.hid hR
    clear hb hR k0 k1
    rcases Int.lt_trichotomy P0 P1 with h | h | h
    · have h2 : (P0 == P1) = false := by rw [beq_eq_false_iff_ne]; omega
      obtain rfl : r = -1 := by rw [← HR2.out]; unfold Rt.cmpI; rw [if_pos h]
      go_wp2_with fail
      go_ret
      exact ⟨rfl, HB2.out⟩
    · subst h
      obtain rfl : r = 0 := by rw [← HR2.out]; unfold Rt.cmpI; rw [if_neg (by omega), if_pos rfl]
      go_wp2_with fail
      go_ret
      exact ⟨rfl, HB2.out⟩
    · have h2 : (P0 == P1) = false := by rw [beq_eq_false_iff_ne]; omega
      have h3 : ¬ P0 < P1 := by omega
      obtain rfl : r = 1 := by rw [← HR2.out]; unfold Rt.cmpI; rw [if_neg (by omega), if_neg (by omega)]
      go_wp2_with fail
      go_ret
      exact ⟨rfl, HB2.out⟩

theorem rfloor_any (n d k : Int) (w : World) (n1 : -9223372036854775808 ≤ n) (n2 : n ≤ 9223372036854775807) (d1 : 1 ≤ d) (d2 : d ≤ 9223372036854775807) (hk : n / d = k) :
    Calls Tryz.prog 46 #[.int .i64 n, .int .i64 d] w fun e w' => e = .returned (.int .i64 k) ∧ w' = w := by
  have HK := Lib.hid hk
  clear hk
  have hkb := ediv_i64 n1 n2 d1
  go_enter Tryz.func46, Tryz.ntmps46
  go_wp2
  · go_ret
    refine ⟨congrArg (fun z => Ending.returned (Value.int .i64 z)) ?_, rfl⟩
    have h : n.tmod d < 0 := by assumption
    have e := floor_low n d d1 h
    rw [HK.out] at hkb e
    show wrap64 (n.tdiv d - 1) = k
    rw [e]
    unfold wrap64
    omega
  · go_ret
    refine ⟨congrArg (fun z => Ending.returned (Value.int .i64 z)) ?_, rfl⟩
    have h : 0 ≤ n.tmod d := by assumption
    exact (floor_high n d d1 h).trans HK.out

set_option maxRecDepth 20000 in
set_option maxHeartbeats 1000000 in
theorem rFloor_any (a b x : Int) (w : World) (a1 : -9223372036854775808 ≤ a) (a2 : a ≤ 9223372036854775807) (b1 : -9223372036854775808 ≤ b) (b2 : b ≤ 9223372036854775807) (hx : Rt.floorO a b = x) :
    Calls Tryz.prog 25 #[frac a b] w fun e w' => e = .returned (.int .i64 x) ∧ Below w.heap.size w w' := by
  obtain ⟨v, hv⟩ : ∃ v, (Rt.rd a b).isSome = v := ⟨_, rfl⟩
  have HM := Lib.hid (And.intro (And.intro a1 a2) (And.intro (And.intro b1 b2) hv))
  have HX := Lib.hid hx
  clear a1 a2 b1 b2 hx hv
  go_enter Tryz.func25, Tryz.ntmps25
  go_wp2_with fail
  have hb0 : Below w.heap.size w (w.alloc (Obj.cells #[Value.int IntKind.i64 a, Value.int IntKind.i64 b] 25)) := ((Below.refl _ _).alloc (by first | exact Nat.le_refl _ | (simp; done) | (simp; omega)) _)
  obtain ⟨⟨a1, a2⟩, ⟨b1, b2⟩, hv⟩ := HM.out
  refine (rvalid_any a b v _ a1 a2 b1 b2 hv).mono ?_
  clear a1 a2 b1 b2 hv
  rintro e w2 ⟨rfl, hB⟩
  obtain ⟨hc, hz⟩ := bcell hB
  have x0 : w2.cell? ⟨w.heap.size, 0, none⟩ = some (.int .i64 a) := by rw [hc _ _ (by first | (simp; done) | (simp; omega))]; simp [go_sem]
  have x1 : w2.cell? ⟨w.heap.size, 1, none⟩ = some (.int .i64 b) := by rw [hc _ _ (by first | (simp; done) | (simp; omega))]; simp [go_sem]
  have HB2 : Hid (Below w.heap.size w w2) := Lib.hid (hb0.trans (hB.mono (by first | (simp; done) | (simp; omega))))
  clear hB hb0 hc hz
  cases v with
  | false =>
    obtain rfl : x = 0 := by rw [← HX.out]; unfold Rt.floorO; rw [HM.out.2.2]; rfl
    clear x0 x1
    go_wp2_with fail
    go_ret
    exact ⟨rfl, HB2.out⟩
  | true =>
    have hX : a / b = x := by rw [← HX.out]; unfold Rt.floorO; rw [HM.out.2.2]; rfl
    have HX2 := Lib.hid hX
    have HBB := Lib.hid (one_bounds HM.out.2.2 rfl)
    clear hX
    go_wp2_with fail
    refine (rfloor_any a b x _ (by have := HBB.out; omega) (by have := HBB.out; omega) HBB.out.2.1 (by have := HBB.out; omega) HX2.out).mono ?_
    rintro e w3 ⟨rfl, rfl⟩
    go_wp2_with fail
    go_ret
    exact ⟨rfl, HB2.out⟩

set_option maxRecDepth 20000 in
set_option maxHeartbeats 1000000 in
theorem rround_any (a b k x y z : Int) (w : World) (a1 : -9223372036854775808 ≤ a) (a2 : a ≤ 9223372036854775807) (b1 : -9223372036854775808 ≤ b) (b2 : b ≤ 9223372036854775807) (k1 : -9223372036854775808 ≤ k) (k2 : k ≤ 9223372036854775807) (hx : Parts (Rt.roundO a b k) x y z) :
    Calls Tryz.prog 19 #[frac a b, .int .i64 k] w fun e w' => e = .returned (.tuple #[frac x y, .int .i64 z]) ∧ Below w.heap.size w w' := by
  obtain ⟨v, hv⟩ : ∃ v, (Rt.rd a b).isSome = v := ⟨_, rfl⟩
  have HM := Lib.hid (And.intro (And.intro a1 a2) (And.intro (And.intro b1 b2) hv))
  have HX := Lib.hid hx
  clear a1 a2 b1 b2 hx hv
  go_enter Tryz.func19, Tryz.ntmps19
  go_wp2_with fail
  have hb0 : Below w.heap.size w ((w.alloc (Obj.cells #[Value.int IntKind.i64 a, Value.int IntKind.i64 b] 25)).alloc (Obj.cells #[Value.int IntKind.i64 0, Value.int IntKind.i64 0] 25)) := (((Below.refl _ _).alloc (by first | exact Nat.le_refl _ | (simp; done) | (simp; omega)) _).alloc (by first | exact Nat.le_refl _ | (simp; done) | (simp; omega)) _)
  obtain ⟨⟨a1, a2⟩, ⟨b1, b2⟩, hv⟩ := HM.out
  refine (rvalid_any a b v _ a1 a2 b1 b2 hv).mono ?_
  clear a1 a2 b1 b2 hv
  rintro e w2 ⟨rfl, hB⟩
  obtain ⟨hc, hz⟩ := bcell hB
  have x0 : w2.cell? ⟨w.heap.size, 0, none⟩ = some (.int .i64 a) := by rw [hc _ _ (by first | (simp; done) | (simp; omega))]; simp [go_sem]
  have x1 : w2.cell? ⟨w.heap.size, 1, none⟩ = some (.int .i64 b) := by rw [hc _ _ (by first | (simp; done) | (simp; omega))]; simp [go_sem]
  have y0 : w2.cell? ⟨w.heap.size + 1, 0, none⟩ = some (.int .i64 0) := by rw [hc _ _ (by first | (simp; done) | (simp; omega))]; simp [go_sem]
  have y1 : w2.cell? ⟨w.heap.size + 1, 1, none⟩ = some (.int .i64 0) := by rw [hc _ _ (by first | (simp; done) | (simp; omega))]; simp [go_sem]
  have z0 : w2.frozen? ⟨w.heap.size + 1, 0, none⟩ = false := by rw [hz _ _ (by first | (simp; done) | (simp; omega))]; simp [go_sem]
  have z1 : w2.frozen? ⟨w.heap.size + 1, 1, none⟩ = false := by rw [hz _ _ (by first | (simp; done) | (simp; omega))]; simp [go_sem]
  have hsz : w.heap.size + 1 < w2.heap.size := by have := hB.size; simp at this; omega
  have HB2 : Hid (Below w.heap.size w w2) := Lib.hid (hb0.trans (hB.mono (by first | (simp; done) | (simp; omega))))
  clear hB hb0 hc hz
  by_cases hbad : v = false ∨ k < 1 ∨ 1000000000 < k
  · obtain ⟨rfl, rfl, rfl⟩ : x = 0 ∧ y = 0 ∧ z = 30 := by
      obtain ⟨h1, h2, h3⟩ := HX.out
      have e : Rt.roundO a b k = none := by
        unfold Rt.roundO
        rw [if_neg]
        simp only [Bool.and_eq_true, decide_eq_true_eq, HM.out.2.2]
        rintro ⟨h, h'⟩
        rcases hbad with hb | hb | hb
        · rw [hb] at h; cases h
        · omega
        · omega
      rw [e] at h1 h2 h3
      exact ⟨h1.symm, h2.symm, h3.symm⟩
    clear x0 x1
    cases v with
    | false =>
      clear hbad
      go_wp2_with fail
      refine bodyPost_ret (v := .tuple #[frac 0 0, .int .i64 30]) (by simp [results, Tryz.results19, go_sem, y0, y1]) rfl ⟨rfl, ?_⟩
      exact (HB2.out.setCell (by first | (simp; done) | (simp; omega)) _).setCell (by first | (simp; done) | (simp; omega)) _
    | true =>
      rcases hbad with hb | hb | hb
      · cases hb
      · go_wp2_with fail
        refine bodyPost_ret (v := .tuple #[frac 0 0, .int .i64 30]) (by simp [results, Tryz.results19, go_sem, y0, y1]) rfl ⟨rfl, ?_⟩
        exact (HB2.out.setCell (by first | (simp; done) | (simp; omega)) _).setCell (by first | (simp; done) | (simp; omega)) _
      · have hb1 : ¬ k < 1 := by omega
        go_wp2_with fail
        refine bodyPost_ret (v := .tuple #[frac 0 0, .int .i64 30]) (by simp [results, Tryz.results19, go_sem, y0, y1]) rfl ⟨rfl, ?_⟩
        exact (HB2.out.setCell (by first | (simp; done) | (simp; omega)) _).setCell (by first | (simp; done) | (simp; omega)) _
  · obtain rfl : v = true := by cases v with | true => rfl | false => exact absurd (.inl rfl) hbad
    have hk0 : ¬ k < 1 := fun h => hbad (.inr (.inl h))
    have hk1 : ¬ 1000000000 < k := fun h => hbad (.inr (.inr h))
    clear hbad
    have hb := one_bounds HM.out.2.2 rfl
    have j0 := prod_bound hb.1.1 hb.1.2 (show -1000000000 ≤ k by omega) (show k ≤ 1000000000 by omega)
    have hX : Parts (Rt.mk ((2 * a * k + b) / (2 * b)) k) x y z := by
      have h := HX.out
      unfold Rt.roundO at h
      rw [if_pos] at h
      · exact h
      · simp only [Bool.and_eq_true, decide_eq_true_eq]; exact ⟨HM.out.2.2, by omega, by omega⟩
    obtain ⟨A, hA⟩ : ∃ A, 2 * a = A := ⟨_, rfl⟩
    obtain ⟨P, hP⟩ : ∃ P, A * k = P := ⟨_, rfl⟩
    obtain ⟨B, hB⟩ : ∃ B, 2 * b = B := ⟨_, rfl⟩
    obtain ⟨S, hS⟩ : ∃ S, P + b = S := ⟨_, rfl⟩
    have hP2 : P = 2 * (a * k) := by rw [← hP, ← hA, Int.mul_assoc]
    have n0 : -9223372036854775808 ≤ A := by omega
    have n1 : A ≤ 9223372036854775807 := by omega
    have n2 : -9223372036854775808 ≤ P := by omega
    have n3 : P ≤ 9223372036854775807 := by omega
    have n4 : -9223372036854775808 ≤ S := by omega
    have n5 : S ≤ 9223372036854775807 := by omega
    have n6 : 1 ≤ B := by omega
    have n7 : B ≤ 9223372036854775807 := by omega
    have n6' : -9223372036854775808 ≤ B := by omega
    obtain ⟨N, hN⟩ : ∃ N, S / B = N := ⟨_, rfl⟩
    rw [hA, hP, hB, hS, hN] at hX
    have hNb : -9223372036854775808 ≤ N ∧ N ≤ 9223372036854775807 := by rw [← hN]; exact ediv_i64 n4 n5 n6
    have HX2 := Lib.hid hX
    have HN := Lib.hid hN
    have HNB := Lib.hid hNb
    clear hb j0 hX hN hNb hP2
    go_wp2_with fail
    refine (rfloor_any S B N _ n4 n5 n6 n7 HN.out).mono ?_
    rintro e w3 ⟨rfl, rfl⟩
    go_wp2_with fail
    refine (rmake_any N k x y z _ HNB.out.1 HNB.out.2 k1 k2 HX2.out).mono ?_
    rintro e w4 ⟨rfl, hB3⟩
    have HB4 : Hid (Below w.heap.size w w4) := Lib.hid (HB2.out.trans (hB3.mono HB2.out.size))
    obtain ⟨hc, hz⟩ := bcell hB3
    rw [← hc _ _ hsz] at y0 y1
    rw [← hz _ _ hsz] at z0 z1
    clear hB3 hc hz x0 x1 hsz
    go_wp2_with fail
    refine bodyPost_ret (v := .tuple #[frac x y, .int .i64 z]) (by simp [results, Tryz.results19, go_sem, y0, y1]) rfl ⟨rfl, ?_⟩
    exact (HB4.out.setCell (by first | (simp; done) | (simp; omega)) _).setCell (by first | (simp; done) | (simp; omega)) _

end Go.Proofs.YtphphamfejgdaaaGreatDoor
