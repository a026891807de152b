/- The quotient of two integers as a fraction, or the panic that stands for 'no result'. Conditions: ints; for the panic: the variable of the error holds a pointer. -/
import Derived.Test.YtphphamfejgdaaaGreatDoorRatA
import Derived.WalkLawsBesides
namespace Go.Proofs.YtphphamfejgdaaaGreatDoor
open Go.RowKit

/-- The variable of the error holds an error. -/
structure ErrAt (w : World) (a : Addr) : Prop where
  cell : w.cell? ⟨0, 0, none⟩ = some (.iface 130 (.pointer (some a)))
theorem ErrAt.lt {w : World} {a : Addr} (h : ErrAt w a) : 0 < w.heap.size := World.block_lt_of_cell? (a := ⟨0, 0, none⟩) (h := h.cell)
theorem ErrAt.below {w w' : World} {a : Addr} (h : ErrAt w a) (hb : Below w.heap.size w w') : ErrAt w' a := ⟨by rw [hb.cell (p := ⟨0, 0, none⟩) h.lt]; exact h.cell⟩
theorem ErrAt.alloc {w : World} {a : Addr} (h : ErrAt w a) (o : Obj) : ErrAt (w.alloc o) a := h.below ((Below.refl _ _).alloc (Nat.le_refl _) _)
theorem bcell {W w1 : World} (hb : Below W.heap.size W w1) : (∀ b o, b < W.heap.size → w1.cell? ⟨b, o, none⟩ = W.cell? ⟨b, o, none⟩) ∧ (∀ b o, b < W.heap.size → w1.frozen? ⟨b, o, none⟩ = W.frozen? ⟨b, o, none⟩) :=
  ⟨fun b o h => hb.cell (p := ⟨b, o, none⟩) h, fun b o h => hb.frozen (p := ⟨b, o, none⟩) h⟩

theorem below_drewN {B : Nat} {a w : World} (h : Below B a w) (n : Nat) : Below B a (w.drewN n) := ⟨h.os, h.tape, h.output, h.size, h.block⟩
/-- The value of a fraction. -/
abbrev frac (x y : Int) : Value := .agg #[.int .i64 x, .int .i64 y]

set_option maxHeartbeats 1000000 in
theorem quotient_ok (n d x y : Int) (q : Rat) (w : World) (n1 : -9223372036854775808 ≤ n) (n2 : n ≤ 9223372036854775807) (d1 : -9223372036854775808 ≤ d) (d2 : d ≤ 9223372036854775807)
    (hm : Rt.mk n d = some q) (hx : q.num = x) (hy : (q.den : Int) = y) :
    Calls Tryz.prog 35 #[.int .i64 n, .int .i64 d] w fun e w' => e = .returned (frac x y) ∧ Below w.heap.size w w' := by
  obtain ⟨hd, hq, hf⟩ := Rt.mk_some hm
  subst hq
  rw [Rt.fits_case n d hd] at hf
  rw [Rt.sign_case n d hd] at hx
  rw [Rt.den_case n d hd] at hy
  obtain ⟨P, hP⟩ : ∃ P, n.natAbs = P := ⟨_, rfl⟩
  obtain ⟨Q, hQ⟩ : ∃ Q, d.natAbs = Q := ⟨_, rfl⟩
  obtain ⟨G, hG⟩ : ∃ G, Nat.gcd P Q = G := ⟨_, rfl⟩
  rw [hP, hQ, hG] at hf hx hy
  have hG0 : 0 < G := by rw [← hG]; exact Nat.gcd_pos_of_pos_right _ (by omega)
  have hG1 : ¬ (G : Int) = 0 := by omega
  obtain ⟨p, hp⟩ : ∃ p, P / G = p := ⟨_, rfl⟩
  obtain ⟨r, hr⟩ : ∃ r, Q / G = r := ⟨_, rfl⟩
  rw [hp, hr] at hf
  rw [hp] at hx
  rw [hr] at hy
  simp only [Bool.and_eq_true, decide_eq_true_eq] at hf
  obtain ⟨hf1, hf2⟩ := hf
  have e1 : (P : Int) / (G : Int) = (p : Int) := by rw [← hp]; exact (Int.natCast_ediv ..).symm
  have e2 : (Q : Int) / (G : Int) = (r : Int) := by rw [← hr]; exact (Int.natCast_ediv ..).symm
  have HM := Lib.hid (And.intro n1 (And.intro n2 (And.intro d1 (And.intro d2 (And.intro hP hQ)))))
  have HG := Lib.hid hG
  subst hy
  clear n1 n2 d1 d2 hP hQ hG hp hr hm hG0
  have hs : (!decide (n < 0) == decide (d < 0)) = true ∧ x = -(p : Int) ∨ (!decide (n < 0) == decide (d < 0)) = false ∧ x = (p : Int) := by
    rw [show (decide (n < 0) != decide (d < 0)) = (!decide (n < 0) == decide (d < 0)) from rfl] at hx
    cases h : (!decide (n < 0) == decide (d < 0)) with
    | true => rw [h] at hx; exact .inl ⟨rfl, hx.symm⟩
    | false => rw [h] at hx; exact .inr ⟨rfl, hx.symm⟩
  clear hx
  rcases hs with ⟨hs, rfl⟩ | ⟨hs, rfl⟩
  all_goals
    go_enter Tryz.func35, Tryz.ntmps35
    go_wp2_with fail
    refine (magnitude_any n P _ HM.out.1 HM.out.2.1 HM.out.2.2.2.2.1).mono ?_; rintro e w' ⟨rfl, rfl⟩
    go_wp2_with fail
    refine (magnitude_any d Q _ HM.out.2.2.1 HM.out.2.2.2.1 HM.out.2.2.2.2.2).mono ?_; rintro e w' ⟨rfl, rfl⟩
    go_wp2_with fail
    refine (divisor_any P Q G _ (by have := HM.out; omega) (by have := HM.out; omega) HG.out).mono ?_; rintro e w' ⟨rfl, k, rfl⟩
    go_wp2_with fail
    go_quiet (fail)
    go_wp2_with fail
    exact bodyPost_ret (v := frac _ _) (by simp [results, Tryz.results35, go_sem]) rfl ⟨rfl, ((below_drewN ((Below.refl _ _).alloc (Nat.le_refl _) _) _).setCell (by simp) _).setCell (by simp) _⟩

set_option maxHeartbeats 1000000 in
theorem quotient_no (n d : Int) (a : Addr) (w : World) (n1 : -9223372036854775808 ≤ n) (n2 : n ≤ 9223372036854775807) (d1 : -9223372036854775808 ≤ d) (d2 : d ≤ 9223372036854775807)
    (hm : Rt.mk n d = none) (hE : ErrAt w a) :
    Calls Tryz.prog 35 #[.int .i64 n, .int .i64 d] w fun e w' => e = .panicked [{ v := .iface 130 (.pointer (some a)), recovered := false }] ∧ Below w.heap.size w w' := by
  have hE0 := hE.cell
  have hlt := hE.lt
  by_cases hd : d = 0
  · subst hd
    clear n1 n2 d1 d2 hm
    go_enter Tryz.func35, Tryz.ntmps35
    go_wp2_with fail
    exact ⟨rfl, rfl, (Below.refl _ _).alloc (Nat.le_refl _) _⟩
  · have hf : Rt.fits (Rat.divInt n d) = false := by
      unfold Rt.mk at hm
      rw [if_neg hd] at hm
      exact Rt.fit_none.1 hm
    rw [Rt.fits_case n d hd] at hf
    obtain ⟨P, hP⟩ : ∃ P, n.natAbs = P := ⟨_, rfl⟩
    obtain ⟨Q, hQ⟩ : ∃ Q, d.natAbs = Q := ⟨_, rfl⟩
    obtain ⟨G, hG⟩ : ∃ G, Nat.gcd P Q = G := ⟨_, rfl⟩
    rw [hP, hQ, hG] at hf
    have hG0 : 0 < G := by rw [← hG]; exact Nat.gcd_pos_of_pos_right _ (by omega)
    have hG1 : ¬ (G : Int) = 0 := by omega
    obtain ⟨p, hp⟩ : ∃ p, P / G = p := ⟨_, rfl⟩
    obtain ⟨r, hr⟩ : ∃ r, Q / G = r := ⟨_, rfl⟩
    rw [hp, hr] at hf
    have e1 : (P : Int) / (G : Int) = (p : Int) := by rw [← hp]; exact (Int.natCast_ediv ..).symm
    have e2 : (Q : Int) / (G : Int) = (r : Int) := by rw [← hr]; exact (Int.natCast_ediv ..).symm
    have hwrap : ∀ (m : Nat), m ≤ 9223372036854775808 → IntKind.u64.wrap (m : Int) = (m : Int) := fun m hm => by
      show (m : Int) % 18446744073709551616 = _
      omega
    have wp := hwrap p (by have := Nat.div_le_self P G; omega)
    have wr := hwrap r (by have := Nat.div_le_self Q G; omega)
    clear hwrap
    have HM := Lib.hid (And.intro n1 (And.intro n2 (And.intro d1 (And.intro d2 (And.intro hP hQ)))))
    have HG := Lib.hid hG
    have hc : 1000000000 < p ∨ (¬ 1000000000 < p ∧ 1000000000 < r) := by
      simp only [Bool.and_eq_false_iff, decide_eq_false_iff_not] at hf
      omega
    clear n1 n2 d1 d2 hP hQ hG hp hr hm hG0 hf
    rcases hc with hc | ⟨hc, hc2⟩
    all_goals
      go_enter Tryz.func35, Tryz.ntmps35
      go_wp2_with fail
      refine (magnitude_any n P _ HM.out.1 HM.out.2.1 HM.out.2.2.2.2.1).mono ?_; rintro e w' ⟨rfl, rfl⟩
      go_wp2_with fail
      refine (magnitude_any d Q _ HM.out.2.2.1 HM.out.2.2.2.1 HM.out.2.2.2.2.2).mono ?_; rintro e w' ⟨rfl, rfl⟩
      go_wp2_with fail
      refine (divisor_any P Q G _ (by have := HM.out; omega) (by have := HM.out; omega) HG.out).mono ?_; rintro e w' ⟨rfl, k, rfl⟩
      go_wp2_with fail
      go_quiet (fail)
      go_wp2_with fail
      exact ⟨rfl, rfl, below_drewN ((Below.refl _ _).alloc (Nat.le_refl _) _) _⟩
end Go.Proofs.YtphphamfejgdaaaGreatDoor
