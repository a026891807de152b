/- Round. Conditions: ints; the variable of the error holds a pointer. -/
import Derived.Test.YtphphamfejgdaaaGreatDoorRatJ
import Derived.StillTailTactics
namespace Go.Proofs.YtphphamfejgdaaaGreatDoor
open Go.RowKit

theorem ediv_i64 {n d : Int} (n1 : -9223372036854775808 ≤ n) (n2 : n ≤ 9223372036854775807) (hd : 1 ≤ d) : -9223372036854775808 ≤ n / d ∧ n / d ≤ 9223372036854775807 := by
  rcases (show n < 0 ∨ 0 ≤ n by omega) with h0 | h0
  · have h1 := Int.le_ediv_of_mul_le (a := n) (b := n) (c := d) (by omega) (by
      have : n * d ≤ n * 1 := Int.mul_le_mul_of_nonpos_left (by omega) (by omega)
      omega)
    have h2 := Int.ediv_neg_of_neg_of_pos h0 (show 0 < d by omega)
    omega
  · have h1 := Int.ediv_nonneg h0 (show 0 ≤ d by omega)
    have h2 := Int.ediv_le_self d h0
    omega

set_option maxRecDepth 20000 in
set_option maxHeartbeats 1000000 in
theorem round1_any (bp bq : Nat) (a b k : Int) (o : Option Rat) (er : Addr) (w : World) (a1 : -9223372036854775808 ≤ a) (a2 : a ≤ 9223372036854775807) (b1 : -9223372036854775808 ≤ b) (b2 : b ≤ 9223372036854775807)
    (k1 : -9223372036854775808 ≤ k) (k2 : k ≤ 9223372036854775807) (hE : ErrAt w er) (ho : Rt.roundO a b k = o)
    (p0 : w.cell? ⟨bp, 0, none⟩ = some (.int .i64 a)) (p1 : w.cell? ⟨bp, 1, none⟩ = some (.int .i64 b)) (q0 : w.cell? ⟨bq, 0, none⟩ = some (.int .i64 k)) :
    Calls Tryz.prog 44 #[.pointer (some ⟨bp, 0, none⟩), .pointer (some ⟨bq, 0, none⟩)] w fun e w' => e = outcome er o ∧ Below w.heap.size w w' := by
  have HM := Lib.hid (And.intro (fun i => two_bounds a1 a2 a1 a2 i) (fun i => two_bounds b1 b2 b1 b2 i))
  have HE := Lib.hid hE
  have hp := World.block_lt_of_cell? (a := ⟨bp, 0, none⟩) (h := p0)
  have hq := World.block_lt_of_cell? (a := ⟨bq, 0, none⟩) (h := q0)
  have HO := Lib.hid ho
  clear a1 a2 b1 b2 hE ho
  obtain ⟨v, hv⟩ : ∃ v, (Rt.rd a b).isSome = v := ⟨_, rfl⟩
  have HV := Lib.hid hv
  clear hv
  go_enter Tryz.func44, Tryz.ntmps44
  go_wp2_with fail
  have hb0 : Below w.heap.size w ((w.alloc (Obj.cells #[Value.int IntKind.i64 0, Value.int IntKind.i64 0] 25)).alloc (Obj.cells #[Value.int IntKind.i64 a, Value.int IntKind.i64 b] 25)) :=
    ((Below.refl _ _).alloc (Nat.le_refl _) _).alloc (by simp) _
  refine (check_any (w.heap.size + 1) 1 (two a a) (two b b) v er _ (by decide) (fun i _ => ⟨HM.out.1 i, HM.out.2 i⟩) ⟨fun i hi => ?_, fun i hi => ?_⟩ (HE.out.below hb0) (by rw [allV_one]; exact HV.out)).mono ?_
  · match i, hi with
    | 0, _ => simp [go_sem, two]
  · match i, hi with
    | 0, _ => simp [go_sem, two]
  cases v with
  | false =>
    have ho1 : o = none := by rw [← HO.out]; unfold Rt.roundO; rw [HV.out]; rfl
    subst ho1
    rintro e w2 ⟨rfl, hB⟩
    have hB2 : Below w.heap.size w w2 := hb0.trans (hB.mono (by simp; omega))
    clear hB hb0
    unfold verdict
    go_wp2_with fail
    exact ⟨rfl, rfl, hB2⟩
  | true =>
    have HBB := Lib.hid (one_bounds HV.out rfl)
    rintro e w2 ⟨rfl, hB⟩
    obtain ⟨hc, hz⟩ := bcell hB
    have x0 : w2.cell? ⟨bp, 0, none⟩ = some (.int .i64 a) := by rw [hc _ _ (by first | (simp; done) | (simp; omega))]; simp [go_sem, *]
    have x1 : w2.cell? ⟨bp, 1, none⟩ = some (.int .i64 b) := by rw [hc _ _ (by first | (simp; done) | (simp; omega))]; simp [go_sem, *]
    have x2 : w2.cell? ⟨bq, 0, none⟩ = some (.int .i64 k) := by rw [hc _ _ (by first | (simp; done) | (simp; omega))]; simp [go_sem, *]
    have y0 : w2.cell? ⟨w.heap.size, 0, none⟩ = some (.int .i64 0) := by rw [hc _ _ (by first | (simp; done) | (simp; omega))]; simp [go_sem]
    have y1 : w2.cell? ⟨w.heap.size, 1, none⟩ = some (.int .i64 0) := by rw [hc _ _ (by first | (simp; done) | (simp; omega))]; simp [go_sem]
    have z0 : w2.frozen? ⟨w.heap.size, 0, none⟩ = false := by rw [hz _ _ (by first | (simp; done) | (simp; omega))]; simp [go_sem]
    have z1 : w2.frozen? ⟨w.heap.size, 1, none⟩ = false := by rw [hz _ _ (by first | (simp; done) | (simp; omega))]; simp [go_sem]
    have hsz : w.heap.size < w2.heap.size := by have := hB.size; simp at this; omega
    have HB2 : Hid (Below w.heap.size w w2) := Lib.hid (hb0.trans (hB.mono (by simp; omega)))
    have hE2 := (HE.out.below HB2.out).cell
    have hE3 := (HE.out.below HB2.out).lt
    clear hB hb0 hc hz p0 p1 q0
    unfold verdict
    by_cases hk : k < 1 ∨ 1000000000 < k
    · have ho1 : o = none := by
        rw [← HO.out]; unfold Rt.roundO
        rw [if_neg]
        simp only [Bool.and_eq_true, decide_eq_true_eq]; omega
      subst ho1
      rcases hk with hk | hk
      · go_wp2_with fail
        exact ⟨rfl, rfl, HB2.out⟩
      · have hk0 : ¬ k < 1 := by omega
        go_wp2_with fail
        exact ⟨rfl, rfl, HB2.out⟩
    · have hk0 : ¬ k < 1 := by omega
      have hk1 : ¬ 1000000000 < k := by omega
      clear hk
      have hb := HBB.out
      have j0 := prod_bound hb.1.1 hb.1.2 (show -1000000000 ≤ k by omega) (show k ≤ 1000000000 by omega)
      have ho1 : Rt.mk ((2 * a * k + b) / (2 * b)) k = o := by
        rw [← HO.out]; unfold Rt.roundO
        rw [if_pos]
        simp only [Bool.and_eq_true, decide_eq_true_eq]; exact ⟨HV.out, by omega, by omega⟩
      obtain ⟨A, hA⟩ : ∃ A, 2 * a = A := ⟨_, rfl⟩
      obtain ⟨P, hP⟩ : ∃ P, A * k = P := ⟨_, rfl⟩
      obtain ⟨B, hB⟩ : ∃ B, 2 * b = B := ⟨_, rfl⟩
      obtain ⟨S, hS⟩ : ∃ S, P + b = S := ⟨_, rfl⟩
      have hP2 : P = 2 * (a * k) := by rw [← hP, ← hA, Int.mul_assoc]
      have n0 : -9223372036854775808 ≤ A := by omega
      have n1 : A ≤ 9223372036854775807 := by omega
      have n2 : -9223372036854775808 ≤ P := by omega
      have n3 : P ≤ 9223372036854775807 := by omega
      have n4 : -9223372036854775808 ≤ S := by omega
      have n5 : S ≤ 9223372036854775807 := by omega
      have n6 : 1 ≤ B := by omega
      have n7 : B ≤ 9223372036854775807 := by omega
      have n6' : -9223372036854775808 ≤ B := by omega
      obtain ⟨N, hN⟩ : ∃ N, S / B = N := ⟨_, rfl⟩
      rw [hA, hP, hB, hS, hN] at ho1
      have hNb : -9223372036854775808 ≤ N ∧ N ≤ 9223372036854775807 := by
        rw [← hN]; exact ediv_i64 n4 n5 n6
      have HO1 := Lib.hid ho1
      have HN := Lib.hid hN
      have HNB := Lib.hid hNb
      have HBW : Hid (Below w2.heap.size w2 w2) := Lib.hid (Below.refl _ _)
      clear hb j0 ho1 hN hNb hP2 HBB HM HO
      go_wp2_with fail
      have wA := IntWalk.i64_in A ⟨n0, n1⟩
      have wP := IntWalk.i64_in P ⟨n2, n3⟩
      have wS := IntWalk.i64_in S ⟨n4, n5⟩
      have wB := IntWalk.i64_in B ⟨n6', n7⟩
      go_still_tail 13, (by kernel_rfl)
      still_call (floor_any S B N _ n4 n5 n6 n7 HN.out)
      still_step
      refine wpStill_nil ?_
      change wpList _ _ _ _ _ w2.drew
      replace x0 : w2.drew.cell? ⟨bp, 0, none⟩ = some (.int .i64 a) := x0
      replace y0 : w2.drew.cell? ⟨w.heap.size, 0, none⟩ = some (.int .i64 0) := y0
      replace y1 : w2.drew.cell? ⟨w.heap.size, 1, none⟩ = some (.int .i64 0) := y1
      replace z0 : w2.drew.frozen? ⟨w.heap.size, 0, none⟩ = false := z0
      replace z1 : w2.drew.frozen? ⟨w.heap.size, 1, none⟩ = false := z1
      replace hsz : w.heap.size < w2.drew.heap.size := hsz
      replace HB2 : Hid (Below w.heap.size w w2.drew) := Lib.hid HB2.out.drew
      clear hE2 hE3 x0 x1 x2 HBW
      generalize w2.drew = w3 at *
      clear wA wP wS wB hA hP hB hS n0 n1 n2 n3 n4 n5 n6 n7 n6'
      go_wp2_with fail
      cases o with
      | none =>
        refine (quotient_no N k er _ HNB.out.1 HNB.out.2 k1 k2 HO1.out (HE.out.below HB2.out)).mono ?_
        rintro e w4 ⟨rfl, hB3⟩
        have hB4 : Below w.heap.size w w4 := HB2.out.trans (hB3.mono HB2.out.size)
        clear hB3
        go_wp2_with fail
        exact ⟨rfl, rfl, hB4⟩
      | some q =>
        refine (quotient_ok N k q.num q.den q _ HNB.out.1 HNB.out.2 k1 k2 HO1.out rfl rfl).mono ?_
        rintro e w4 ⟨rfl, hB3⟩
        have HB4 : Hid (Below w.heap.size w w4) := Lib.hid (HB2.out.trans (hB3.mono HB2.out.size))
        obtain ⟨hc, hz⟩ := bcell hB3
        rw [← hc _ _ hsz] at y0 y1
        rw [← hz _ _ hsz] at z0 z1
        clear hB3 hc hz
        go_wp2_with fail
        refine bodyPost_ret (v := frac q.num q.den) (by simp [results, Tryz.results44, go_sem, y0, y1]) rfl ⟨rfl, ?_⟩
        exact (HB4.out.setCell (Nat.le_refl _) _).setCell (Nat.le_refl _) _
end Go.Proofs.YtphphamfejgdaaaGreatDoor
