/- The reference's Clamp. Conditions: ints. (Written by gen_refd.py.) -/
import Derived.Test.YtphphamfejgdaaaGreatDoorRatRefC
namespace Go.Proofs.YtphphamfejgdaaaGreatDoor
open Go.RowKit

set_option maxRecDepth 20000 in
set_option maxHeartbeats 2000000 in
theorem rclamp_any (a b c d e f x y : Int) (w : World) (a1 : -9223372036854775808 ≤ a) (a2 : a ≤ 9223372036854775807) (b1 : -9223372036854775808 ≤ b) (b2 : b ≤ 9223372036854775807) (c1 : -9223372036854775808 ≤ c) (c2 : c ≤ 9223372036854775807) (d1 : -9223372036854775808 ≤ d) (d2 : d ≤ 9223372036854775807) (e1 : -9223372036854775808 ≤ e) (e2 : e ≤ 9223372036854775807) (f1 : -9223372036854775808 ≤ f) (f2 : f ≤ 9223372036854775807) (hx : Rt.nm (clampO a b c d e f) = x) (hy : Rt.dn (clampO a b c d e f) = y) :
    Calls Tryz.prog 27 #[frac a b, frac c d, frac e f] w fun en w' => en = .returned (frac x y) ∧ Below w.heap.size w w' := by
  obtain ⟨p, hp⟩ : ∃ p, Rt.both a b c d = p := ⟨_, rfl⟩
  obtain ⟨q, hq⟩ : ∃ q, (Rt.rd e f).isSome = q := ⟨_, rfl⟩
  have HALL : Hid (all3 a b c d e f = (p && q)) := Lib.hid (by rw [← hp, ← hq]; rfl)
  have HM := Lib.hid (And.intro (And.intro a1 (And.intro a2 (And.intro b1 b2))) (And.intro (And.intro c1 (And.intro c2 (And.intro d1 d2))) (And.intro e1 (And.intro e2 (And.intro f1 f2)))))
  have HPQ := Lib.hid (And.intro hp hq)
  have HX := Lib.hid (And.intro hx hy)
  clear a1 a2 b1 b2 c1 c2 d1 d2 e1 e2 f1 f2 hx hy hp hq
  go_enter Tryz.func27, Tryz.ntmps27
  go_wp2_with fail
  have hb0 : Below w.heap.size w ((((w.alloc (Obj.cells #[Value.int IntKind.i64 a, Value.int IntKind.i64 b] 25)).alloc (Obj.cells #[Value.int IntKind.i64 c, Value.int IntKind.i64 d] 25)).alloc (Obj.cells #[Value.int IntKind.i64 e, Value.int IntKind.i64 f] 25)).alloc (Obj.cells #[Value.int IntKind.i64 0, Value.int IntKind.i64 0] 25)) :=
    (((((Below.refl _ _).alloc (by first | exact Nat.le_refl _ | (simp; done) | (simp; omega)) _).alloc (by first | exact Nat.le_refl _ | (simp; done) | (simp; omega)) _).alloc (by first | exact Nat.le_refl _ | (simp; done) | (simp; omega)) _).alloc (by first | exact Nat.le_refl _ | (simp; done) | (simp; omega)) _)
  obtain ⟨⟨a1, a2, b1, b2⟩, ⟨c1, c2, d1, d2⟩, e1, e2, f1, f2⟩ := HM.out
  refine (rboth_any a b c d p _ a1 a2 b1 b2 c1 c2 d1 d2 HPQ.out.1).mono ?_
  clear a1 a2 b1 b2 c1 c2 d1 d2 e1 e2 f1 f2
  rintro en w2 ⟨rfl, hB⟩
  obtain ⟨hc, hz⟩ := bcell hB
  have x0 : w2.cell? ⟨w.heap.size, 0, none⟩ = some (.int .i64 a) := by rw [hc _ _ (by first | (simp; done) | (simp; omega))]; simp [go_sem]
  have x1 : w2.cell? ⟨w.heap.size, 1, none⟩ = some (.int .i64 b) := by rw [hc _ _ (by first | (simp; done) | (simp; omega))]; simp [go_sem]
  have x2 : w2.cell? ⟨w.heap.size + 1, 0, none⟩ = some (.int .i64 c) := by rw [hc _ _ (by first | (simp; done) | (simp; omega))]; simp [go_sem]
  have x3 : w2.cell? ⟨w.heap.size + 1, 1, none⟩ = some (.int .i64 d) := by rw [hc _ _ (by first | (simp; done) | (simp; omega))]; simp [go_sem]
  have x4 : w2.cell? ⟨w.heap.size + 1 + 1, 0, none⟩ = some (.int .i64 e) := by rw [hc _ _ (by first | (simp; done) | (simp; omega))]; simp [go_sem]
  have x5 : w2.cell? ⟨w.heap.size + 1 + 1, 1, none⟩ = some (.int .i64 f) := by rw [hc _ _ (by first | (simp; done) | (simp; omega))]; simp [go_sem]
  have y0 : w2.cell? ⟨w.heap.size + 1 + 1 + 1, 0, none⟩ = some (.int .i64 0) := by rw [hc _ _ (by first | (simp; done) | (simp; omega))]; simp [go_sem]
  have z0 : w2.frozen? ⟨w.heap.size + 1 + 1 + 1, 0, none⟩ = false := by rw [hz _ _ (by first | (simp; done) | (simp; omega))]; simp [go_sem]
  have y1 : w2.cell? ⟨w.heap.size + 1 + 1 + 1, 1, none⟩ = some (.int .i64 0) := by rw [hc _ _ (by first | (simp; done) | (simp; omega))]; simp [go_sem]
  have z1 : w2.frozen? ⟨w.heap.size + 1 + 1 + 1, 1, none⟩ = false := by rw [hz _ _ (by first | (simp; done) | (simp; omega))]; simp [go_sem]
  have hsz : w.heap.size + 1 + 1 + 1 < w2.heap.size := by have := hB.size; simp at this; omega
  have HB2 : Hid (Below w.heap.size w w2) := Lib.hid (hb0.trans (hB.mono (by first | (simp; done) | (simp; omega))))
  clear hB hb0 hc hz
  go_wp2_with fail
  obtain ⟨⟨a1, a2, b1, b2⟩, ⟨c1, c2, d1, d2⟩, e1, e2, f1, f2⟩ := HM.out
  refine (rvalid_any e f q _ e1 e2 f1 f2 HPQ.out.2).mono ?_
  clear a1 a2 b1 b2 c1 c2 d1 d2 e1 e2 f1 f2
  rintro en w3 ⟨rfl, hB⟩
  obtain ⟨hc, hz⟩ := bcell hB
  have HB3 : Hid (Below w.heap.size w w3) := Lib.hid (HB2.out.trans (hB.mono HB2.out.size))
  have hlt := hsz
  have hsz' := Nat.lt_of_lt_of_le hsz hB.size
  rw [← hc _ _ (by omega)] at x0
  rw [← hc _ _ (by omega)] at x1
  rw [← hc _ _ (by omega)] at x2
  rw [← hc _ _ (by omega)] at x3
  rw [← hc _ _ (by omega)] at x4
  rw [← hc _ _ (by omega)] at x5
  rw [← hc _ _ (by omega)] at y0
  rw [← hz _ _ (by omega)] at z0
  rw [← hc _ _ (by omega)] at y1
  rw [← hz _ _ (by omega)] at z1
  clear hB hc hz hlt hsz
  have hsz := hsz'
  clear hsz'
  by_cases hno : (p && q) = false
  · obtain ⟨rfl, rfl⟩ : x = 0 ∧ y = 0 := by
      obtain ⟨h1, h2⟩ := HX.out
      rw [clamp_no (HALL.out.trans hno)] at h1 h2
      exact ⟨h1.symm, h2.symm⟩
    clear x0 x1 x2 x3 x4 x5
    cases p with
    | false =>
      clear hno
      go_wp2_with fail
      refine bodyPost_ret (v := frac 0 0) (by simp [results, Tryz.results27, go_sem, y0, y1]) rfl ⟨rfl, ?_⟩
      exact (HB3.out.setCell (by first | (simp; done) | (simp; omega)) _).setCell (by first | (simp; done) | (simp; omega)) _
    | true =>
      obtain rfl : q = false := by simpa using hno
      clear hno
      go_wp2_with fail
      refine bodyPost_ret (v := frac 0 0) (by simp [results, Tryz.results27, go_sem, y0, y1]) rfl ⟨rfl, ?_⟩
      exact (HB3.out.setCell (by first | (simp; done) | (simp; omega)) _).setCell (by first | (simp; done) | (simp; omega)) _
  · obtain ⟨rfl, rfl⟩ : p = true ∧ q = true := by cases p <;> cases q <;> simp_all
    clear hno
    obtain ⟨r, hr⟩ : ∃ r, Rt.cmpI (a * d) (c * b) = r := ⟨_, rfl⟩
    obtain ⟨s, hs⟩ : ∃ s, Rt.cmpI (a * f) (e * b) = s := ⟨_, rfl⟩
    have hall : all3 a b c d e f = true := HALL.out
    obtain ⟨t, ht1, ht2⟩ := clamp_yes hall hr hs
    have hco : Rt.cmpO a b c d = r := by unfold Rt.cmpO; rw [HPQ.out.1]; exact hr
    have hcs : Rt.cmpO a b e f = s := by
      have h2 : Rt.both a b e f = true := by
        unfold all3 at hall
        simp only [Bool.and_eq_true] at hall
        unfold Rt.both
        rw [hall.1.1, hall.2]; rfl
      unfold Rt.cmpO; rw [h2]; exact hs
    have HXT : Hid (t.num = x ∧ (t.den : Int) = y) := Lib.hid (by
      obtain ⟨h1, h2⟩ := HX.out
      rw [ht1] at h1 h2
      exact ⟨h1, h2⟩)
    have HT2 := Lib.hid ht2
    have HC := Lib.hid (And.intro hco hcs)
    clear hr hs hall ht1 ht2 hco hcs
    go_wp2_with fail
    obtain ⟨⟨a1, a2, b1, b2⟩, ⟨c1, c2, d1, d2⟩, e1, e2, f1, f2⟩ := HM.out
    refine (rcmp_any a b c d r _ a1 a2 b1 b2 c1 c2 d1 d2 HC.out.1).mono ?_
    clear a1 a2 b1 b2 c1 c2 d1 d2 e1 e2 f1 f2
    rintro en w4 ⟨rfl, hB⟩
    obtain ⟨hc, hz⟩ := bcell hB
    have HB4 : Hid (Below w.heap.size w w4) := Lib.hid (HB3.out.trans (hB.mono HB3.out.size))
    have hlt := hsz
    have hsz' := Nat.lt_of_lt_of_le hsz hB.size
    rw [← hc _ _ (by omega)] at x0
    rw [← hc _ _ (by omega)] at x1
    rw [← hc _ _ (by omega)] at x2
    rw [← hc _ _ (by omega)] at x3
    rw [← hc _ _ (by omega)] at x4
    rw [← hc _ _ (by omega)] at x5
    rw [← hc _ _ (by omega)] at y0
    rw [← hz _ _ (by omega)] at z0
    rw [← hc _ _ (by omega)] at y1
    rw [← hz _ _ (by omega)] at z1
    clear hB hc hz hlt hsz
    have hsz := hsz'
    clear hsz'
    by_cases hrn : r < 0
    · obtain ⟨rfl, rfl⟩ : x = c ∧ y = d := ⟨HXT.out.1.symm.trans (HT2.out.1 hrn).1, HXT.out.2.symm.trans (HT2.out.1 hrn).2⟩
      go_wp2_with fail
      refine bodyPost_ret (v := frac _ _) (by simp [results, Tryz.results27, go_sem, y0, y1]) rfl ⟨rfl, ?_⟩
      exact (HB4.out.setCell (by first | (simp; done) | (simp; omega)) _).setCell (by first | (simp; done) | (simp; omega)) _
    · go_wp2_with fail
      obtain ⟨⟨a1, a2, b1, b2⟩, ⟨c1, c2, d1, d2⟩, e1, e2, f1, f2⟩ := HM.out
      refine (rcmp_any a b e f s _ a1 a2 b1 b2 e1 e2 f1 f2 HC.out.2).mono ?_
      clear a1 a2 b1 b2 c1 c2 d1 d2 e1 e2 f1 f2
      rintro en w5 ⟨rfl, hB⟩
      obtain ⟨hc, hz⟩ := bcell hB
      have HB5 : Hid (Below w.heap.size w w5) := Lib.hid (HB4.out.trans (hB.mono HB4.out.size))
      have hlt := hsz
      have hsz' := Nat.lt_of_lt_of_le hsz hB.size
      rw [← hc _ _ (by omega)] at x0
      rw [← hc _ _ (by omega)] at x1
      rw [← hc _ _ (by omega)] at x2
      rw [← hc _ _ (by omega)] at x3
      rw [← hc _ _ (by omega)] at x4
      rw [← hc _ _ (by omega)] at x5
      rw [← hc _ _ (by omega)] at y0
      rw [← hz _ _ (by omega)] at z0
      rw [← hc _ _ (by omega)] at y1
      rw [← hz _ _ (by omega)] at z1
      clear hB hc hz hlt hsz
      have hsz := hsz'
      clear hsz'
      by_cases hsn : 0 < s
      · have h := HT2.out.2.1 hrn hsn
        obtain ⟨rfl, rfl⟩ : x = e ∧ y = f := ⟨HXT.out.1.symm.trans h.1, HXT.out.2.symm.trans h.2⟩
        clear h
        go_wp2_with fail
        refine bodyPost_ret (v := frac _ _) (by simp [results, Tryz.results27, go_sem, y0, y1]) rfl ⟨rfl, ?_⟩
        exact (HB5.out.setCell (by first | (simp; done) | (simp; omega)) _).setCell (by first | (simp; done) | (simp; omega)) _
      · have h := HT2.out.2.2 hrn (by omega)
        obtain ⟨rfl, rfl⟩ : x = a ∧ y = b := ⟨HXT.out.1.symm.trans h.1, HXT.out.2.symm.trans h.2⟩
        clear h
        go_wp2_with fail
        refine bodyPost_ret (v := frac _ _) (by simp [results, Tryz.results27, go_sem, y0, y1]) rfl ⟨rfl, ?_⟩
        exact (HB5.out.setCell (by first | (simp; done) | (simp; omega)) _).setCell (by first | (simp; done) | (simp; omega)) _
end Go.Proofs.YtphphamfejgdaaaGreatDoor
