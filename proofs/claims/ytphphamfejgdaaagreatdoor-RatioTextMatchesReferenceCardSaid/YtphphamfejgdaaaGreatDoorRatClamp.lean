/- Clamp. Conditions: ints; the variable of the error holds a pointer. -/
import Derived.Test.YtphphamfejgdaaaGreatDoorRatL
namespace Go.Proofs.YtphphamfejgdaaaGreatDoor
open Go.RowKit

/-- What Clamp gives. -/
def clampO (a b c d e f : Int) : Option Rat :=
  match Rt.rd a b, Rt.rd c d, Rt.rd e f with
  | some p, some l, some h => some (if Rt.cmpI (a * d) (c * b) < 0 then l else if 0 < Rt.cmpI (a * f) (e * b) then h else p)
  | _, _, _ => none
/-- The numbers of three fractions. -/
def three (a c e : Int) (i : Nat) : Int := if i = 0 then a else if i = 1 then c else e
def all3 (a b c d e f : Int) : Bool := (Rt.rd a b).isSome && (Rt.rd c d).isSome && (Rt.rd e f).isSome
theorem allV_three (a b c d e f : Int) : allV (three a c e) (three b d f) 3 = all3 a b c d e f := by simp [allV, three, all3]
theorem three_bounds {a c e : Int} (a1 : -9223372036854775808 ≤ a) (a2 : a ≤ 9223372036854775807) (c1 : -9223372036854775808 ≤ c) (c2 : c ≤ 9223372036854775807) (e1 : -9223372036854775808 ≤ e) (e2 : e ≤ 9223372036854775807) (i : Nat) :
    -9223372036854775808 ≤ three a c e i ∧ three a c e i ≤ 9223372036854775807 := by
  unfold three; split
  · exact ⟨a1, a2⟩
  · split
    · exact ⟨c1, c2⟩
    · exact ⟨e1, e2⟩
theorem clamp_no {a b c d e f : Int} (h : all3 a b c d e f = false) : clampO a b c d e f = none := by
  unfold all3 at h
  unfold clampO
  cases h1 : Rt.rd a b <;> cases h2 : Rt.rd c d <;> cases h3 : Rt.rd e f <;> simp_all
theorem clamp_yes {a b c d e f r s : Int} (h : all3 a b c d e f = true) (hr : Rt.cmpI (a * d) (c * b) = r) (hs : Rt.cmpI (a * f) (e * b) = s) :
    ∃ q, clampO a b c d e f = some q ∧ (r < 0 → q.num = c ∧ (q.den : Int) = d) ∧ (¬ r < 0 → 0 < s → q.num = e ∧ (q.den : Int) = f) ∧ (¬ r < 0 → ¬ 0 < s → q.num = a ∧ (q.den : Int) = b) := by
  unfold all3 at h
  unfold clampO
  rw [hr, hs]
  cases h1 : Rt.rd a b with
  | none => rw [h1] at h; simp at h
  | some p =>
    cases h2 : Rt.rd c d with
    | none => rw [h2] at h; simp at h
    | some l =>
      cases h3 : Rt.rd e f with
      | none => rw [h3] at h; simp at h
      | some t =>
        obtain ⟨p1, p2, _⟩ := Rt.rd_some h1
        obtain ⟨l1, l2, _⟩ := Rt.rd_some h2
        obtain ⟨t1, t2, _⟩ := Rt.rd_some h3
        refine ⟨_, rfl, fun k => ?_, fun k k2 => ?_, fun k k2 => ?_⟩
        · rw [if_pos k]; exact ⟨l1, l2⟩
        · rw [if_neg k, if_pos k2]; exact ⟨t1, t2⟩
        · rw [if_neg k, if_neg k2]; exact ⟨p1, p2⟩
theorem all3_bounds {a b c d e f : Int} (h : all3 a b c d e f = true) : ((-1000000000 ≤ a ∧ a ≤ 1000000000) ∧ 1 ≤ b ∧ b ≤ 1000000000) ∧ ((-1000000000 ≤ c ∧ c ≤ 1000000000) ∧ 1 ≤ d ∧ d ≤ 1000000000) ∧ (-1000000000 ≤ e ∧ e ≤ 1000000000) ∧ 1 ≤ f ∧ f ≤ 1000000000 := by
  unfold all3 at h
  simp only [Bool.and_eq_true] at h
  exact ⟨one_bounds rfl h.1.1, one_bounds rfl h.1.2, one_bounds rfl h.2⟩

set_option maxRecDepth 20000 in
set_option maxHeartbeats 1000000 in
theorem clamp1_any (bp bq br : Nat) (a b c d e f : Int) (o : Option Rat) (er : Addr) (w : World) (a1 : -9223372036854775808 ≤ a) (a2 : a ≤ 9223372036854775807) (b1 : -9223372036854775808 ≤ b) (b2 : b ≤ 9223372036854775807) (c1 : -9223372036854775808 ≤ c) (c2 : c ≤ 9223372036854775807) (d1 : -9223372036854775808 ≤ d) (d2 : d ≤ 9223372036854775807) (e1 : -9223372036854775808 ≤ e) (e2 : e ≤ 9223372036854775807) (f1 : -9223372036854775808 ≤ f) (f2 : f ≤ 9223372036854775807) (hE : ErrAt w er) (ho : clampO a b c d e f = o)
    (p0 : w.cell? ⟨bp, 0, none⟩ = some (.int .i64 a)) (p1 : w.cell? ⟨bp, 1, none⟩ = some (.int .i64 b)) (q0 : w.cell? ⟨bq, 0, none⟩ = some (.int .i64 c)) (q1 : w.cell? ⟨bq, 1, none⟩ = some (.int .i64 d))
    (r0 : w.cell? ⟨br, 0, none⟩ = some (.int .i64 e)) (r1 : w.cell? ⟨br, 1, none⟩ = some (.int .i64 f)) :
    Calls Tryz.prog 51 #[.pointer (some ⟨bp, 0, none⟩), .pointer (some ⟨bq, 0, none⟩), .pointer (some ⟨br, 0, none⟩)] w fun en w' => en = outcome er o ∧ Below w.heap.size w w' := by
  have HM := Lib.hid (And.intro (fun i => three_bounds a1 a2 c1 c2 e1 e2 i) (fun i => three_bounds b1 b2 d1 d2 f1 f2 i))
  have HE := Lib.hid hE
  have HO := Lib.hid ho
  have hp := World.block_lt_of_cell? (a := ⟨bp, 0, none⟩) (h := p0)
  have hq := World.block_lt_of_cell? (a := ⟨bq, 0, none⟩) (h := q0)
  have hr := World.block_lt_of_cell? (a := ⟨br, 0, none⟩) (h := r0)
  clear a1 a2 b1 b2 c1 c2 d1 d2 e1 e2 f1 f2 hE ho
  obtain ⟨v, hv⟩ : ∃ v, all3 a b c d e f = v := ⟨_, rfl⟩
  have HV := Lib.hid hv
  clear hv
  go_enter Tryz.func51, Tryz.ntmps51
  go_wp2_with fail
  have hb0 : Below w.heap.size w ((w.alloc (Obj.cells #[Value.int IntKind.i64 0, Value.int IntKind.i64 0] 25)).alloc (Obj.cells #[Value.int IntKind.i64 a, Value.int IntKind.i64 b, Value.int IntKind.i64 c, Value.int IntKind.i64 d, Value.int IntKind.i64 e, Value.int IntKind.i64 f] 25)) :=
    ((Below.refl _ _).alloc (Nat.le_refl _) _).alloc (by simp) _
  refine (check_any (w.heap.size + 1) 3 (three a c e) (three b d f) v er _ (by decide) (fun i _ => ⟨HM.out.1 i, HM.out.2 i⟩) ⟨fun i hi => ?_, fun i hi => ?_⟩ (HE.out.below hb0) (by rw [allV_three]; exact HV.out)).mono ?_
  · match i, hi with
    | 0, _ => simp [go_sem, three]
    | 1, _ => simp [go_sem, three]
    | 2, _ => simp [go_sem, three]
  · match i, hi with
    | 0, _ => simp [go_sem, three]
    | 1, _ => simp [go_sem, three]
    | 2, _ => simp [go_sem, three]
  cases v with
  | false =>
    have ho1 : o = none := by rw [← HO.out]; exact clamp_no HV.out
    subst ho1
    rintro en w2 ⟨rfl, hB⟩
    have hB2 : Below w.heap.size w w2 := hb0.trans (hB.mono (by simp; omega))
    clear hB hb0
    unfold verdict
    go_wp2_with fail
    exact ⟨rfl, rfl, hB2⟩
  | true =>
    have HBB := Lib.hid (all3_bounds HV.out)
    obtain ⟨r, hr1⟩ : ∃ r, Rt.cmpI (a * d) (c * b) = r := ⟨_, rfl⟩
    obtain ⟨s, hs1⟩ : ∃ s, Rt.cmpI (a * f) (e * b) = s := ⟨_, rfl⟩
    obtain ⟨q, hq1, hq2⟩ := clamp_yes HV.out hr1 hs1
    obtain rfl : o = some q := by rw [← HO.out]; exact hq1
    have HQ := Lib.hid hq2
    have HR := Lib.hid hr1
    have HS := Lib.hid hs1
    clear hq1 hq2 hr1 hs1 HO HV HM
    rintro en w2 ⟨rfl, hB⟩
    obtain ⟨hc, hz⟩ := bcell hB
    have x0 : w2.cell? ⟨bp, 0, none⟩ = some (.int .i64 a) := by rw [hc _ _ (by first | (simp; done) | (simp; omega))]; simp [go_sem, *]
    have x1 : w2.cell? ⟨bp, 1, none⟩ = some (.int .i64 b) := by rw [hc _ _ (by first | (simp; done) | (simp; omega))]; simp [go_sem, *]
    have x2 : w2.cell? ⟨bq, 0, none⟩ = some (.int .i64 c) := by rw [hc _ _ (by first | (simp; done) | (simp; omega))]; simp [go_sem, *]
    have x3 : w2.cell? ⟨bq, 1, none⟩ = some (.int .i64 d) := by rw [hc _ _ (by first | (simp; done) | (simp; omega))]; simp [go_sem, *]
    have x4 : w2.cell? ⟨br, 0, none⟩ = some (.int .i64 e) := by rw [hc _ _ (by first | (simp; done) | (simp; omega))]; simp [go_sem, *]
    have x5 : w2.cell? ⟨br, 1, none⟩ = some (.int .i64 f) := by rw [hc _ _ (by first | (simp; done) | (simp; omega))]; simp [go_sem, *]
    have y0 : w2.cell? ⟨w.heap.size, 0, none⟩ = some (.int .i64 0) := by rw [hc _ _ (by first | (simp; done) | (simp; omega))]; simp [go_sem]
    have y1 : w2.cell? ⟨w.heap.size, 1, none⟩ = some (.int .i64 0) := by rw [hc _ _ (by first | (simp; done) | (simp; omega))]; simp [go_sem]
    have z0 : w2.frozen? ⟨w.heap.size, 0, none⟩ = false := by rw [hz _ _ (by first | (simp; done) | (simp; omega))]; simp [go_sem]
    have z1 : w2.frozen? ⟨w.heap.size, 1, none⟩ = false := by rw [hz _ _ (by first | (simp; done) | (simp; omega))]; simp [go_sem]
    have hsz : w.heap.size < w2.heap.size := by have := hB.size; simp at this; omega
    have HB2 : Hid (Below w.heap.size w w2) := Lib.hid (hb0.trans (hB.mono (by simp; omega)))
    clear hB hb0 hc hz p0 p1 q0 q1 r0 r1
    unfold verdict
    go_wp2_with fail
    have hb := HBB.out
    refine (compare_any a b c d r _ hb.1.1.1 hb.1.1.2 hb.1.2.1 hb.1.2.2 hb.2.1.1.1 hb.2.1.1.2 hb.2.1.2.1 hb.2.1.2.2 HR.out).mono ?_
    clear hb
    rintro en w3 ⟨rfl, hB3⟩
    have HB4 : Hid (Below w.heap.size w w3) := Lib.hid (HB2.out.trans (hB3.mono HB2.out.size))
    have hp2 := World.block_lt_of_cell? (a := ⟨bp, 0, none⟩) (h := x0)
    have hq2 := World.block_lt_of_cell? (a := ⟨bq, 0, none⟩) (h := x2)
    have hr2 := World.block_lt_of_cell? (a := ⟨br, 0, none⟩) (h := x4)
    obtain ⟨hc, hz⟩ := bcell hB3
    have hsz3 := Nat.lt_of_lt_of_le hsz hB3.size
    rw [← hc _ _ hp2] at x0 x1
    rw [← hc _ _ hq2] at x2 x3
    rw [← hc _ _ hr2] at x4 x5
    rw [← hc _ _ hsz] at y0 y1
    rw [← hz _ _ hsz] at z0 z1
    clear hB3 hc hz hp2 hq2 hr2 hsz
    by_cases hrn : r < 0
    · have hx : q.num = c ∧ (q.den : Int) = d := HQ.out.1 hrn
      go_wp2_with fail
      refine bodyPost_ret (v := frac c d) (by simp [results, Tryz.results51, go_sem, y0, y1]) rfl ⟨by rw [← hx.1, ← hx.2]; rfl, ?_⟩
      exact (HB4.out.setCell (Nat.le_refl _) _).setCell (Nat.le_refl _) _
    · go_wp2_with fail
      have hb := HBB.out
      refine (compare_any a b e f s _ hb.1.1.1 hb.1.1.2 hb.1.2.1 hb.1.2.2 hb.2.2.1.1 hb.2.2.1.2 hb.2.2.2.1 hb.2.2.2.2 HS.out).mono ?_
      clear hb
      rintro en w4 ⟨rfl, hB3⟩
      have HB5 : Hid (Below w.heap.size w w4) := Lib.hid (HB4.out.trans (hB3.mono HB4.out.size))
      have hp2 := World.block_lt_of_cell? (a := ⟨bp, 0, none⟩) (h := x0)
      have hr2 := World.block_lt_of_cell? (a := ⟨br, 0, none⟩) (h := x4)
      obtain ⟨hc, hz⟩ := bcell hB3
      rw [← hc _ _ hp2] at x0 x1
      rw [← hc _ _ hr2] at x4 x5
      rw [← hc _ _ hsz3] at y0 y1
      rw [← hz _ _ hsz3] at z0 z1
      clear hB3 hc hz hp2 hr2 hsz3 x2 x3
      by_cases hsn : 0 < s
      · have hx : q.num = e ∧ (q.den : Int) = f := HQ.out.2.1 hrn hsn
        go_wp2_with fail
        refine bodyPost_ret (v := frac e f) (by simp [results, Tryz.results51, go_sem, y0, y1]) rfl ⟨by rw [← hx.1, ← hx.2]; rfl, ?_⟩
        exact (HB5.out.setCell (Nat.le_refl _) _).setCell (Nat.le_refl _) _
      · have hx : q.num = a ∧ (q.den : Int) = b := HQ.out.2.2 hrn (by omega)
        go_wp2_with fail
        refine bodyPost_ret (v := frac a b) (by simp [results, Tryz.results51, go_sem, y0, y1]) rfl ⟨by rw [← hx.1, ← hx.2]; rfl, ?_⟩
        exact (HB5.out.setCell (Nat.le_refl _) _).setCell (Nat.le_refl _) _

set_option maxRecDepth 20000 in
set_option maxHeartbeats 1000000 in
theorem clamp_any (a b c d e f x y : Int) (er : Addr) (w : World) (a1 : -9223372036854775808 ≤ a) (a2 : a ≤ 9223372036854775807) (b1 : -9223372036854775808 ≤ b) (b2 : b ≤ 9223372036854775807) (c1 : -9223372036854775808 ≤ c) (c2 : c ≤ 9223372036854775807) (d1 : -9223372036854775808 ≤ d) (d2 : d ≤ 9223372036854775807) (e1 : -9223372036854775808 ≤ e) (e2 : e ≤ 9223372036854775807) (f1 : -9223372036854775808 ≤ f) (f2 : f ≤ 9223372036854775807) (hE : ErrAt w er)
    (hx : Rt.nm (clampO a b c d e f) = x) (hy : Rt.dn (clampO a b c d e f) = y) :
    Calls Tryz.prog 26 #[frac a b, frac c d, frac e f] w fun en w' => en = .returned (frac x y) ∧ Below w.heap.size w w' := by
  have hmf : ∀ (fn : Fn) (first cap : Array Value) (w : World), (Instr.makeFunc fn first cap).run Tryz.prog w = .ok (.func fn first cap) w := fun _ _ _ _ => rfl
  obtain ⟨z, hz0⟩ : ∃ z, Rt.er (clampO a b c d e f) = z := ⟨_, rfl⟩
  have HM := Lib.hid (And.intro (And.intro a1 (And.intro a2 (And.intro b1 b2))) (And.intro (And.intro c1 (And.intro c2 (And.intro d1 d2))) (And.intro e1 (And.intro e2 (And.intro f1 f2)))))
  have HX := Lib.hid (And.intro hx (And.intro hy hz0))
  have HE := Lib.hid hE
  clear a1 a2 b1 b2 c1 c2 d1 d2 e1 e2 f1 f2 hx hy hz0 hE
  have hen : Enters 51 := enters_of Tryz.func51 (by kernel_rfl) (by kernel_rfl)
  have HN := Lib.hid hen
  clear hen
  go_enter Tryz.func26, Tryz.ntmps26
  go_wp2_with fail
  have hb0 : Below w.heap.size w ((((w.alloc (Obj.cells #[Value.int IntKind.i64 a, Value.int IntKind.i64 b] 25)).alloc (Obj.cells #[Value.int IntKind.i64 c, Value.int IntKind.i64 d] 25)).alloc (Obj.cells #[Value.int IntKind.i64 e, Value.int IntKind.i64 f] 25)).alloc (Obj.cells #[Value.int IntKind.i64 0, Value.int IntKind.i64 0] 25)) :=
    ((((Below.refl _ _).alloc (Nat.le_refl _) _).alloc (by simp) _).alloc (by simp; omega) _).alloc (by simp; omega) _
  have HE1 := Lib.hid (HE.out.below hb0)
  have HT : ∀ w1, Below _ _ w1 → Calls Tryz.prog 51 _ w1 fun en w2 => en = outcome er (clampO a b c d e f) ∧ Below w1.heap.size w1 w2 := fun w1 h1 => by
    obtain ⟨hc, _⟩ := bcell h1
    obtain ⟨⟨a1, a2, b1, b2⟩, ⟨c1, c2, d1, d2⟩, e1, e2, f1, f2⟩ := HM.out
    exact clamp1_any w.heap.size (w.heap.size + 1) (w.heap.size + 1 + 1) a b c d e f _ er w1 a1 a2 b1 b2 c1 c2 d1 d2 e1 e2 f1 f2 (HE1.out.below h1) rfl
      (by rw [hc _ _ (by first | (simp; done) | (simp; omega))]; simp [go_sem]) (by rw [hc _ _ (by first | (simp; done) | (simp; omega))]; simp [go_sem])
      (by rw [hc _ _ (by first | (simp; done) | (simp; omega))]; simp [go_sem]) (by rw [hc _ _ (by first | (simp; done) | (simp; omega))]; simp [go_sem])
      (by rw [hc _ _ (by first | (simp; done) | (simp; omega))]; simp [go_sem]) (by rw [hc _ _ (by first | (simp; done) | (simp; omega))]; simp [go_sem])
  refine (answer_any 51 _ (clampO a b c d e f) er x y z _ HN.out HE1.out (fun q hq w1 h1 => ?_) (fun hq w1 h1 => ?_) HX.out).mono ?_
  · have h2 := HT w1 h1
    rw [hq] at h2
    exact h2
  · have h2 := HT w1 h1
    rw [hq] at h2
    exact h2
  clear HT
  rintro en w2 ⟨rfl, hB⟩
  obtain ⟨hc, hz⟩ := bcell hB
  have y0 : w2.cell? ⟨w.heap.size + 1 + 1 + 1, 0, none⟩ = some (.int .i64 0) := by rw [hc _ _ (by first | (simp; done) | (simp; omega))]; simp [go_sem]
  have y1 : w2.cell? ⟨w.heap.size + 1 + 1 + 1, 1, none⟩ = some (.int .i64 0) := by rw [hc _ _ (by first | (simp; done) | (simp; omega))]; simp [go_sem]
  have z0 : w2.frozen? ⟨w.heap.size + 1 + 1 + 1, 0, none⟩ = false := by rw [hz _ _ (by first | (simp; done) | (simp; omega))]; simp [go_sem]
  have z1 : w2.frozen? ⟨w.heap.size + 1 + 1 + 1, 1, none⟩ = false := by rw [hz _ _ (by first | (simp; done) | (simp; omega))]; simp [go_sem]
  have hsz : w.heap.size + 1 + 1 + 1 < w2.heap.size := by have := hB.size; simp at this; omega
  have HB2 : Hid (Below w.heap.size w w2) := Lib.hid (hb0.trans (hB.mono (by simp; omega)))
  clear hc hz hB hb0
  go_wp2_with fail
  refine bodyPost_ret (v := frac x y) (by simp [results, Tryz.results26, go_sem, y0, y1, hsz]) rfl ⟨rfl, ?_⟩
  exact ((HB2.out.setCell (by simp; omega) _).setCell (by simp; omega) _).alloc (by have := HB2.out.size; simpa using this) _
end Go.Proofs.YtphphamfejgdaaaGreatDoor
