/- Round. Conditions: ints; the variable of the error holds a pointer. -/
import Derived.Test.YtphphamfejgdaaaGreatDoorRatK
namespace Go.Proofs.YtphphamfejgdaaaGreatDoor
open Go.RowKit

set_option maxRecDepth 20000 in
set_option maxHeartbeats 1000000 in
theorem round_any (a b k x y z : Int) (er : Addr) (w : World) (a1 : -9223372036854775808 ≤ a) (a2 : a ≤ 9223372036854775807) (b1 : -9223372036854775808 ≤ b) (b2 : b ≤ 9223372036854775807)
    (k1 : -9223372036854775808 ≤ k) (k2 : k ≤ 9223372036854775807) (hE : ErrAt w er)
    (hx : Rt.nm (Rt.roundO a b k) = x) (hy : Rt.dn (Rt.roundO a b k) = y) (hz : Rt.er (Rt.roundO a b k) = z) :
    Calls Tryz.prog 18 #[frac a b, .int .i64 k] w fun e w' => e = .returned (.tuple #[frac x y, .int .i64 z]) ∧ Below w.heap.size w w' := by
  have hmf : ∀ (fn : Fn) (first cap : Array Value) (w : World), (Instr.makeFunc fn first cap).run Tryz.prog w = .ok (.func fn first cap) w := fun _ _ _ _ => rfl
  have HM := Lib.hid (And.intro (And.intro a1 a2) (And.intro (And.intro b1 b2) (And.intro k1 k2)))
  have HX := Lib.hid (And.intro hx (And.intro hy hz))
  have HE := Lib.hid hE
  clear a1 a2 b1 b2 k1 k2 hx hy hz hE
  have hen : Enters 44 := enters_of Tryz.func44 (by kernel_rfl) (by kernel_rfl)
  have HN := Lib.hid hen
  clear hen
  go_enter Tryz.func18, Tryz.ntmps18
  go_wp2_with fail
  have hb0 : Below w.heap.size w (((w.alloc (Obj.cells #[Value.int IntKind.i64 a, Value.int IntKind.i64 b] 25)).alloc (Obj.cells #[Value.int IntKind.i64 k] 3)).alloc (Obj.cells #[Value.int IntKind.i64 0, Value.int IntKind.i64 0] 25)) :=
    (((Below.refl _ _).alloc (Nat.le_refl _) _).alloc (by simp) _).alloc (by simp; omega) _
  have HE1 := Lib.hid (HE.out.below hb0)
  have HT : ∀ w1, Below _ _ w1 → Calls Tryz.prog 44 _ w1 fun e w2 => e = outcome er (Rt.roundO a b k) ∧ Below w1.heap.size w1 w2 := fun w1 h1 => by
    obtain ⟨hc, _⟩ := bcell h1
    exact round1_any w.heap.size (w.heap.size + 1) a b k _ er w1 HM.out.1.1 HM.out.1.2 HM.out.2.1.1 HM.out.2.1.2 HM.out.2.2.1 HM.out.2.2.2 (HE1.out.below h1) rfl
      (by rw [hc _ _ (by simp; omega)]; simp [go_sem]) (by rw [hc _ _ (by simp; omega)]; simp [go_sem]) (by rw [hc _ _ (by simp)]; simp [go_sem])
  refine (answer_any 44 _ (Rt.roundO a b k) er x y z _ HN.out HE1.out (fun q hq w1 h1 => ?_) (fun hq w1 h1 => ?_) HX.out).mono ?_
  · have h2 := HT w1 h1
    rw [hq] at h2
    exact h2
  · have h2 := HT w1 h1
    rw [hq] at h2
    exact h2
  clear HT
  rintro e w2 ⟨rfl, hB⟩
  obtain ⟨hc, hz⟩ := bcell hB
  have hc0 : w2.cell? ⟨w.heap.size + 1 + 1, 0, none⟩ = some (.int .i64 0) := by rw [hc _ _ (by first | (simp; done) | (simp; omega))]; simp [go_sem]
  have hc1 : w2.cell? ⟨w.heap.size + 1 + 1, 1, none⟩ = some (.int .i64 0) := by rw [hc _ _ (by first | (simp; done) | (simp; omega))]; simp [go_sem]
  have hz0 : w2.frozen? ⟨w.heap.size + 1 + 1, 0, none⟩ = false := by rw [hz _ _ (by first | (simp; done) | (simp; omega))]; simp [go_sem]
  have hz1 : w2.frozen? ⟨w.heap.size + 1 + 1, 1, none⟩ = false := by rw [hz _ _ (by first | (simp; done) | (simp; omega))]; simp [go_sem]
  have hB2 : Below w.heap.size w w2 := hb0.trans (hB.mono (by simp; omega))
  clear hc hz
  go_wp2_with fail
  refine bodyPost_ret (v := .tuple #[frac x y, .int .i64 z]) (by simp [results, Tryz.results18, go_sem, hc0, hc1]) rfl ⟨rfl, ?_⟩
  exact (hB2.setCell (by simp; omega) _).setCell (by simp; omega) _
end Go.Proofs.YtphphamfejgdaaaGreatDoor
