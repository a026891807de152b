/- made. Conditions: ints; the variable of the error holds a pointer. -/
import Derived.Test.YtphphamfejgdaaaGreatDoorRatQ
namespace Go.Proofs.YtphphamfejgdaaaGreatDoor
open Go.RowKit

theorem held2_alloc {wr w' : World} {a b : Addr} {x y : Value} (h : w'.cell? a = some x ∧ w'.cell? b = some y ∧ Below wr.heap.size wr w') (o : Obj) : (w'.alloc o).cell? a = some x ∧ (w'.alloc o).cell? b = some y ∧ Below wr.heap.size wr (w'.alloc o) :=
  ⟨by rw [World.cell?_alloc_lt _ _ _ (World.block_lt_of_cell? (h := h.1))]; exact h.1, by rw [World.cell?_alloc_lt _ _ _ (World.block_lt_of_cell? (h := h.2.1))]; exact h.2.1, h.2.2.alloc h.2.2.size _⟩
theorem held2_set {wr w' : World} {B i j : Nat} {x y : Value} (h : w'.cell? ⟨B, i, none⟩ = some x ∧ w'.cell? ⟨B, j, none⟩ = some y ∧ Below wr.heap.size wr w') (hB : B < wr.heap.size) (p : Addr) (hp : wr.heap.size ≤ p.block) (v : Value) :
    (w'.setCell p v).cell? ⟨B, i, none⟩ = some x ∧ (w'.setCell p v).cell? ⟨B, j, none⟩ = some y ∧ Below wr.heap.size wr (w'.setCell p v) :=
  ⟨by rw [cell_set h.1, if_neg (fun e => by subst e; exact absurd hp (Nat.not_le.2 hB))], by rw [cell_set h.2.1, if_neg (fun e => by subst e; exact absurd hp (Nat.not_le.2 hB))], h.2.2.setCell hp _⟩
/-- The world behind the making of fraction number i. -/
structure Aft (w6 w wr : World) (N : Nat) (X : Nat → Int) (i : Nat) (x y : Int) : Prop where
  made : MadeAt w6 w.heap.size X (madeL X i)
  below : Below w.heap.size w w6
  t0 : w6.cell? ⟨N, 0, none⟩ = some (.int .i64 x)
  t1 : w6.cell? ⟨N, 1, none⟩ = some (.int .i64 y)
theorem madeL_zero (X : Nat → Int) (k : Nat) : madeL X 0 k = 0 := by unfold madeL; rw [if_neg (by omega)]

set_option maxRecDepth 20000 in
set_option maxHeartbeats 1000000 in
theorem made_any (X : Nat → Int) (er : Addr) (w : World) (hX : ∀ k, k < 6 → -9223372036854775808 ≤ X k ∧ X k ≤ 9223372036854775807) (hE : ErrAt w er) :
    Calls Tryz.prog 32 #[.agg #[.int .i64 (X 0), .int .i64 (X 1), .int .i64 (X 2), .int .i64 (X 3), .int .i64 (X 4), .int .i64 (X 5)]] w fun e w' =>
      (∃ (v : Bool) (a b c d f g : Int), e = .returned (.tuple #[.agg #[.int .i64 a, .int .i64 b, .int .i64 c, .int .i64 d, .int .i64 f, .int .i64 g], .bool v]) ∧ (v = true → ∃ p q r, Is p a b ∧ Is q c d ∧ Is r f g)) ∧ Below w.heap.size w w' := by
  have HX := Lib.hid hX
  have HE := Lib.hid hE
  clear hX hE
  go_enter Tryz.func32, Tryz.ntmps32
  go_wp2
  have hb0 : Below w.heap.size w (((w.alloc (Obj.cells #[Value.int IntKind.i64 (X 0), Value.int IntKind.i64 (X 1), Value.int IntKind.i64 (X 2), Value.int IntKind.i64 (X 3), Value.int IntKind.i64 (X 4), Value.int IntKind.i64 (X 5)] 44)).alloc (Obj.cells #[Value.int IntKind.i64 0, Value.int IntKind.i64 0, Value.int IntKind.i64 0, Value.int IntKind.i64 0, Value.int IntKind.i64 0, Value.int IntKind.i64 0] 45)).alloc (Obj.cells #[Value.int IntKind.i64 0, Value.int IntKind.i64 0, Value.int IntKind.i64 0, Value.int IntKind.i64 0, Value.int IntKind.i64 0, Value.int IntKind.i64 0] 45)) :=
    (((Below.refl _ _).alloc (Nat.le_refl _) _).alloc (by simp) _).alloc (by first | (simp; done) | (simp; omega)) _
  have hm0 : MadeAt (((w.alloc (Obj.cells #[Value.int IntKind.i64 (X 0), Value.int IntKind.i64 (X 1), Value.int IntKind.i64 (X 2), Value.int IntKind.i64 (X 3), Value.int IntKind.i64 (X 4), Value.int IntKind.i64 (X 5)] 44)).alloc (Obj.cells #[Value.int IntKind.i64 0, Value.int IntKind.i64 0, Value.int IntKind.i64 0, Value.int IntKind.i64 0, Value.int IntKind.i64 0, Value.int IntKind.i64 0] 45)).alloc (Obj.cells #[Value.int IntKind.i64 0, Value.int IntKind.i64 0, Value.int IntKind.i64 0, Value.int IntKind.i64 0, Value.int IntKind.i64 0, Value.int IntKind.i64 0] 45)) w.heap.size X (madeL X 0) := by
    refine ⟨fun k hk => ?_, fun k hk => ?_, fun k hk => ?_, fun k hk => ?_, fun k hk => ?_, by simp⟩
    · match k, hk with
      | 0, _ => simp [go_sem]
      | 1, _ => simp [go_sem]
      | 2, _ => simp [go_sem]
      | 3, _ => simp [go_sem]
      | 4, _ => simp [go_sem]
      | 5, _ => simp [go_sem]
    · match k, hk with
      | 0, _ => simp [go_sem]
      | 1, _ => simp [go_sem]
      | 2, _ => simp [go_sem]
      | 3, _ => simp [go_sem]
      | 4, _ => simp [go_sem]
      | 5, _ => simp [go_sem]
    · simp [go_sem]
    · rw [madeL_zero]
      match k, hk with
      | 0, _ => simp [go_sem]
      | 1, _ => simp [go_sem]
      | 2, _ => simp [go_sem]
      | 3, _ => simp [go_sem]
      | 4, _ => simp [go_sem]
      | 5, _ => simp [go_sem]
    · simp [go_sem]
  have HB0 := Lib.hid hb0
  have HM0 := Lib.hid hm0
  clear hb0 hm0
  go_loopw [5] (fun c wr => ∃ i : Nat, i ≤ 3 ∧ c = .int .i64 i ∧ Hid (∀ j, j < i → Rt.er (Rt.mk (X (j * 2)) (X (j * 2 + 1))) = 0) ∧ Hid (MadeAt wr w.heap.size X (madeL X i)) ∧ Hid (Below w.heap.size w wr)) (fun c _ => 3 - (intOf c).toNat)
  case atStart => exact ⟨0, by omega, rfl, Lib.hid (fun j hj => absurd hj (by omega)), HM0, HB0⟩
  case round =>
    obtain ⟨i, hi, rfl, HA, HM, HB⟩ := hrel
    clear HM0 HB0
    by_cases hlt : i < 3
    · obtain ⟨n, hn⟩ : ∃ n, X (i * 2) = n := ⟨_, rfl⟩
      obtain ⟨d, hd⟩ : ∃ d, X (i * 2 + 1) = d := ⟨_, rfl⟩
      obtain ⟨x, hx⟩ : ∃ x, Rt.nm (Rt.mk n d) = x := ⟨_, rfl⟩
      obtain ⟨y, hy⟩ : ∃ y, Rt.dn (Rt.mk n d) = y := ⟨_, rfl⟩
      obtain ⟨z, hz⟩ : ∃ z, Rt.er (Rt.mk n d) = z := ⟨_, rfl⟩
      have x0 : wr.cell? ⟨w.heap.size, i * 2, none⟩ = some (.int .i64 n) := by rw [← hn]; exact HM.out.x _ (by omega)
      have x1 : wr.cell? ⟨w.heap.size, i * 2 + 1, none⟩ = some (.int .i64 d) := by rw [← hd]; exact HM.out.x _ (by omega)
      have hxl := World.block_lt_of_cell? (a := ⟨w.heap.size, i * 2, none⟩) (h := x0)
      have HC : Hid (∀ w1, Below wr.heap.size wr w1 → Calls Tryz.prog 7 #[.int .i64 n, .int .i64 d] w1 fun e w' => e = .returned (.tuple #[frac x y, .int .i64 z]) ∧
          (w'.cell? ⟨w.heap.size, i * 2, none⟩ = some (.int .i64 n) ∧ w'.cell? ⟨w.heap.size, i * 2 + 1, none⟩ = some (.int .i64 d) ∧ Below wr.heap.size wr w') ∧ (∀ b o, b < w1.heap.size → w'.cell? ⟨b, o, none⟩ = w1.cell? ⟨b, o, none⟩) ∧ (∀ b o, b < w1.heap.size → w'.frozen? ⟨b, o, none⟩ = w1.frozen? ⟨b, o, none⟩)) := Lib.hid (fun w1 h1 => by
        have b1 := HX.out (i * 2) (by omega)
        have b2 := HX.out (i * 2 + 1) (by omega)
        rw [hn] at b1
        rw [hd] at b2
        refine (make_any n d x y z er w1 b1.1 b1.2 b2.1 b2.2 ((HE.out.below HB.out).below h1) hx hy hz).mono fun e w' ⟨he, h2⟩ => ⟨he, ?_⟩
        have h3 := h1.trans (h2.mono h1.size)
        exact ⟨⟨by rw [(bcell h3).1 _ _ hxl]; exact x0, by rw [(bcell h3).1 _ _ hxl]; exact x1, h3⟩, (bcell h2).1, (bcell h2).2⟩)
      have HP := Lib.hid (And.intro hn (And.intro hd (And.intro hx (And.intro hy hz))))
      have i0 : (0 : Int) ≤ (i : Int) := by omega
      have i1 : (i : Int) < 3 := by omega
      clear hn hd hx hy hz
      go_wp2_with fail
      go_region_held3 (fun w' => w'.cell? ⟨w.heap.size, i * 2, none⟩ = some (.int .i64 n) ∧ w'.cell? ⟨w.heap.size, i * 2 + 1, none⟩ = some (.int .i64 d) ∧ Below wr.heap.size wr w') (first | exact ⟨x0, x1, Below.refl _ _⟩ | exact ⟨x0, x1, (Below.refl _ _).drew⟩ | assumption | exact held2_alloc (by assumption) _ | exact held2_set (held2_set (by assumption) hxl _ (Nat.le_refl _) _) hxl _ (Nat.le_refl _) _) ((first | (go_at_call 7; refine (HC.out _ (by first | exact Below.refl _ _ | exact (Below.refl _ _).drew | assumption | exact (show _ ∧ _ ∧ _ from by assumption).2.2)).mono ?_; rintro e w5 ⟨rfl, hH5, hk5, hz5⟩)))
      all_goals
        have hb5 := hH5.2.2
        first
        | (obtain ⟨w6, hw6⟩ : ∃ w6, w6 = w5.alloc (Obj.cells #[Value.int IntKind.i64 x, Value.int IntKind.i64 y] 25) := ⟨_, rfl⟩
           rw [← hw6]
           obtain ⟨N, hN⟩ : ∃ N, N = w5.heap.size := ⟨_, rfl⟩
           rw [← hN]
           have F : Aft w6 w wr N X i x y := by
             have hbw := HB.out.trans (hb5.mono HB.out.size)
             rw [hw6, hN]
             exact ⟨(HM.out.below hb5).below ((Below.refl _ _).alloc (Nat.le_refl _) _), hbw.alloc hbw.size _, by simp [go_sem], by simp [go_sem]⟩
           have HF := Lib.hid F
           clear F hw6 hN)
        | (obtain ⟨w6, hw6⟩ : ∃ w6, w6 = (w5.setCell ⟨wr.heap.size, 0, none⟩ (Value.int IntKind.i64 x)).setCell ⟨wr.heap.size, 1, none⟩ (Value.int IntKind.i64 y) := ⟨_, rfl⟩
           rw [← hw6]
           obtain ⟨N, hN⟩ : ∃ N, N = wr.heap.size := ⟨_, rfl⟩
           rw [← hN]
           have F : Aft w6 w wr N X i x y := by
             have hc : w5.cell? ⟨wr.heap.size, 0, none⟩ = some (.int .i64 0) := by rw [hk5 _ _ (by simp)]; simp [go_sem]
             have hc1 : w5.cell? ⟨wr.heap.size, 1, none⟩ = some (.int .i64 0) := by rw [hk5 _ _ (by simp)]; simp [go_sem]
             have hbs : Below wr.heap.size wr ((w5.setCell ⟨wr.heap.size, 0, none⟩ (Value.int IntKind.i64 x)).setCell ⟨wr.heap.size, 1, none⟩ (Value.int IntKind.i64 y)) := (hb5.setCell (Nat.le_refl _) _).setCell (Nat.le_refl _) _
             rw [hw6, hN]
             exact ⟨HM.out.below hbs, HB.out.trans (hbs.mono HB.out.size), by rw [cell_set (cell_set hc)]; simp, by rw [cell_set (cell_set hc1)]; simp⟩
           have HF := Lib.hid F
           clear F hw6 hN)
        clear hH5 hk5 hz5 hb5 x0 x1 HC hxl
        have hM := HF.out.made
        have hz' : z = 0 ∨ z = 30 := by rw [← HP.out.2.2.2.2]; exact er_cases _
        rcases hz' with rfl | rfl
        · have HE1 : Hid (∀ j, j < i + 1 → Rt.er (Rt.mk (X (j * 2)) (X (j * 2 + 1))) = 0) := Lib.hid fun j hj => by
            rcases (show j < i ∨ j = i by omega) with h | rfl
            · exact HA.out j h
            · rw [HP.out.1, HP.out.2.1]; exact HP.out.2.2.2.2
          have HM1 : Hid (MadeAt ((w6.setCell ⟨w.heap.size + 1 + 1, i * 2, none⟩ (.int .i64 x)).setCell ⟨w.heap.size + 1 + 1, i * 2 + 1, none⟩ (.int .i64 y)) w.heap.size X (madeL X (i + 1))) := Lib.hid (hM.set hlt (by rw [HP.out.1, HP.out.2.1]; exact HP.out.2.2.1) (by rw [HP.out.1, HP.out.2.1]; exact HP.out.2.2.2.1))
          have HB1 : Hid (Below w.heap.size w ((w6.setCell ⟨w.heap.size + 1 + 1, i * 2, none⟩ (.int .i64 x)).setCell ⟨w.heap.size + 1 + 1, i * 2 + 1, none⟩ (.int .i64 y))) := Lib.hid ((HF.out.below.setCell (by first | (simp; done) | (simp; omega)) _).setCell (by first | (simp; done) | (simp; omega)) _)
          have t0 := HF.out.t0
          have t1 := HF.out.t1
          have l0 := hM.l (i * 2) (by omega)
          have l1 := hM.l (i * 2 + 1) (by omega)
          have f0 := hM.lz (i * 2) (by omega)
          have f1 := hM.lz (i * 2 + 1) (by omega)
          clear hM
          go_wp2_with fail
          go_roundw
          case rel => exact ⟨i + 1, by omega, by go_num, HE1, HM1, HB1⟩
          case measure => simp [intOf]; omega
        · have hBF := Lib.hid HF.out.below
          obtain ⟨c0, hc0⟩ : ∃ c, madeL X i 0 = c := ⟨_, rfl⟩
          have l0 := hM.l 0 (by decide)
          have r0 := hM.r 0 (by decide)
          have z0 := hM.rz 0 (by decide)
          rw [hc0] at l0
          clear hc0
          obtain ⟨c1, hc1⟩ : ∃ c, madeL X i 1 = c := ⟨_, rfl⟩
          have l1 := hM.l 1 (by decide)
          have r1 := hM.r 1 (by decide)
          have z1 := hM.rz 1 (by decide)
          rw [hc1] at l1
          clear hc1
          obtain ⟨c2, hc2⟩ : ∃ c, madeL X i 2 = c := ⟨_, rfl⟩
          have l2 := hM.l 2 (by decide)
          have r2 := hM.r 2 (by decide)
          have z2 := hM.rz 2 (by decide)
          rw [hc2] at l2
          clear hc2
          obtain ⟨c3, hc3⟩ : ∃ c, madeL X i 3 = c := ⟨_, rfl⟩
          have l3 := hM.l 3 (by decide)
          have r3 := hM.r 3 (by decide)
          have z3 := hM.rz 3 (by decide)
          rw [hc3] at l3
          clear hc3
          obtain ⟨c4, hc4⟩ : ∃ c, madeL X i 4 = c := ⟨_, rfl⟩
          have l4 := hM.l 4 (by decide)
          have r4 := hM.r 4 (by decide)
          have z4 := hM.rz 4 (by decide)
          rw [hc4] at l4
          clear hc4
          obtain ⟨c5, hc5⟩ : ∃ c, madeL X i 5 = c := ⟨_, rfl⟩
          have l5 := hM.l 5 (by decide)
          have r5 := hM.r 5 (by decide)
          have z5 := hM.rz 5 (by decide)
          rw [hc5] at l5
          clear hc5
          clear hM
          go_wp2_with fail
          refine bodyPost_ret (v := .tuple #[.agg #[.int .i64 c0, .int .i64 c1, .int .i64 c2, .int .i64 c3, .int .i64 c4, .int .i64 c5], .bool false]) (by simp [results, Tryz.results32, go_sem, r0, r1, r2, r3, r4, r5]) rfl ⟨⟨false, _, _, _, _, _, _, rfl, fun h => by cases h⟩, ?_⟩
          exact (((((hBF.out.setCell (by first | (simp; done) | (simp; omega)) _).setCell (by first | (simp; done) | (simp; omega)) _).setCell (by first | (simp; done) | (simp; omega)) _).setCell (by first | (simp; done) | (simp; omega)) _).setCell (by first | (simp; done) | (simp; omega)) _).setCell (by first | (simp; done) | (simp; omega)) _
    · obtain rfl : i = 3 := by omega
      have hBF := Lib.hid HB.out
      have hM := HM.out
      have HOK : Hid (∃ p q r, Is p (madeL X 3 0) (madeL X 3 1) ∧ Is q (madeL X 3 2) (madeL X 3 3) ∧ Is r (madeL X 3 4) (madeL X 3 5)) := Lib.hid (by
        have key : ∀ j, j < 3 → ∃ p, Is p (madeL X 3 (j * 2)) (madeL X 3 (j * 2 + 1)) := fun j hj => by
          have h := HA.out j hj
          have e1 : madeL X 3 (j * 2) = Rt.nm (Rt.mk (X (j * 2)) (X (j * 2 + 1))) := by unfold madeL; rw [if_pos (by omega), if_pos (by omega)]
          have e2 : madeL X 3 (j * 2 + 1) = Rt.dn (Rt.mk (X (j * 2)) (X (j * 2 + 1))) := by unfold madeL; rw [if_pos (by omega), if_neg (by omega), show j * 2 + 1 - 1 = j * 2 by omega]
          rw [e1, e2]
          cases hq : Rt.mk (X (j * 2)) (X (j * 2 + 1)) with
          | none => rw [hq] at h; cases h
          | some q => exact ⟨q, Is.made hq⟩
        obtain ⟨p, hp⟩ := key 0 (by decide)
        obtain ⟨q, hq⟩ := key 1 (by decide)
        obtain ⟨r, hr⟩ := key 2 (by decide)
        exact ⟨p, q, r, hp, hq, hr⟩)
      obtain ⟨c0, hc0⟩ : ∃ c, madeL X 3 0 = c := ⟨_, rfl⟩
      have l0 := hM.l 0 (by decide)
      have r0 := hM.r 0 (by decide)
      have z0 := hM.rz 0 (by decide)
      rw [hc0] at l0 HOK
      clear hc0
      obtain ⟨c1, hc1⟩ : ∃ c, madeL X 3 1 = c := ⟨_, rfl⟩
      have l1 := hM.l 1 (by decide)
      have r1 := hM.r 1 (by decide)
      have z1 := hM.rz 1 (by decide)
      rw [hc1] at l1 HOK
      clear hc1
      obtain ⟨c2, hc2⟩ : ∃ c, madeL X 3 2 = c := ⟨_, rfl⟩
      have l2 := hM.l 2 (by decide)
      have r2 := hM.r 2 (by decide)
      have z2 := hM.rz 2 (by decide)
      rw [hc2] at l2 HOK
      clear hc2
      obtain ⟨c3, hc3⟩ : ∃ c, madeL X 3 3 = c := ⟨_, rfl⟩
      have l3 := hM.l 3 (by decide)
      have r3 := hM.r 3 (by decide)
      have z3 := hM.rz 3 (by decide)
      rw [hc3] at l3 HOK
      clear hc3
      obtain ⟨c4, hc4⟩ : ∃ c, madeL X 3 4 = c := ⟨_, rfl⟩
      have l4 := hM.l 4 (by decide)
      have r4 := hM.r 4 (by decide)
      have z4 := hM.rz 4 (by decide)
      rw [hc4] at l4 HOK
      clear hc4
      obtain ⟨c5, hc5⟩ : ∃ c, madeL X 3 5 = c := ⟨_, rfl⟩
      have l5 := hM.l 5 (by decide)
      have r5 := hM.r 5 (by decide)
      have z5 := hM.rz 5 (by decide)
      rw [hc5] at l5 HOK
      clear hc5
      clear hM HM
      go_wp2_with fail
      refine bodyPost_ret (v := .tuple #[.agg #[.int .i64 c0, .int .i64 c1, .int .i64 c2, .int .i64 c3, .int .i64 c4, .int .i64 c5], .bool true]) (by simp [results, Tryz.results32, go_sem, r0, r1, r2, r3, r4, r5]) rfl ⟨⟨true, _, _, _, _, _, _, rfl, fun _ => HOK.out⟩, ?_⟩
      exact (((((hBF.out.setCell (by first | (simp; done) | (simp; omega)) _).setCell (by first | (simp; done) | (simp; omega)) _).setCell (by first | (simp; done) | (simp; omega)) _).setCell (by first | (simp; done) | (simp; omega)) _).setCell (by first | (simp; done) | (simp; omega)) _).setCell (by first | (simp; done) | (simp; omega)) _
end Go.Proofs.YtphphamfejgdaaaGreatDoor
