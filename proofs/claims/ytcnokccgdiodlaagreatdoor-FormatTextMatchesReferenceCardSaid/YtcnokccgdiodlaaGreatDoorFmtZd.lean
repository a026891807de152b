/- Same. Conditions: the lists are readable. -/
import Derived.Test.YtcnokccgdiodlaaGreatDoorFmtZc
import Derived.Laws.StructEq
namespace Go.Proofs.YtcnokccgdiodlaaGreatDoor
open Go.RowKit Go.Shelf Fx Go.Sort

deriving instance DecidableEq for Fx.Fld
deriving instance DecidableEq for Fx.Fm
theorem fieldsFld : Tryz.prog.fieldsOf 56 = #[{ name := "Kind", type := 3, offset := 0, embedded := false, tag := "", pkgPath := "", byteOffset := 0 }, { name := "N", type := 3, offset := 1, embedded := false, tag := "", pkgPath := "", byteOffset := 8 },
    { name := "From", type := 3, offset := 2, embedded := false, tag := "", pkgPath := "", byteOffset := 16 }, { name := "Text", type := 9, offset := 3, embedded := false, tag := "", pkgPath := "", byteOffset := 24 }] := by
  rw [Program.fieldsOf, Tryz.underlying56]
theorem toList_inj {a b : ByteArray} : a.toList = b.toList ↔ a = b := by
  rw [ByteArray.toList_eq, ByteArray.toList_eq]
  constructor
  · intro h
    obtain ⟨⟨x⟩⟩ := a
    obtain ⟨⟨y⟩⟩ := b
    simpa using h
  · intro h; rw [h]
theorem eqFld_run (f g : Fld) (v : Bool) (hv : (!decide (f = g)) = v) (W : World) : (binOp .neq 56 (fldV f) (fldV g)).run Tryz.prog W = .ok (.bool v) W := by
  have h1 : Tryz.prog.stoodInHeld 56 = false := by kernel_rfl
  have h2 : Tryz.prog.underlying 56 = some (.struct (Tryz.prog.fieldsOf 56)) := by kernel_rfl
  subst hv
  obtain ⟨a1, a2, a3, a4⟩ := f
  obtain ⟨b1, b2, b3, b4⟩ := g
  have t9 := Tryz.underlying9
  have t3 := Tryz.underlying3
  have i3 : (Tryz.prog.info? 3).map (·.size) = some 1 := by kernel_rfl
  have i9 : (Tryz.prog.info? 9).map (·.size) = some 1 := by kernel_rfl
  rw [run_neq_struct, run_equalIn_agg W 9999 _ _ _ h2 h1, fieldsFld]
  simp [Op.eqFields, go_sem, t9, t3]
  simp only [toList_inj]
  by_cases e1 : a1 = b1
  · by_cases e2 : a2 = b2
    · by_cases e3 : a3 = b3
      · by_cases e4 : a4 = b4 <;> simp [e1, e2, e3, e4]
      · simp [e1, e2, e3]
    · simp [e1, e2]
  · simp [e1]
theorem eqGuard_fld (xs ys : Array Value) (x y : Operand) (W : World) : (eqGuard .neq 56 x y (.agg xs) (.agg ys)).run Tryz.prog W = .ok () W := run_eqGuard_agg W .neq _ x y xs ys (by kernel_rfl)
set_option maxHeartbeats 1000000 in
theorem equalF_any (v1 v2 : Value) (fs gs : List Fld) (q : Bool) (w : World) (h1 : FldsAt w v1 fs) (h2 : FldsAt w v2 gs) (hq : decide (fs = gs) = q) :
    Calls Tryz.prog 39 #[v1, v2] w fun e w' => e = .returned (.bool q) ∧ Below w.heap.size w w' := by
  obtain ⟨a1, c1, rfl, k1⟩ := h1.slice_
  obtain ⟨a2, c2, rfl, k2⟩ := h2.slice_
  obtain ⟨n, hn⟩ : ∃ n, n = fs.length := ⟨_, rfl⟩
  obtain ⟨m, hm⟩ : ∃ m, m = gs.length := ⟨_, rfl⟩
  rw [← hn] at h1 k1 ⊢
  rw [← hm] at h2 k2 ⊢
  have H := Lib.hid (And.intro (And.intro h1 h2) (And.intro (And.intro hn hm) hq))
  unfold maxLen at k1 k2
  clear h1 h2 hn hm hq
  by_cases hnm : n = m
  · have d1 : ((n : Int) == (m : Int)) = true := by rw [beq_iff_eq]; omega
    subst hnm
    go_enter Tryz.func39, Tryz.ntmps39
    go_wp2_with fail
    go_loopw [13] (fun i wr => ∃ k : Nat, k ≤ n ∧ i = .int .i64 k ∧ Hid (Below w.heap.size w wr ∧ fs.take k = gs.take k)) (fun i _ => n - (intOf i).toNat)
    case atStart => exact ⟨0, Nat.zero_le _, rfl, Lib.hid ⟨Below.refl _ _, rfl⟩⟩
    case round =>
      obtain ⟨k, hk, rfl, HI⟩ := hrel
      by_cases hlt : k < n
      · have l1 : k < fs.length := by have := H.out.2.1.1; omega
        have l2 : k < gs.length := by have := H.out.2.1.2; omega
        obtain ⟨b1, o1, rfl, -, lb1, m1, m2, f1⟩ := H.out.1.1.at_ (by omega)
        obtain ⟨b2, o2, rfl, -, lb2, m3, m4, f2⟩ := H.out.1.2.at_ (by omega)
        obtain ⟨f, hf⟩ : ∃ f, f = fs.getD k zf := ⟨_, rfl⟩
        obtain ⟨g, hg⟩ : ∃ g, g = gs.getD k zf := ⟨_, rfl⟩
        have x1 := (f1 k l1).of_block (w' := wr) (HI.out.1.block _ lb1)
        have x2 := (f2 k l2).of_block (w' := wr) (HI.out.1.block _ lb2)
        rw [← hf] at x1
        rw [← hg] at x2
        obtain ⟨x10, x11, x12, x13⟩ := x1
        obtain ⟨x20, x21, x22, x23⟩ := x2
        have z1 := World.block_lt_of_cell? (h := x10)
        have z2 := World.block_lt_of_cell? (h := x20)
        obtain ⟨v, hv⟩ : ∃ v, (!decide (f = g)) = v := ⟨_, rfl⟩
        have hrun := eqFld_run f g v hv
        have hgu := eqGuard_fld
        have HFG := Lib.hid (And.intro hf (And.intro hg hv))
        unfold maxLen at m2 m4
        clear f1 f2 hf hg hv
        go_wp2_with fail
        go_region
        cases v with
        | true =>
          have HP : Hid (q = false) := Lib.hid (by
            rw [← H.out.2.2]
            refine decide_eq_false fun e => ?_
            have h := HFG.out.2.2
            rw [HFG.out.1, HFG.out.2.1, e] at h
            simp at h)
          have HB := Lib.hid HI.out.1
          clear HI HFG hrun hgu
          go_wp2_with fail
          go_ret
          exact ⟨by rw [HP.out]; rfl, HB.out.drew⟩
        | false =>
          have HN : Hid (Below w.heap.size w wr.drew ∧ fs.take (k + 1) = gs.take (k + 1)) := Lib.hid ⟨HI.out.1.drew, by
            have h := HFG.out.2.2
            simp at h
            rw [take_succ_getD _ zf k l1, take_succ_getD _ zf k l2, HI.out.2, ← HFG.out.1, ← HFG.out.2.1, h]⟩
          clear HI HFG hrun hgu
          go_wp2_with fail
          go_roundw
          case rel => exact ⟨k + 1, by omega, by go_num, HN⟩
          case measure => simp [intOf]; omega
      · obtain rfl : k = n := by omega
        have HP : Hid (q = true) := Lib.hid (by
          rw [← H.out.2.2]
          have h := HI.out.2
          rw [List.take_of_length_le (by have := H.out.2.1.1; omega), List.take_of_length_le (by have := H.out.2.1.2; omega)] at h
          exact decide_eq_true h)
        have HB := Lib.hid HI.out.1
        clear HI
        go_wp2_with fail
        go_ret
        exact ⟨by rw [HP.out]; rfl, HB.out⟩
  · have d1 : ((n : Int) == (m : Int)) = false := by rw [beq_eq_false_iff_ne]; omega
    have HP : Hid (q = false) := Lib.hid (by
      rw [← H.out.2.2]
      refine decide_eq_false fun e => hnm ?_
      rw [H.out.2.1.1, H.out.2.1.2, e])
    go_enter Tryz.func39, Tryz.ntmps39
    go_wp2_with fail
    go_ret
    exact ⟨by rw [HP.out]; rfl, Below.refl _ _⟩
end Go.Proofs.YtcnokccgdiodlaaGreatDoor
