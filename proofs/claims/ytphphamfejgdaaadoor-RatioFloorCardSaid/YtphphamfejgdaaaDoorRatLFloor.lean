/- The law RatioFloor: it returns true. Conditions: ints; what the functions of texts read of memory; what is shown of sane. (Written by gen_floor.py.) -/
import Derived.Test.YtphphamfejgdaaaDoorRatT
namespace Go.Proofs.YtphphamfejgdaaaDoor
open Go.RowKit

set_option maxRecDepth 20000 in
set_option maxHeartbeats 1000000 in
theorem floor_law (hS : SaneSays) (n d : Int) (er : Addr) (w : World) (n1 : -9223372036854775808 ≤ n) (n2 : n ≤ 9223372036854775807) (d1 : -9223372036854775808 ≤ d) (d2 : d ≤ 9223372036854775807) (hT : Txt w er) :
    Calls Tryd.prog 6 #[.int .i64 n, .int .i64 d] w fun e w' => e = .returned (.bool true) ∧ Below w.heap.size w w' := by
  have HT := Lib.hid hT
  have HS := Lib.hid hS
  have HM := Lib.hid (And.intro (And.intro n1 n2) (And.intro d1 d2))
  have HB0 : Hid (Below w.heap.size w w) := Lib.hid (Below.refl _ _)
  obtain ⟨x, y, z, hp⟩ : ∃ x y z, Parts (Rt.mk n d) x y z := ⟨_, _, _, Parts.of _⟩
  have HP := Lib.hid hp
  clear hT hS n1 n2 d1 d2 hp
  go_enter Tryd.func6, Tryd.ntmps6
  go_wp2_with fail
  refine (HS.out er _ (HT.out.below HB0.out)).mono ?_
  rintro e w1 ⟨rfl, hB⟩
  have HB1 : Hid (Below w.heap.size w w1) := Lib.hid (HB0.out.trans (hB.mono HB0.out.size))
  clear hB
  go_wp2_with fail
  refine (make_any n d x y z er _ HM.out.1.1 HM.out.1.2 HM.out.2.1 HM.out.2.2 (HT.out.below HB1.out).err HP.out.nm HP.out.dn HP.out.er).mono ?_
  rintro e w2 ⟨rfl, hB⟩
  have HB2 : Hid (Below w.heap.size w w2) := Lib.hid (HB1.out.trans (hB.mono HB1.out.size))
  clear hB HB1
  rcases HP.out.cases with ⟨rfl, p, hp, hx, hy⟩ | ⟨rfl, rfl, rfl, -⟩
  · have HI : Hid (Is p x y) := Lib.hid ⟨(Rt.mk_some hp).2.2, hx, hy⟩
    clear hp hx hy HP
    go_wp2_with fail
    obtain ⟨w2', hwA⟩ : ∃ w2', w2' = w2.alloc (Obj.cells #[Value.int IntKind.i64 x, Value.int IntKind.i64 y] 26) := ⟨_, rfl⟩
    rw [← hwA]
    have HB2' : Hid (Below w.heap.size w w2') := Lib.hid (by rw [hwA]; exact HB2.out.alloc HB2.out.size _)
    have bA : Hid (BoxAt w2' w2.heap.size x y) := Lib.hid (by rw [hwA]; exact ⟨by simp [go_sem], by simp [go_sem]⟩)
    clear hwA HB2
    obtain ⟨k, hk⟩ : ∃ k, x / y = k := ⟨_, rfl⟩
    have hkb : -1000000000 ≤ k ∧ k ≤ 1000000000 := by have := Rt.floor_bounds HI.out.fits; rw [HI.out.num, HI.out.den, hk] at this; exact this
    have HKD := Lib.hid hk
    clear hk
    refine (floorF p x y k er _ HI.out (HT.out.below HB2'.out).err HKD.out).mono ?_
    rintro e w3 ⟨rfl, hB⟩
    have HB3 : Hid (Below w.heap.size w w3) := Lib.hid (HB2'.out.trans (hB.mono HB2'.out.size))
    have bA' := Lib.hid (bA.out.below hB)
    clear hB bA HB2'
    have bA := bA'
    clear bA'
    go_wp2_with fail
    obtain ⟨k1, k2⟩ := hkb
    refine (make_any k 1 k 1 0 er _ (by omega) (by omega) (by decide) (by decide) (HT.out.below HB3.out).err (by rw [Rt.mk_int k1 k2]; rfl) (by rw [Rt.mk_int k1 k2]; rfl) (by rw [Rt.mk_int k1 k2]; rfl)).mono ?_
    rintro e w4 ⟨rfl, hB⟩
    have HB4 : Hid (Below w.heap.size w w4) := Lib.hid (HB3.out.trans (hB.mono HB3.out.size))
    have bA' := Lib.hid (bA.out.below hB)
    clear hB bA HB3
    have bA := bA'
    clear bA'
    by_cases hkm : k = 1000000000
    · obtain ⟨rfl, rfl⟩ : x = 1000000000 ∧ y = 1 := by
        have h0 := Rt.floor_top HI.out.fits (by rw [HI.out.num, HI.out.den, HKD.out, hkm])
        have h1 := HI.out.num
        have h2 := HI.out.den
        omega
      subst hkm
      go_wp2_with fail
      obtain ⟨w4', hwB⟩ : ∃ w4', w4' = w4.alloc (Obj.cells #[Value.int IntKind.i64 1000000000, Value.int IntKind.i64 1] 26) := ⟨_, rfl⟩
      rw [← hwB]
      have HB4' : Hid (Below w.heap.size w w4') := Lib.hid (by rw [hwB]; exact HB4.out.alloc HB4.out.size _)
      have bA' : Hid (BoxAt w4' w2.heap.size 1000000000 1) := Lib.hid (by rw [hwB]; exact bA.out.alloc _)
      clear bA
      have bA := bA'
      clear bA'
      have bB : Hid (BoxAt w4' w4.heap.size 1000000000 1) := Lib.hid (by rw [hwB]; exact ⟨by simp [go_sem], by simp [go_sem]⟩)
      clear hwB HB4
      have qA0 := bA.out.c0
      have qA1 := bA.out.c1
      have qAl := World.block_lt_of_cell? (h := qA0)
      have HK : ∀ w' : World, Below w4'.heap.size w4' w' → w'.cell? ⟨w2.heap.size, 0, none⟩ = some (.int .i64 1000000000) ∧ w'.cell? ⟨w2.heap.size, 1, none⟩ = some (.int .i64 1) ∧ Below w4'.heap.size w4' w' := fun w' h' =>
        ⟨(bA.out.below h').c0, (bA.out.below h').c1, h'⟩
      have HKK := Lib.hid HK
      clear HK
      have HTW := Lib.hid (HT.out.below HB4'.out)
      have KIS : Hid (∀ a b V, Below w4'.heap.size w4' V → Calls Tryd.prog 18 #[.int .i64 a, .int .i64 b] V fun e w' => e = .returned (frac a b) ∧ (w'.cell? ⟨w2.heap.size, 0, none⟩ = some (.int .i64 1000000000) ∧ w'.cell? ⟨w2.heap.size, 1, none⟩ = some (.int .i64 1) ∧ Below w4'.heap.size w4' w')) := Lib.hid (fun a b V h1 => (is_any a b V).mono fun e w' ⟨he, h2⟩ => ⟨he, HKK.out _ (h1.trans (h2.mono h1.size))⟩)
      go_region_held3 (fun w' => w'.cell? ⟨w2.heap.size, 0, none⟩ = some (.int .i64 1000000000) ∧ w'.cell? ⟨w2.heap.size, 1, none⟩ = some (.int .i64 1) ∧ Below w4'.heap.size w4' w') (first | exact ⟨qA0, qA1, Below.refl _ _⟩ | exact ⟨qA0, qA1, (Below.refl _ _).drew⟩ | assumption) ((first | (go_at_call 18; refine (KIS.out _ _ _ (by first | exact Below.refl _ _ | exact (Below.refl _ _).drew | assumption | exact (show _ ∧ _ ∧ _ from by assumption).2.2)).mono ?_; rintro e w5 ⟨rfl, hH5⟩)))
      all_goals
        go_wp2_with fail
        go_ret
        exact ⟨rfl, HB4'.out.trans ((hH5.2.2).mono HB4'.out.size)⟩
    · obtain ⟨m, hm⟩ : ∃ m, k + 1 = m := ⟨_, rfl⟩
      have hkl : ¬ 1000000000 ≤ k := by omega
      have hkh : ¬ k < -1000000000 := by omega
      have m1 : -1000000000 ≤ m := by omega
      have m2 : m ≤ 1000000000 := by omega
      have HIK : Hid (Is (k : Rat) k 1) := Lib.hid (Is.int k1 k2)
      have HIM : Hid (Is (m : Rat) m 1) := Lib.hid (Is.int m1 m2)
      obtain ⟨r, hr⟩ : ∃ r, Rt.cmpR (k : Rat) p = r := ⟨_, rfl⟩
      have hr0 : r ≤ 0 := by
        have h := @Rt.floor_le p
        rw [HI.out.num, HI.out.den, HKD.out] at h
        rw [← hr]; exact h
      have HR := Lib.hid hr
      have HR2 : Hid (Rt.cmpR p (m : Rat) = -1) := Lib.hid (by
        have h := @Rt.lt_floor p
        rw [HI.out.num, HI.out.den, HKD.out, hm] at h
        exact h)
      clear hkm hr
      go_wp2_with fail
      obtain ⟨w4', hwB⟩ : ∃ w4', w4' = w4.alloc (Obj.cells #[Value.int IntKind.i64 k, Value.int IntKind.i64 1] 26) := ⟨_, rfl⟩
      rw [← hwB]
      have HB4' : Hid (Below w.heap.size w w4') := Lib.hid (by rw [hwB]; exact HB4.out.alloc HB4.out.size _)
      have bA' : Hid (BoxAt w4' w2.heap.size x y) := Lib.hid (by rw [hwB]; exact bA.out.alloc _)
      clear bA
      have bA := bA'
      clear bA'
      have bB : Hid (BoxAt w4' w4.heap.size k 1) := Lib.hid (by rw [hwB]; exact ⟨by simp [go_sem], by simp [go_sem]⟩)
      clear hwB HB4
      refine (make_any m 1 m 1 0 er _ (by omega) (by omega) (by decide) (by decide) (HT.out.below HB4'.out).err (by rw [Rt.mk_int m1 m2]; rfl) (by rw [Rt.mk_int m1 m2]; rfl) (by rw [Rt.mk_int m1 m2]; rfl)).mono ?_
      rintro e w5 ⟨rfl, hB⟩
      have HB5 : Hid (Below w.heap.size w w5) := Lib.hid (HB4'.out.trans (hB.mono HB4'.out.size))
      have bA' := Lib.hid (bA.out.below hB)
      have bB' := Lib.hid (bB.out.below hB)
      clear hB bA bB HB4'
      have bA := bA'
      clear bA'
      have bB := bB'
      clear bB'
      have qA0 := bA.out.c0
      have qA1 := bA.out.c1
      have qAl := World.block_lt_of_cell? (h := qA0)
      have qB0 := bB.out.c0
      have qB1 := bB.out.c1
      have qBl := World.block_lt_of_cell? (h := qB0)
      go_wp2_with fail
      obtain ⟨w5', hwC⟩ : ∃ w5', w5' = w5.alloc (Obj.cells #[Value.int IntKind.i64 m, Value.int IntKind.i64 1] 26) := ⟨_, rfl⟩
      rw [← hwC]
      have HB5' : Hid (Below w.heap.size w w5') := Lib.hid (by rw [hwC]; exact HB5.out.alloc HB5.out.size _)
      have bA' : Hid (BoxAt w5' w2.heap.size x y) := Lib.hid (by rw [hwC]; exact bA.out.alloc _)
      clear bA
      have bA := bA'
      clear bA'
      have bB' : Hid (BoxAt w5' w4.heap.size k 1) := Lib.hid (by rw [hwC]; exact bB.out.alloc _)
      clear bB
      have bB := bB'
      clear bB'
      have bC : Hid (BoxAt w5' w5.heap.size m 1) := Lib.hid (by rw [hwC]; exact ⟨by simp [go_sem], by simp [go_sem]⟩)
      clear hwC HB5
      refine (cmpF (k : Rat) p k 1 x y r er _ HIK.out HI.out (HT.out.below HB5'.out).err HR.out).mono ?_
      rintro e w6 ⟨rfl, hB⟩
      have HB6 : Hid (Below w.heap.size w w6) := Lib.hid (HB5'.out.trans (hB.mono HB5'.out.size))
      have bA' := Lib.hid (bA.out.below hB)
      have bB' := Lib.hid (bB.out.below hB)
      have bC' := Lib.hid (bC.out.below hB)
      clear hB bA bB bC qA0 qA1 qAl qB0 qB1 qBl HB5'
      have bA := bA'
      clear bA'
      have bB := bB'
      clear bB'
      have bC := bC'
      clear bC'
      have qA0 := bA.out.c0
      have qA1 := bA.out.c1
      have qAl := World.block_lt_of_cell? (h := qA0)
      have qC0 := bC.out.c0
      have qC1 := bC.out.c1
      have qCl := World.block_lt_of_cell? (h := qC0)
      go_wp2_with fail
      refine (cmpF p (m : Rat) x y m 1 (-1) er _ HI.out HIM.out (HT.out.below HB6.out).err HR2.out).mono ?_
      rintro e w7 ⟨rfl, hB⟩
      have HB7 : Hid (Below w.heap.size w w7) := Lib.hid (HB6.out.trans (hB.mono HB6.out.size))
      have bA' := Lib.hid (bA.out.below hB)
      have bB' := Lib.hid (bB.out.below hB)
      have bC' := Lib.hid (bC.out.below hB)
      clear hB bA bB bC qA0 qA1 qAl qC0 qC1 qCl HB6
      have bA := bA'
      clear bA'
      have bB := bB'
      clear bB'
      have bC := bC'
      clear bC'
      go_wp2_with fail
      go_ret
      exact ⟨rfl, HB7.out⟩
  · clear HP
    go_wp2_with fail
    obtain ⟨w2', hwA⟩ : ∃ w2', w2' = w2.alloc (Obj.cells #[Value.int IntKind.i64 0, Value.int IntKind.i64 0] 26) := ⟨_, rfl⟩
    rw [← hwA]
    have HB2' : Hid (Below w.heap.size w w2') := Lib.hid (by rw [hwA]; exact HB2.out.alloc HB2.out.size _)
    have bA : Hid (BoxAt w2' w2.heap.size 0 0) := Lib.hid (by rw [hwA]; exact ⟨by simp [go_sem], by simp [go_sem]⟩)
    clear hwA HB2
    refine (valid_any 0 0 false er _ (by decide) (by decide) (by decide) (by decide) (HT.out.below HB2'.out).err (by decide +kernel)).mono ?_
    rintro e w8 ⟨rfl, hB⟩
    have HB8 : Hid (Below w.heap.size w w8) := Lib.hid (HB2'.out.trans (hB.mono HB2'.out.size))
    have bA' := Lib.hid (bA.out.below hB)
    clear hB bA HB2'
    have bA := bA'
    clear bA'
    have qA0 := bA.out.c0
    have qA1 := bA.out.c1
    have qAl := World.block_lt_of_cell? (h := qA0)
    go_wp2_with fail
    refine (Floor_any 0 0 0 er _ (by decide) (by decide) (by decide) (by decide) (HT.out.below HB8.out).err (by decide +kernel)).mono ?_
    rintro e w9 ⟨rfl, hB⟩
    have HB9 : Hid (Below w.heap.size w w9) := Lib.hid (HB8.out.trans (hB.mono HB8.out.size))
    have bA' := Lib.hid (bA.out.below hB)
    clear hB bA qA0 qA1 qAl HB8
    have bA := bA'
    clear bA'
    go_wp2_with fail
    go_ret
    exact ⟨rfl, HB9.out⟩
end Go.Proofs.YtphphamfejgdaaaDoor
