/- VerifyExtension returns whether its proof is right. Conditions: the proof is readable and its strings have at most 1000 bytes. -/
import Derived.Test.YtlnlhjkdbpkaiaaDoorDigO
namespace Go.Proofs.YtlnlhjkdbpkaiaaDoor
open Go.RowKit

theorem values_raw (old : ByteArray) (ho : old.size ≤ 1000) (r : List ByteArray) : (∀ x ∈ r, x.size ≤ 1000) → ∀ (m n : Nat) (whole : Bool) (b off cap : Nat) (w : World), 1 ≤ m → m ≤ n → n ≤ 9223372036854775807 → r.length ≤ cap → cap ≤ 9223372036854775807 → StrsAt w b off r.reverse → b < w.heap.size → Tabs w →
    Calls Tryd.prog 47 #[.string old, .int .i64 m, .int .i64 n, .slice (some ⟨b, off, none⟩) r.length cap, .bool whole] w fun e w' => e = .returned (.tuple #[.string (Dt.valsR shaB old r m n whole).1, .string (Dt.valsR shaB old r m n whole).2.1, .bool (Dt.valsR shaB old r m n whole).2.2]) ∧ Below w.heap.size w w' := by
  induction r with
  | nil => intro _ m n whole b off cap w _ _ _ _ _ _ _ _; exact values_nil old m n _ cap whole w
  | cons x r ih =>
    intro hr m n whole b off cap w h1 h2 h3 h4 h5 h6 h7 hT
    exact values_cons old x ho r hr (ih fun y hy => hr y (by simp [hy])) m n whole b off cap r.length w h1 h2 h3 rfl h4 h5 h6 h7 hT
theorem values_any (old : ByteArray) (ho : old.size ≤ 1000) (p : List ByteArray) (v : Value) (m n : Nat) (w : World) (h1 : 1 ≤ m) (h2 : m ≤ n) (h3 : n ≤ 9223372036854775807) (hP : ListAt w v p) (hT : Tabs w) :
    Calls Tryd.prog 47 #[.string old, .int .i64 m, .int .i64 n, v, .bool true] w fun e w' => e = .returned (.tuple #[.string (Dt.valsR shaB old p.reverse m n true).1, .string (Dt.valsR shaB old p.reverse m n true).2.1, .bool (Dt.valsR shaB old p.reverse m n true).2.2]) ∧ Below w.heap.size w w' := by
  obtain ⟨hsh, ⟨a, c, rfl, rfl⟩ | ⟨b, off, cap, rfl, k1, k2, k3, k4, k5⟩⟩ := hP
  · exact values_nil old m n a c true w
  · have := values_raw old ho p.reverse (fun x hx => hsh x (by simpa using hx)) m n true b off cap w h1 h2 h3 (by simpa using k2) k3 (by simpa using k4) k5 hT
    rw [List.length_reverse] at this
    exact this

/-- What VerifyExtension answers. -/
def verExtB (old : ByteArray) (m : Int) (root : ByteArray) (n : Int) (p : List ByteArray) : Bool :=
  decide (0 ≤ m) && decide (m ≤ n) && digsB [old, root] && digsB p &&
  (if m = 0 then p.isEmpty && decide (old = shaB ByteArray.empty) else if m = n then p.isEmpty && decide (old = root) else
    (Dt.valsR shaB old p.reverse m.toNat n.toNat true).2.2 && decide ((Dt.valsR shaB old p.reverse m.toNat n.toNat true).1 = old) && decide ((Dt.valsR shaB old p.reverse m.toNat n.toNat true).2.1 = root))

set_option maxRecDepth 100000 in
set_option maxHeartbeats 8000000 in
theorem VerifyExtension_any (old root : ByteArray) (m n : Int) (p : List ByteArray) (v : Value) (w : World) (hn : n ≤ 9223372036854775807) (hP : ListAt w v p) (hT : Tabs w) :
    Calls Tryd.prog 30 #[.string old, .int .i64 m, .string root, .int .i64 n, v] w fun e w' => e = .returned (.bool (verExtB old m root n p)) ∧ Below w.heap.size w w' := by
  have HT := Lib.hid hT
  have HP := Lib.hid hP
  by_cases h1 : m < 0
  · have HV : Hid (verExtB old m root n p = false) := Lib.hid (by simp [verExtB, show ¬ 0 ≤ m by omega])
    clear hT hP
    go_enter Tryd.func30, Tryd.ntmps30
    go_wp2_with fail
    go_ret
    exact ⟨by rw [HV.out]; rfl, Below.refl _ _⟩
  by_cases h2 : n < m
  · have HV : Hid (verExtB old m root n p = false) := Lib.hid (by simp [verExtB, show ¬ m ≤ n by omega])
    have h1' : 0 ≤ m := by omega
    clear hT hP
    go_enter Tryd.func30, Tryd.ntmps30
    go_wp2_with fail
    go_ret
    exact ⟨by rw [HV.out]; rfl, Below.refl _ _⟩
  obtain ⟨k, rfl⟩ := Int.eq_ofNat_of_zero_le (by omega : 0 ≤ m)
  obtain ⟨j, rfl⟩ := Int.eq_ofNat_of_zero_le (by omega : 0 ≤ n)
  have hkj : (k : Int) ≤ (j : Int) := by omega
  have hb1 : ∀ cs T, Below w.heap.size w (w.alloc (.cells cs T)) := fun cs T => (Below.refl _ w).alloc (Nat.le_refl _) _
  have HB1 := Lib.hid hb1
  clear hb1
  by_cases h3 : digsB [old, root] = true
  · have HD0 := Lib.hid h3
    have hd := fun W (h : Below w.heap.size w W) => digests_any v p W (hP.below h)
    by_cases h4 : digsB p = true
    · rw [h4] at hd
      have HD := Lib.hid hd
      have hold : old.size = 32 := by simp [digsB] at h3; exact h3.1
      by_cases h0 : k = 0
      · subst h0
        have hV : verExtB old ((0 : Nat) : Int) root j p = (p.isEmpty && decide (old = shaB ByteArray.empty)) := by
          unfold verExtB; rw [h3, h4]; simp
        by_cases hpe : p = []
        · subst hpe
          have HV := Lib.hid hV
          have hvs : ∃ a c, v = .slice a 0 c := by
            obtain ⟨_, ⟨a, c, rfl, _⟩ | ⟨b, off, cap, rfl, h, _⟩⟩ := hP
            · exact ⟨_, _, rfl⟩
            · simp at h
          obtain ⟨a, c, rfl⟩ := hvs
          clear hT hP hd h3 h4 hV
          go_enter Tryd.func30, Tryd.ntmps30
          go_wp2_with fail
          refine (digests_some [old, root] w.heap.size 0 2 _ (by simp) (fun j hj => ?_)).mono ?_
          · obtain rfl | rfl : j = 0 ∨ j = 1 := by have : j < 2 := hj; omega
            all_goals go_simp
          rintro e w' ⟨rfl, rfl⟩
          rw [HD0.out]
          go_wp2_with fail
          refine (HD.out _ (HB1.out _ _)).mono ?_
          rintro e w' ⟨rfl, rfl⟩
          go_wp2_with fail
          refine (root_nil_any none 0 _ (HT.out.below (HB1.out _ _))).mono ?_
          rintro e w2 ⟨rfl, hB2⟩
          go_wp2_with fail
          go_ret
          exact ⟨by rw [HV.out, show shaB ByteArray.empty = rootB [] from rfl, ← str_beq]; rfl, (HB1.out _ _).trans (hB2.mono (by simp))⟩
        · have HV : Hid (verExtB old ((0 : Nat) : Int) root j p = false) := Lib.hid (by rw [hV]; cases p with
            | nil => exact absurd rfl hpe
            | cons x p => rfl)
          have hvs : ∃ a c, v = .slice a p.length c := by
            obtain ⟨_, ⟨a, c, rfl, rfl⟩ | ⟨b, off, cap, rfl, h, _⟩⟩ := hP
            · exact absurd rfl hpe
            · exact ⟨_, _, rfl⟩
          obtain ⟨a, c, rfl⟩ := hvs
          have q0 : ((p.length : Int) == 0) = false := by
            cases p with
            | nil => exact absurd rfl hpe
            | cons x p => simp; omega
          clear hT hP hd h3 h4 hV hpe
          go_enter Tryd.func30, Tryd.ntmps30
          go_wp2_with fail
          refine (digests_some [old, root] w.heap.size 0 2 _ (by simp) (fun j hj => ?_)).mono ?_
          · obtain rfl | rfl : j = 0 ∨ j = 1 := by have : j < 2 := hj; omega
            all_goals go_simp
          rintro e w' ⟨rfl, rfl⟩
          rw [HD0.out]
          go_wp2_with fail
          refine (HD.out _ (HB1.out _ _)).mono ?_
          rintro e w' ⟨rfl, rfl⟩
          go_wp2_with fail
          go_ret
          exact ⟨by rw [HV.out]; rfl, HB1.out _ _⟩
      · have k0 : ((k : Int) == 0) = false := by simp; omega
        by_cases hall : k = j
        · subst hall
          have hV : verExtB old k root k p = (p.isEmpty && decide (old = root)) := by
            unfold verExtB; rw [h3, h4]; simp [h0]
          have hvs : ∃ a c, v = .slice a p.length c := by
            obtain ⟨_, ⟨a, c, rfl, rfl⟩ | ⟨b, off, cap, rfl, h, _⟩⟩ := hP
            · exact ⟨_, _, rfl⟩
            · exact ⟨_, _, rfl⟩
          obtain ⟨a, c, rfl⟩ := hvs
          cases p with
          | nil =>
            have HV := Lib.hid hV
            clear hT hP hd h3 h4 hV h0
            go_enter Tryd.func30, Tryd.ntmps30
            go_wp2_with fail
            refine (digests_some [old, root] w.heap.size 0 2 _ (by simp) (fun j hj => ?_)).mono ?_
            · obtain rfl | rfl : j = 0 ∨ j = 1 := by have : j < 2 := hj; omega
              all_goals go_simp
            rintro e w' ⟨rfl, rfl⟩
            rw [HD0.out]
            go_wp2_with fail
            refine (HD.out _ (HB1.out _ _)).mono ?_
            rintro e w' ⟨rfl, rfl⟩
            go_wp2_with fail
            go_ret
            exact ⟨by rw [HV.out, ← str_beq]; rfl, HB1.out _ _⟩
          | cons x p =>
            have HV := Lib.hid hV
            obtain ⟨lp, hlp⟩ : ∃ lp, lp = (x :: p).length := ⟨_, rfl⟩
            have q0 : ((lp : Int) == 0) = false := by simp [hlp]; omega
            rw [← hlp] at HD ⊢
            clear hT hP hd h3 h4 hV h0 hlp
            go_enter Tryd.func30, Tryd.ntmps30
            go_wp2_with fail
            refine (digests_some [old, root] w.heap.size 0 2 _ (by simp) (fun j hj => ?_)).mono ?_
            · obtain rfl | rfl : j = 0 ∨ j = 1 := by have : j < 2 := hj; omega
              all_goals go_simp
            rintro e w' ⟨rfl, rfl⟩
            rw [HD0.out]
            go_wp2_with fail
            refine (HD.out _ (HB1.out _ _)).mono ?_
            rintro e w' ⟨rfl, rfl⟩
            go_wp2_with fail
            go_ret
            exact ⟨by rw [HV.out]; rfl, HB1.out _ _⟩
        · have k1 : ((k : Int) == (j : Int)) = false := by simp; omega
          have hv := fun W (h : Below w.heap.size w W) => values_any old (by omega) p v k j W (by omega) (by omega) (by omega) (hP.below h) (hT.below h)
          obtain ⟨v1, hv1⟩ : ∃ u, u = (Dt.valsR shaB old p.reverse k j true).1 := ⟨_, rfl⟩
          obtain ⟨v2, hv2⟩ : ∃ u, u = (Dt.valsR shaB old p.reverse k j true).2.1 := ⟨_, rfl⟩
          obtain ⟨v3, hv3⟩ : ∃ u, u = (Dt.valsR shaB old p.reverse k j true).2.2 := ⟨_, rfl⟩
          have HV : Hid (verExtB old k root j p = (v3 && decide (v1 = old) && decide (v2 = root))) := Lib.hid (by
            unfold verExtB; rw [h3, h4, if_neg (by omega), if_neg (by omega), Int.toNat_natCast, Int.toNat_natCast, ← hv1, ← hv2, ← hv3]; simp; omega)
          rw [← hv1, ← hv2, ← hv3] at hv
          have HVAL := Lib.hid hv
          clear hT hP hd h3 h4 h0 hall hv hv1 hv2 hv3
          cases v3 with
          | false =>
            go_enter Tryd.func30, Tryd.ntmps30
            go_wp2_with fail
            refine (digests_some [old, root] w.heap.size 0 2 _ (by simp) (fun j hj => ?_)).mono ?_
            · obtain rfl | rfl : j = 0 ∨ j = 1 := by have : j < 2 := hj; omega
              all_goals go_simp
            rintro e w' ⟨rfl, rfl⟩
            rw [HD0.out]
            go_wp2_with fail
            refine (HD.out _ (HB1.out _ _)).mono ?_
            rintro e w' ⟨rfl, rfl⟩
            go_wp2_with fail
            refine (HVAL.out _ (HB1.out _ _)).mono ?_
            rintro e w2 ⟨rfl, hB2⟩
            go_wp2_with fail
            go_ret
            exact ⟨by rw [HV.out]; rfl, (HB1.out _ _).trans (hB2.mono (by simp))⟩
          | true =>
            by_cases he : v1 = old
            · have t1 : (v1.toList == old.toList) = true := by rw [str_beq]; simpa using he
              have HE := Lib.hid he
              clear he
              go_enter Tryd.func30, Tryd.ntmps30
              go_wp2_with fail
              refine (digests_some [old, root] w.heap.size 0 2 _ (by simp) (fun j hj => ?_)).mono ?_
              · obtain rfl | rfl : j = 0 ∨ j = 1 := by have : j < 2 := hj; omega
                all_goals go_simp
              rintro e w' ⟨rfl, rfl⟩
              rw [HD0.out]
              go_wp2_with fail
              refine (HD.out _ (HB1.out _ _)).mono ?_
              rintro e w' ⟨rfl, rfl⟩
              go_wp2_with fail
              refine (HVAL.out _ (HB1.out _ _)).mono ?_
              rintro e w2 ⟨rfl, hB2⟩
              go_wp2_with fail
              go_ret
              exact ⟨by rw [HV.out, HE.out, ← str_beq v2 root]; simp, (HB1.out _ _).trans (hB2.mono (by simp))⟩
            · have t1 : (v1.toList == old.toList) = false := by rw [str_beq]; simpa using he
              have HE : Hid (decide (v1 = old) = false) := Lib.hid (by simpa using he)
              clear he
              go_enter Tryd.func30, Tryd.ntmps30
              go_wp2_with fail
              refine (digests_some [old, root] w.heap.size 0 2 _ (by simp) (fun j hj => ?_)).mono ?_
              · obtain rfl | rfl : j = 0 ∨ j = 1 := by have : j < 2 := hj; omega
                all_goals go_simp
              rintro e w' ⟨rfl, rfl⟩
              rw [HD0.out]
              go_wp2_with fail
              refine (HD.out _ (HB1.out _ _)).mono ?_
              rintro e w' ⟨rfl, rfl⟩
              go_wp2_with fail
              refine (HVAL.out _ (HB1.out _ _)).mono ?_
              rintro e w2 ⟨rfl, hB2⟩
              go_wp2_with fail
              go_ret
              exact ⟨by rw [HV.out, HE.out]; rfl, (HB1.out _ _).trans (hB2.mono (by simp))⟩
    · rw [Bool.not_eq_true] at h4
      have HV : Hid (verExtB old k root j p = false) := Lib.hid (by unfold verExtB; rw [h4]; simp)
      rw [h4] at hd
      have HD := Lib.hid hd
      clear hT hP hd h3 h4
      go_enter Tryd.func30, Tryd.ntmps30
      go_wp2_with fail
      refine (digests_some [old, root] w.heap.size 0 2 _ (by simp) (fun j hj => ?_)).mono ?_
      · obtain rfl | rfl : j = 0 ∨ j = 1 := by have : j < 2 := hj; omega
        all_goals go_simp
      rintro e w' ⟨rfl, rfl⟩
      rw [HD0.out]
      go_wp2_with fail
      refine (HD.out _ (HB1.out _ _)).mono ?_
      rintro e w' ⟨rfl, rfl⟩
      go_wp2_with fail
      go_ret
      exact ⟨by rw [HV.out]; rfl, HB1.out _ _⟩
  · rw [Bool.not_eq_true] at h3
    have HV : Hid (verExtB old k root j p = false) := Lib.hid (by unfold verExtB; rw [h3]; simp)
    have HD0 := Lib.hid h3
    clear hT hP h3
    go_enter Tryd.func30, Tryd.ntmps30
    go_wp2_with fail
    refine (digests_some [old, root] w.heap.size 0 2 _ (by simp) (fun j hj => ?_)).mono ?_
    · obtain rfl | rfl : j = 0 ∨ j = 1 := by have : j < 2 := hj; omega
      all_goals go_simp
    rintro e w' ⟨rfl, rfl⟩
    rw [HD0.out]
    go_wp2_with fail
    go_ret
    exact ⟨by rw [HV.out]; rfl, HB1.out _ _⟩
end Go.Proofs.YtlnlhjkdbpkaiaaDoor
