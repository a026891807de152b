/- The law DigestExtensionBinding returns true and leaves what lay before the call as it was. Conditions: the arguments are readable; the tables digest.initial and digest.constants hold their numbers. -/
import Derived.Test.YtlnlhjkdbpkaiaaDoorDigSides
import Derived.Test.YtlnlhjkdbpkaiaaDoorDigColl
namespace Go.Proofs.YtlnlhjkdbpkaiaaDoor
open Go.RowKit

theorem fewL_sz' (l : List ByteArray) (n : Nat) (B : Nat) (hB : 60 ≤ B) : ∀ x ∈ fewL l n, x.size ≤ B := fun x hx => by
  obtain ⟨y, _, rfl⟩ := List.mem_map.1 hx
  have := cut60_le y; omega
theorem verExtB_parts {old root : ByteArray} {m n : Int} {p : List ByteArray} (h : verExtB old m root n p = true) : 0 ≤ m ∧ m ≤ n ∧ old.size = 32 ∧ Dt.Digs p ∧
    (if m = 0 then old = shaB ByteArray.empty else if m = n then old = root else Dt.valsR shaB old p.reverse m.toNat n.toNat true = (old, root, true)) := by
  unfold verExtB at h
  simp only [Bool.and_eq_true, decide_eq_true_eq] at h
  obtain ⟨⟨⟨⟨h1, h2⟩, h3⟩, h4⟩, h5⟩ := h
  refine ⟨h1, h2, (digsB_iff _).1 h3 old (by simp), (digsB_iff _).1 h4, ?_⟩
  by_cases h0 : m = 0
  · rw [if_pos h0] at h5 ⊢
    simp only [Bool.and_eq_true, decide_eq_true_eq] at h5
    exact h5.2
  · rw [if_neg h0] at h5 ⊢
    by_cases hall : m = n
    · rw [if_pos hall] at h5 ⊢
      simp only [Bool.and_eq_true, decide_eq_true_eq] at h5
      exact h5.2
    · rw [if_neg hall] at h5 ⊢
      simp only [Bool.and_eq_true, decide_eq_true_eq] at h5
      obtain ⟨⟨e1, e2⟩, e3⟩ := h5
      exact Prod.ext e2 (Prod.ext e3 e1)
theorem ext_coll {root a b : ByteArray} {m n : Int} {p q : List ByteArray} (h1 : verExtB a m root n p = true) (h2 : verExtB b m root n q = true) (h : a ≠ b) :
    1 ≤ m ∧ m ≤ n ∧ a.size = 32 ∧ b.size = 32 ∧ Dt.Coll shaB (Dt.sidesR shaB a p.reverse m.toNat n.toNat true).1 (Dt.sidesR shaB b q.reverse m.toNat n.toNat true).1 := by
  obtain ⟨a1, a2, a3, a4, a5⟩ := verExtB_parts h1
  obtain ⟨_, _, b3, b4, b5⟩ := verExtB_parts h2
  by_cases h0 : m = 0
  · rw [if_pos h0] at a5 b5; exact absurd (by rw [a5, b5]) h
  · rw [if_neg h0] at a5 b5
    by_cases hall : m = n
    · rw [if_pos hall] at a5 b5; exact absurd (by rw [a5, b5]) h
    · rw [if_neg hall] at a5 b5
      exact ⟨by omega, a2, a3, b3, Dt.sides_bind shaB a b p.reverse q.reverse _ _ true a b root (by omega) (by omega) (fun x hx => a4 x (by simpa using hx)) (fun x hx => b4 x (by simpa using hx)) a5 b5 h⟩

set_option maxRecDepth 100000 in
set_option maxHeartbeats 8000000 in
theorem extBinding_any (a b root : ByteArray) (m n : Int) (v1 v3 : Value) (L1 L3 : List ByteArray) (w : World) (_wa : a.size ≤ maxLen) (_wb : b.size ≤ maxLen) (_wr : root.size ≤ maxLen) (hA1 : ArgAt w v1 L1) (hA3 : ArgAt w v3 L3) (hT : Tabs w)
    (hm1 : -9223372036854775808 ≤ m) (hm2 : m ≤ 9223372036854775807) (hn1 : -9223372036854775808 ≤ n) (hn2 : n ≤ 9223372036854775807) :
    Calls Tryd.prog 9 #[.string a, v1, .string b, v3, .int .i64 m, .string root, .int .i64 n] w fun e w' => e = .returned (.bool true) ∧ Below w.heap.size w w' := by
  have HA1 := Lib.hid hA1
  have HA3 := Lib.hid hA3
  have HT := Lib.hid hT
  clear hA1 hA3 hT
  go_enter Tryd.func9, Tryd.ntmps9
  go_wp2_with fail
  refine (sane_any _ HT.out).mono ?_
  rintro e w1 ⟨rfl, hB1⟩
  have HB1 := Lib.hid hB1
  clear hB1
  go_wp2_with fail
  refine (few_any _ L1 70 _ (HA1.out.below HB1.out) (by decide)).mono ?_
  rintro e w2 ⟨u, rfl, hu, hB2⟩
  obtain ⟨p, hp⟩ : ∃ L, L = fewL L1 70 := ⟨_, rfl⟩
  have hpl : p.length ≤ 70 := by rw [hp]; exact fewL_len L1 70
  have HPZ : Hid (∀ x ∈ p, x.size ≤ 400) := Lib.hid (by rw [hp]; exact fewL_sz' L1 70 400 (by decide))
  have hls := few_list hu
  rw [← hp] at hls
  have HB2 := Lib.hid (HB1.out.trans (hB2.mono HB1.out.size))
  have HU := Lib.hid hls
  clear hu hB2 hp hls
  go_wp2_with fail
  refine (few_any _ L3 70 _ (HA3.out.below HB2.out) (by decide)).mono ?_
  rintro e w3 ⟨v, rfl, hv, hB3⟩
  obtain ⟨q, hq⟩ : ∃ L, L = fewL L3 70 := ⟨_, rfl⟩
  have hql : q.length ≤ 70 := by rw [hq]; exact fewL_len L3 70
  have HQZ : Hid (∀ x ∈ q, x.size ≤ 400) := Lib.hid (by rw [hq]; exact fewL_sz' L3 70 400 (by decide))
  have hls := few_list hv
  rw [← hq] at hls
  have HU3 := Lib.hid (HU.out.below hB3)
  have HB3 := Lib.hid (HB2.out.trans (hB3.mono HB2.out.size))
  have HV3 := Lib.hid hls
  clear hv hB3 hq hls
  go_wp2_with fail
  refine (VerifyExtension_any a root m n p _ _ hn2 HU3.out (HT.out.below HB3.out)).mono ?_
  rintro e w4 ⟨rfl, hB4⟩
  obtain ⟨one, hone⟩ : ∃ x, x = verExtB a m root n p := ⟨_, rfl⟩
  have HONE := Lib.hid hone
  have HU4 := Lib.hid (HU3.out.below hB4)
  have HV4 := Lib.hid (HV3.out.below hB4)
  have HB4 := Lib.hid (HB3.out.trans (hB4.mono HB3.out.size))
  rw [← hone]
  clear hB4 hone
  go_wp2_with fail
  refine (VerifyExtension_any b root m n q _ _ hn2 HV4.out (HT.out.below HB4.out)).mono ?_
  rintro e w5 ⟨rfl, hB5⟩
  obtain ⟨two, htwo⟩ : ∃ x, x = verExtB b m root n q := ⟨_, rfl⟩
  have HTWO := Lib.hid htwo
  have HU5 := Lib.hid (HU4.out.below hB5)
  have HV5 := Lib.hid (HV4.out.below hB5)
  have HB5 := Lib.hid (HB4.out.trans (hB5.mono HB4.out.size))
  rw [← htwo]
  clear hB5 htwo
  cases one with
  | false =>
    go_wp2_with fail
    go_ret
    exact ⟨rfl, HB5.out⟩
  | true =>
    cases two with
    | false =>
      go_wp2_with fail
      go_ret
      exact ⟨rfl, HB5.out⟩
    | true =>
      by_cases hst : a = b
      · have e1 : (a.toList == b.toList) = true := by rw [str_beq]; simpa using hst
        clear hst
        go_wp2_with fail
        go_ret
        exact ⟨rfl, HB5.out⟩
      · have e1 : (a.toList == b.toList) = false := by rw [str_beq]; simpa using hst
        obtain ⟨h0, h1, ha32, hb32, hC⟩ := ext_coll HONE.out.symm HTWO.out.symm hst
        obtain ⟨nn, rfl⟩ := Int.eq_ofNat_of_zero_le (by omega : 0 ≤ n)
        obtain ⟨mm, rfl⟩ := Int.eq_ofNat_of_zero_le (by omega : 0 ≤ m)
        rw [Int.toNat_natCast, Int.toNat_natCast] at hC
        have HC := Lib.hid hC
        clear hst hC
        go_wp2_with fail
        refine (sides_any a p _ mm nn _ (by omega) HPZ.out (by omega) (by omega) (by omega) (by omega) HU5.out (HT.out.below HB5.out)).mono ?_
        rintro e w6 ⟨x, rfl, hx, hB6⟩
        have HX6 := Lib.hid (hx.list (sidesR_short a (by omega) p.reverse (fun y hy => HPZ.out y (by simpa using hy)) mm nn true))
        have HV6 := Lib.hid (HV5.out.below hB6)
        have HB6 := Lib.hid (HB5.out.trans (hB6.mono HB5.out.size))
        clear hx hB6
        go_wp2_with fail
        refine (sides_any b q _ mm nn _ (by omega) HQZ.out (by omega) (by omega) (by omega) (by omega) HV6.out (HT.out.below HB6.out)).mono ?_
        rintro e w7 ⟨y, rfl, hy, hB7⟩
        have HY7 := Lib.hid (hy.list (sidesR_short b (by omega) q.reverse (fun z hz => HQZ.out z (by simpa using hz)) mm nn true))
        have HX7 := Lib.hid (HX6.out.below hB7)
        have HB7 := Lib.hid (HB6.out.trans (hB7.mono HB6.out.size))
        clear hy hB7
        go_wp2_with fail
        refine (collide_any _ _ _ _ _ HX7.out HY7.out (HT.out.below HB7.out) HC.out).mono ?_
        rintro e w8 ⟨rfl, hB8⟩
        have HB8 := Lib.hid (HB7.out.trans (hB8.mono HB7.out.size))
        clear hB8
        go_wp2_with fail
        go_ret
        exact ⟨rfl, HB8.out⟩
end Go.Proofs.YtlnlhjkdbpkaiaaDoor
