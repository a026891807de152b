/- The law DigestTreeMatchesReference returns true and leaves what lay before the call as it was. Conditions: the arguments are readable; the tables digest.initial and digest.constants hold their numbers. -/
import Derived.Test.YtlnlhjkdbpkaiaaDoorDigRf
import Derived.Test.YtlnlhjkdbpkaiaaDoorDigSame
namespace Go.Proofs.YtlnlhjkdbpkaiaaDoor
open Go.RowKit

/-- What Proof and Extension return, whatever their numbers are. -/
def prL (l : List ByteArray) (i : Int) : List ByteArray := if 0 ≤ i ∧ i < l.length then sibsB l i.toNat else []
def prE (l : List ByteArray) (i : Int) : Int := if 0 ≤ i ∧ i < l.length then 0 else 2
def exL (l : List ByteArray) (m : Int) : List ByteArray := if 0 ≤ m ∧ m ≤ l.length then extL l m.toNat else []
def exE (l : List ByteArray) (m : Int) : Int := if 0 ≤ m ∧ m ≤ l.length then 0 else 2
theorem nil_at (W : World) : ListAt W (.slice none 0 0) [] := ⟨(fun x hx => by cases hx), .inl ⟨_, _, rfl, rfl⟩⟩
theorem proof_all (v : Value) (l : List ByteArray) (i : Int) (w : World) (hL : ListAt w v l) (hmax : l.length ≤ 500) (hT : Tabs w) :
    Calls Tryd.prog 21 #[v, .int .i64 i] w fun e w' => ∃ u, e = .returned (.tuple #[u, .int .i64 (prE l i)]) ∧ ListAt w' u (prL l i) ∧ Below w.heap.size w w' := by
  unfold prL prE
  by_cases h : 0 ≤ i ∧ i < l.length
  · rw [if_pos h, if_pos h]
    obtain ⟨j, rfl⟩ := Int.eq_ofNat_of_zero_le h.1
    rw [Int.toNat_natCast]
    exact (Proof_yes v l j w hL (by omega) (by omega) hT).mono fun e w' ⟨u, h1, h2, h3⟩ => ⟨u, h1, h2.list (sibs_short l _), h3⟩
  · rw [if_neg h, if_neg h]
    exact (Proof_no v l i w hL h).mono fun e w' ⟨h1, h2⟩ => ⟨_, h1, nil_at w', by subst h2; exact Below.refl _ _⟩
theorem rProof_all (v : Value) (l : List ByteArray) (i : Int) (w : World) (hL : ListAt w v l) (hmax : l.length ≤ 500) :
    Calls Tryd.prog 22 #[v, .int .i64 i] w fun e w' => ∃ u, e = .returned (.tuple #[u, .int .i64 (prE l i)]) ∧ ListAt w' u (prL l i) ∧ Below w.heap.size w w' := by
  unfold prL prE
  by_cases h : 0 ≤ i ∧ i < l.length
  · rw [if_pos h, if_pos h]
    obtain ⟨j, rfl⟩ := Int.eq_ofNat_of_zero_le h.1
    rw [Int.toNat_natCast]
    exact (rProof_yes v l j w hL (by omega) (by omega)).mono fun e w' ⟨u, h1, h2, h3⟩ => ⟨u, h1, h2.list (sibs_short l _), h3⟩
  · rw [if_neg h, if_neg h]
    exact (rProof_no v l i w hL h).mono fun e w' ⟨h1, h2⟩ => ⟨_, h1, nil_at w', by subst h2; exact Below.refl _ _⟩
theorem ext_all' (v : Value) (l : List ByteArray) (i : Int) (w : World) (hL : ListAt w v l) (hmax : l.length ≤ 500) (hT : Tabs w) :
    Calls Tryd.prog 23 #[v, .int .i64 i] w fun e w' => ∃ u, e = .returned (.tuple #[u, .int .i64 (exE l i)]) ∧ ListAt w' u (exL l i) ∧ Below w.heap.size w w' := by
  unfold exL exE
  by_cases h : 0 ≤ i ∧ i ≤ l.length
  · rw [if_pos h, if_pos h]
    obtain ⟨j, rfl⟩ := Int.eq_ofNat_of_zero_le h.1
    rw [Int.toNat_natCast]
    exact (Extension_yes v l j w hL (by omega) (by omega) hT).mono fun e w' ⟨u, h1, h2, h3⟩ => ⟨u, h1, h2.list (extL_short l _ (by omega)), h3⟩
  · rw [if_neg h, if_neg h]
    exact (Extension_no v l i w hL h).mono fun e w' ⟨h1, h2⟩ => ⟨_, h1, nil_at w', by subst h2; exact Below.refl _ _⟩
theorem rExt_all (v : Value) (l : List ByteArray) (i : Int) (w : World) (hL : ListAt w v l) (hmax : l.length ≤ 500) :
    Calls Tryd.prog 24 #[v, .int .i64 i] w fun e w' => ∃ u, e = .returned (.tuple #[u, .int .i64 (exE l i)]) ∧ ListAt w' u (exL l i) ∧ Below w.heap.size w w' := by
  unfold exL exE
  by_cases h : 0 ≤ i ∧ i ≤ l.length
  · rw [if_pos h, if_pos h]
    obtain ⟨j, rfl⟩ := Int.eq_ofNat_of_zero_le h.1
    rw [Int.toNat_natCast]
    exact (rExtension_yes v l j w hL (by omega) (by omega)).mono fun e w' ⟨u, h1, h2, h3⟩ => ⟨u, h1, h2.list (extL_short l _ (by omega)), h3⟩
  · rw [if_neg h, if_neg h]
    exact (rExtension_no v l i w hL h).mono fun e w' ⟨h1, h2⟩ => ⟨_, h1, nil_at w', by subst h2; exact Below.refl _ _⟩

set_option maxRecDepth 100000 in
set_option maxHeartbeats 8000000 in
theorem treeMatches_any (v : Value) (L0 : List ByteArray) (i m : Int) (w : World) (hA : ArgAt w v L0) (hT : Tabs w) (_hi1 : -9223372036854775808 ≤ i) (_hi2 : i ≤ 9223372036854775807) (_hm1 : -9223372036854775808 ≤ m) (_hm2 : m ≤ 9223372036854775807) :
    Calls Tryd.prog 4 #[v, .int .i64 i, .int .i64 m] w fun e w' => e = .returned (.bool true) ∧ Below w.heap.size w w' := by
  have HA := Lib.hid hA
  have HT := Lib.hid hT
  clear hA hT
  go_enter Tryd.func4, Tryd.ntmps4
  go_wp2_with fail
  refine (sane_any _ HT.out).mono ?_
  rintro e w1 ⟨rfl, hB1⟩
  have HB1 := Lib.hid hB1
  clear hB1
  go_wp2_with fail
  refine (few_any _ L0 40 _ (HA.out.below HB1.out) (by decide)).mono ?_
  rintro e w2 ⟨u, rfl, hu, hB2⟩
  obtain ⟨L, hL⟩ : ∃ L, L = fewL L0 40 := ⟨_, rfl⟩
  have hlen : L.length ≤ 500 := by rw [hL]; have := fewL_len L0 40; omega
  have hls := few_list hu
  rw [← hL] at hls
  have HB2 := Lib.hid (HB1.out.trans (hB2.mono HB1.out.size))
  have HL : Hid (∀ W, Below w2.heap.size w2 W → ListAt W u L) := Lib.hid (fun W hW => hls.below hW)
  have HTT : Hid (∀ W, Below w2.heap.size w2 W → Tabs W) := Lib.hid (fun W hW => (HT.out.below HB2.out).below hW)
  have HLEN := Lib.hid hlen
  clear hu hB2 hL hls hlen
  go_wp2_with fail
  refine (proof_all _ L i _ (HL.out _ (Below.refl _ _)) HLEN.out (HTT.out _ (Below.refl _ _))).mono ?_
  rintro e w3 ⟨p, rfl, hp, hB3⟩
  have HP3 := Lib.hid hp
  have HB3 := Lib.hid hB3
  clear hp hB3
  go_wp2_with fail
  refine (rProof_all _ L i _ (HL.out _ HB3.out) HLEN.out).mono ?_
  rintro e w4 ⟨q, rfl, hq, hB4⟩
  have HP4 := Lib.hid (HP3.out.below hB4)
  have HQ4 := Lib.hid hq
  have HB4 := Lib.hid (HB3.out.trans (hB4.mono HB3.out.size))
  clear hq hB4
  go_wp2_with fail
  refine (ext_all' _ L m _ (HL.out _ HB4.out) HLEN.out (HTT.out _ HB4.out)).mono ?_
  rintro e w5 ⟨x, rfl, hx, hB5⟩
  have HP5 := Lib.hid (HP4.out.below hB5)
  have HQ5 := Lib.hid (HQ4.out.below hB5)
  have HX5 := Lib.hid hx
  have HB5 := Lib.hid (HB4.out.trans (hB5.mono HB4.out.size))
  clear hx hB5
  go_wp2_with fail
  refine (rExt_all _ L m _ (HL.out _ HB5.out) HLEN.out).mono ?_
  rintro e w6 ⟨y, rfl, hy, hB6⟩
  have HP6 := Lib.hid (HP5.out.below hB6)
  have HQ6 := Lib.hid (HQ5.out.below hB6)
  have HX6 := Lib.hid (HX5.out.below hB6)
  have HY6 := Lib.hid hy
  have HB6 := Lib.hid (HB5.out.trans (hB6.mono HB5.out.size))
  clear hy hB6
  go_wp2_with fail
  refine (same_any _ _ _ _ _ HP6.out HQ6.out).mono ?_
  rintro e w7 ⟨rfl, hB7⟩
  rw [show decide (prL L i = prL L i) = true by simp]
  have HX7 := Lib.hid (HX6.out.below hB7)
  have HY7 := Lib.hid (HY6.out.below hB7)
  have HB7 := Lib.hid (HB6.out.trans (hB7.mono HB6.out.size))
  clear hB7
  go_wp2_with fail
  refine (same_any _ _ _ _ _ HX7.out HY7.out).mono ?_
  rintro e w8 ⟨rfl, hB8⟩
  rw [show decide (exL L m = exL L m) = true by simp]
  have HB8 := Lib.hid (HB7.out.trans (hB8.mono HB7.out.size))
  clear hB8
  obtain ⟨c1, hc1⟩ : ∃ c, c = prE L i := ⟨_, rfl⟩
  obtain ⟨c2, hc2⟩ : ∃ c, c = exE L m := ⟨_, rfl⟩
  rw [← hc1, ← hc2]
  clear hc1 hc2
  go_wp2_with fail
  refine (Root_any _ L _ (HL.out _ HB8.out) (HTT.out _ HB8.out)).mono ?_
  rintro e w9 ⟨rfl, hB9⟩
  have HB9 := Lib.hid (HB8.out.trans (hB9.mono HB8.out.size))
  clear hB9
  go_wp2_with fail
  refine (rRoot_any _ L _ (HL.out _ HB9.out)).mono ?_
  rintro e w10 ⟨rfl, hB10⟩
  have HB10 := Lib.hid (HB9.out.trans (hB10.mono HB9.out.size))
  clear hB10
  go_wp2_with fail
  go_ret
  exact ⟨rfl, HB2.out.trans (HB10.out.mono HB2.out.size)⟩
end Go.Proofs.YtlnlhjkdbpkaiaaDoor
