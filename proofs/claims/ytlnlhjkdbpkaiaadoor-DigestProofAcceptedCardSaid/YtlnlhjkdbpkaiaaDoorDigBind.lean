/- The law DigestBinding returns true and leaves what lay before the call as it was. Conditions: the arguments are readable; the tables digest.initial and digest.constants hold their numbers. -/
import Derived.Test.YtlnlhjkdbpkaiaaDoorDigWay
import Derived.Test.YtlnlhjkdbpkaiaaDoorDigColl
namespace Go.Proofs.YtlnlhjkdbpkaiaaDoor
open Go.RowKit

theorem min_cut (x : ByteArray) (q : Nat) (hq : q = min x.size 60) : ∀ (ts : Array TypeId) (t : TypeId) (W : World), (Builtin.min_ ts t #[.int .i64 (x.size : Int), .int .i64 60]).run Tryd.prog W = .ok (.int .i64 (q : Int)) W := by
  intro ts t W
  rw [run_min2, hq]
  congr 2
  split <;> omega
theorem fewL_sz (l : List ByteArray) (n : Nat) (B : Nat) (hB : 60 ≤ B) : ∀ x ∈ fewL l n, x.size ≤ B := fun x hx => by
  obtain ⟨y, _, rfl⟩ := List.mem_map.1 hx
  have := cut60_le y; omega
theorem verB_parts {root : ByteArray} {n i : Int} {s : ByteArray} {p : List ByteArray} (h : verB root n i s p = true) : 0 ≤ i ∧ i < n ∧ Dt.Digs p ∧ Dt.valR shaB s p.reverse n.toNat i.toNat = (root, true) := by
  unfold verB at h
  simp only [Bool.and_eq_true, decide_eq_true_eq] at h
  obtain ⟨⟨⟨⟨h1, h2⟩, h3⟩, h4⟩, h5⟩ := h
  exact ⟨h1, h2, (digsB_iff _).1 h3, by rw [← h5, ← h4]⟩
theorem bind_coll {root : ByteArray} {n i : Int} {s t : ByteArray} {p q : List ByteArray} (h1 : verB root n i s p = true) (h2 : verB root n i t q = true) (h : s ≠ t) :
    Dt.Coll shaB (Dt.wayR shaB s p.reverse n.toNat i.toNat).1 (Dt.wayR shaB t q.reverse n.toNat i.toNat).1 := by
  obtain ⟨a1, a2, a3, a4⟩ := verB_parts h1
  obtain ⟨_, _, b3, b4⟩ := verB_parts h2
  exact Dt.way_binds shaB h p.reverse q.reverse _ _ root (by omega) (fun x hx => a3 x (by simpa using hx)) (fun x hx => b3 x (by simpa using hx)) a4 b4

set_option maxRecDepth 100000 in
set_option maxHeartbeats 8000000 in
theorem binding_any (root s t : ByteArray) (n i : Int) (v4 v6 : Value) (L4 L6 : List ByteArray) (w : World) (_wr : root.size ≤ maxLen) (_ws : s.size ≤ maxLen) (_wt : t.size ≤ maxLen) (hA4 : ArgAt w v4 L4) (hA6 : ArgAt w v6 L6) (hT : Tabs w)
    (hn1 : -9223372036854775808 ≤ n) (hn2 : n ≤ 9223372036854775807) (hi1 : -9223372036854775808 ≤ i) (hi2 : i ≤ 9223372036854775807) :
    Calls Tryd.prog 7 #[.string root, .int .i64 n, .int .i64 i, .string s, v4, .string t, v6] w fun e w' => e = .returned (.bool true) ∧ Below w.heap.size w w' := by
  have HA4 := Lib.hid hA4
  have HA6 := Lib.hid hA6
  have HT := Lib.hid hT
  obtain ⟨qs, hqs⟩ : ∃ q, q = min s.size 60 := ⟨_, rfl⟩
  obtain ⟨qt, hqt⟩ : ∃ q, q = min t.size 60 := ⟨_, rfl⟩
  have hmin1 := min_cut s qs hqs
  have hmin2 := min_cut t qt hqt
  have s1 : qs ≤ s.size := by omega
  have t1 : qt ≤ t.size := by omega
  have s2 : (qs : Int) ≤ (s.size : Int) := by omega
  have t2 : (qt : Int) ≤ (t.size : Int) := by omega
  have s3 : (s.extract 0 qs).size ≤ 60 := by simp; omega
  have t3 : (t.extract 0 qt).size ≤ 60 := by simp; omega
  clear hA4 hA6 hT hqs hqt
  go_enter Tryd.func7, Tryd.ntmps7
  go_wp2_with fail
  refine (sane_any _ HT.out).mono ?_
  rintro e w1 ⟨rfl, hB1⟩
  have HB1 := Lib.hid hB1
  clear hB1
  go_wp2_with fail
  refine (few_any _ L4 70 _ (HA4.out.below HB1.out) (by decide)).mono ?_
  rintro e w2 ⟨u, rfl, hu, hB2⟩
  obtain ⟨p, hp⟩ : ∃ L, L = fewL L4 70 := ⟨_, rfl⟩
  have hpl : p.length ≤ 70 := by rw [hp]; exact fewL_len L4 70
  have HPZ : Hid (∀ x ∈ p, x.size ≤ 500) := Lib.hid (by rw [hp]; exact fewL_sz L4 70 500 (by decide))
  have hls := few_list hu
  rw [← hp] at hls
  have HB2 := Lib.hid (HB1.out.trans (hB2.mono HB1.out.size))
  have HU := Lib.hid hls
  clear hu hB2 hp hls
  go_wp2_with fail
  refine (few_any _ L6 70 _ (HA6.out.below HB2.out) (by decide)).mono ?_
  rintro e w3 ⟨v, rfl, hv, hB3⟩
  obtain ⟨q, hq⟩ : ∃ L, L = fewL L6 70 := ⟨_, rfl⟩
  have hql : q.length ≤ 70 := by rw [hq]; exact fewL_len L6 70
  have HQZ : Hid (∀ x ∈ q, x.size ≤ 500) := Lib.hid (by rw [hq]; exact fewL_sz L6 70 500 (by decide))
  have hls := few_list hv
  rw [← hq] at hls
  have HU3 := Lib.hid (HU.out.below hB3)
  have HB3 := Lib.hid (HB2.out.trans (hB3.mono HB2.out.size))
  have HV3 := Lib.hid hls
  clear hv hB3 hq hls
  obtain ⟨sx, hsx⟩ : ∃ x, x = s.extract 0 qs := ⟨_, rfl⟩
  obtain ⟨tx, htx⟩ : ∃ x, x = t.extract 0 qt := ⟨_, rfl⟩
  rw [← hsx] at s3
  rw [← htx] at t3
  have HSX := Lib.hid hsx
  have HTX := Lib.hid htx
  clear hsx htx
  go_wp2_with fail
  rw [← HSX.out]
  refine (Verify_any root sx n i p _ _ (by omega) hn2 HU3.out (HT.out.below HB3.out)).mono ?_
  rintro e w4 ⟨rfl, hB4⟩
  obtain ⟨one, hone⟩ : ∃ x, x = verB root n i sx p := ⟨_, rfl⟩
  have HONE := Lib.hid hone
  have HU4 := Lib.hid (HU3.out.below hB4)
  have HV4 := Lib.hid (HV3.out.below hB4)
  have HB4 := Lib.hid (HB3.out.trans (hB4.mono HB3.out.size))
  rw [← hone]
  clear hB4 hone
  go_wp2_with fail
  rw [← HTX.out]
  refine (Verify_any root tx n i q _ _ (by omega) hn2 HV4.out (HT.out.below HB4.out)).mono ?_
  rintro e w5 ⟨rfl, hB5⟩
  obtain ⟨two, htwo⟩ : ∃ x, x = verB root n i tx q := ⟨_, rfl⟩
  have HTWO := Lib.hid htwo
  have HU5 := Lib.hid (HU4.out.below hB5)
  have HV5 := Lib.hid (HV4.out.below hB5)
  have HB5 := Lib.hid (HB4.out.trans (hB5.mono HB4.out.size))
  rw [← htwo]
  clear hB5 htwo
  cases one with
  | false =>
    go_wp2_with fail
    go_ret
    exact ⟨rfl, HB5.out⟩
  | true =>
    cases two with
    | false =>
      go_wp2_with fail
      go_ret
      exact ⟨rfl, HB5.out⟩
    | true =>
      by_cases hst : sx = tx
      · have e1 : (sx.toList == tx.toList) = true := by rw [str_beq]; simpa using hst
        clear hst
        go_wp2_with fail
        go_ret
        exact ⟨rfl, HB5.out⟩
      · have e1 : (sx.toList == tx.toList) = false := by rw [str_beq]; simpa using hst
        have HC := Lib.hid (bind_coll HONE.out.symm HTWO.out.symm hst)
        obtain ⟨h0, h1, _⟩ := verB_parts HONE.out.symm
        obtain ⟨nn, rfl⟩ := Int.eq_ofNat_of_zero_le (by omega : 0 ≤ n)
        obtain ⟨ii, rfl⟩ := Int.eq_ofNat_of_zero_le (by omega : 0 ≤ i)
        rw [Int.toNat_natCast, Int.toNat_natCast] at HC
        clear hst
        go_wp2_with fail
        refine (way_any sx p _ nn ii _ (by omega) HPZ.out (by omega) (by omega) (by omega) (by omega) HU5.out (HT.out.below HB5.out)).mono ?_
        rintro e w6 ⟨x, rfl, hx, hB6⟩
        have HX6 := Lib.hid (hx.list (wayR_short sx (by omega) p.reverse (fun y hy => HPZ.out y (by simpa using hy)) nn ii))
        have HV6 := Lib.hid (HV5.out.below hB6)
        have HB6 := Lib.hid (HB5.out.trans (hB6.mono HB5.out.size))
        clear hx hB6
        go_wp2_with fail
        refine (way_any tx q _ nn ii _ (by omega) HQZ.out (by omega) (by omega) (by omega) (by omega) HV6.out (HT.out.below HB6.out)).mono ?_
        rintro e w7 ⟨y, rfl, hy, hB7⟩
        have HY7 := Lib.hid (hy.list (wayR_short tx (by omega) q.reverse (fun z hz => HQZ.out z (by simpa using hz)) nn ii))
        have HX7 := Lib.hid (HX6.out.below hB7)
        have HB7 := Lib.hid (HB6.out.trans (hB7.mono HB6.out.size))
        clear hy hB7
        go_wp2_with fail
        refine (collide_any _ _ _ _ _ HX7.out HY7.out (HT.out.below HB7.out) HC.out).mono ?_
        rintro e w8 ⟨rfl, hB8⟩
        have HB8 := Lib.hid (HB7.out.trans (hB8.mono HB7.out.size))
        clear hB8
        go_wp2_with fail
        go_ret
        exact ⟨rfl, HB8.out⟩
end Go.Proofs.YtlnlhjkdbpkaiaaDoor
