/- collide returns true where two different strings at one index have the same digest. Conditions: both lists are readable, each string of at most 1000 bytes; such an index exists. -/
import Derived.Test.YtlnlhjkdbpkaiaaDoorDigApp
namespace Go.Proofs.YtlnlhjkdbpkaiaaDoor
open Go.RowKit

set_option maxRecDepth 100000 in
set_option maxHeartbeats 4000000 in
theorem collide_some (la lb : List ByteArray) (b off cap b2 off2 cap2 : Nat) (w : World) (hsa : Short la) (hsb : Short lb) (hma : la.length ≤ 9223372036854775807) (hSa : StrsAt w b off la) (hSb : StrsAt w b2 off2 lb) (hb : b < w.heap.size) (hb2 : b2 < w.heap.size) (hT : Tabs w) (hC : Dt.Coll shaB la lb) :
    Calls Tryd.prog 32 #[.slice (some ⟨b, off, none⟩) la.length cap, .slice (some ⟨b2, off2, none⟩) lb.length cap2] w fun e w' => e = .returned (.bool true) ∧ Below w.heap.size w w' := by
  obtain ⟨j, hj1, hj2, hj3, hj4⟩ := hC
  obtain ⟨m, hm⟩ : ∃ m, m = la.length := ⟨_, rfl⟩
  obtain ⟨m2, hm2⟩ : ∃ m, m = lb.length := ⟨_, rfl⟩
  have HSA : Hid (∀ W, Below w.heap.size w W → ∀ k, k < m → W.cell? ⟨b, off + k, none⟩ = some (.string (la.getD k ByteArray.empty))) := Lib.hid (fun W hW k hk => (hSa.below hW hb) k (by omega))
  have HSB : Hid (∀ W, Below w.heap.size w W → ∀ k, k < m2 → W.cell? ⟨b2, off2 + k, none⟩ = some (.string (lb.getD k ByteArray.empty))) := Lib.hid (fun W hW k hk => (hSb.below hW hb2) k (by omega))
  have HSZ : Hid (∀ k, (la.getD k ByteArray.empty).size ≤ 1000 ∧ (lb.getD k ByteArray.empty).size ≤ 1000) := Lib.hid (fun k => ⟨hsa.get k, hsb.get k⟩)
  have HT := Lib.hid hT
  have HJ3 := Lib.hid hj3
  have HJ4 := Lib.hid hj4
  rw [← hm] at hj1 hma ⊢
  rw [← hm2] at hj2 ⊢
  clear hSa hSb hT hj3 hj4 hsa hsb hm hm2
  go_enter Tryd.func32, Tryd.ntmps32
  go_wp2
  go_loopw [5] (fun c wr => ∃ k : Nat, k ≤ j ∧ c = .int .i64 k ∧ Below w.heap.size w wr) (fun c _ => j - (intOf c).toNat)
  case atStart => exact ⟨0, by omega, rfl, Below.refl _ _⟩
  case round =>
    obtain ⟨k, hk, rfl, hB⟩ := hrel
    have hc1 := HSA.out _ hB k (by omega)
    have hc2 := HSB.out _ hB k (by omega)
    have hz := HSZ.out k
    obtain ⟨x, hx⟩ : ∃ x, x = la.getD k ByteArray.empty := ⟨_, rfl⟩
    obtain ⟨y, hy⟩ : ∃ y, y = lb.getD k ByteArray.empty := ⟨_, rfl⟩
    rw [← hx] at hc1 hz
    rw [← hy] at hc2 hz
    have HB := Lib.hid hB
    have i0 : 0 ≤ (k : Int) := by omega
    have i1 : (k : Int) < (m : Int) := by omega
    have i2 : (k : Int) < (m2 : Int) := by omega
    by_cases hxy : x = y
    · have hkj : k ≠ j := by
        rintro rfl
        exact HJ3.out (by rw [← hx, ← hy, hxy])
      have t1 : (x.toList == y.toList) = true := by rw [str_beq]; simpa using hxy
      have HS0 : Hid (∀ W, Below w.heap.size w W → W.cell? ⟨b, off + k, none⟩ = some (.string x) ∧ W.cell? ⟨b2, off2 + k, none⟩ = some (.string y) ∧ Below w.heap.size w W) := Lib.hid (fun W hW => ⟨by rw [hx]; exact HSA.out _ hW k (by omega), by rw [hy]; exact HSB.out _ hW k (by omega), hW⟩)
      clear hB hx hy hxy hz
      go_wp2
      go_quiet (fail)
      all_goals
        go_wp2
        go_roundw
        case rel => exact ⟨k + 1, by omega, by go_num, HB.out.trans ⟨rfl, rfl, rfl, Nat.le_refl _, fun _ _ => rfl⟩⟩
        case measure => simp [intOf]; omega
    · have t1 : (x.toList == y.toList) = false := by rw [str_beq]; simpa using hxy
      have HS0 : Hid (∀ W, Below w.heap.size w W → W.cell? ⟨b, off + k, none⟩ = some (.string x) ∧ W.cell? ⟨b2, off2 + k, none⟩ = some (.string y) ∧ Below w.heap.size w W) := Lib.hid (fun W hW => ⟨by rw [hx]; exact HSA.out _ hW k (by omega), by rw [hy]; exact HSB.out _ hW k (by omega), hW⟩)
      have HSUM : Hid (∀ W, Below w.heap.size w W → ∀ v V, (v = x ∧ V = shaB x) ∨ (v = y ∧ V = shaB y) → Calls Tryd.prog 12 #[.string v] W fun e w' => e = .returned (.string V) ∧ (w'.cell? ⟨b, off + k, none⟩ = some (.string x) ∧ w'.cell? ⟨b2, off2 + k, none⟩ = some (.string y) ∧ Below w.heap.size w w')) := Lib.hid (by
        intro W hW v V hv
        have hvs : v.size ≤ 549755813888 ∧ V = shaB v := by rcases hv with ⟨rfl, rfl⟩ | ⟨rfl, rfl⟩ <;> exact ⟨by omega, rfl⟩
        obtain ⟨h1, rfl⟩ := hvs
        exact (Sum_any v W (HT.out.below hW) h1).mono fun e w' h => ⟨h.1, HS0.out _ (hW.trans (h.2.mono hW.size))⟩)
      have HKJ : Hid (shaB x = shaB y ∨ k ≠ j) := Lib.hid (by
        by_cases hkj : k = j
        · subst hkj; exact .inl (by rw [hx, hy]; exact HJ4.out)
        · exact .inr hkj)
      obtain ⟨dx, hdx⟩ : ∃ d, d = shaB x := ⟨_, rfl⟩
      obtain ⟨dy, hdy⟩ : ∃ d, d = shaB y := ⟨_, rfl⟩
      rw [← hdx, ← hdy] at HSUM HKJ
      clear hB hx hy hxy hz hdx hdy
      by_cases hd : dx = dy
      · have t2 : (dx.toList == dy.toList) = true := by rw [str_beq]; simpa using hd
        clear HKJ
        go_wp2
        go_region_held3 (fun w' => w'.cell? ⟨b, off + k, none⟩ = some (.string x) ∧ w'.cell? ⟨b2, off2 + k, none⟩ = some (.string y) ∧ Below w.heap.size w w') (first | exact HS0.out _ (by first | exact HB.out | exact HB.out.drew | assumption) | (refine ⟨?_, ?_, ?_⟩ <;> assumption)) ((go_at_call 12; refine (HSUM.out _ (by first | exact HB.out | exact HB.out.drew | assumption) _ _ (by first | exact .inl ⟨rfl, rfl⟩ | exact .inr ⟨rfl, rfl⟩)).mono ?_; rintro e w5 ⟨rfl, hq1, hq2, hb5⟩))
        all_goals
          go_wp2
          go_ret
          exact ⟨rfl, by assumption⟩
      · have hkj : k ≠ j := by rcases HKJ.out with h | h; exact absurd h hd; exact h
        have t2 : (dx.toList == dy.toList) = false := by rw [str_beq]; simpa using hd
        clear HKJ hd
        go_wp2
        go_region_held3 (fun w' => w'.cell? ⟨b, off + k, none⟩ = some (.string x) ∧ w'.cell? ⟨b2, off2 + k, none⟩ = some (.string y) ∧ Below w.heap.size w w') (first | exact HS0.out _ (by first | exact HB.out | exact HB.out.drew | assumption) | (refine ⟨?_, ?_, ?_⟩ <;> assumption)) ((go_at_call 12; refine (HSUM.out _ (by first | exact HB.out | exact HB.out.drew | assumption) _ _ (by first | exact .inl ⟨rfl, rfl⟩ | exact .inr ⟨rfl, rfl⟩)).mono ?_; rintro e w5 ⟨rfl, hq1, hq2, hb5⟩))
        all_goals
          go_wp2
          go_roundw
          case rel => exact ⟨k + 1, by omega, by go_num, by assumption⟩
          case measure => simp [intOf]; omega
theorem collide_any (va vb : Value) (la lb : List ByteArray) (w : World) (hA : ListAt w va la) (hB : ListAt w vb lb) (hT : Tabs w) (hC : Dt.Coll shaB la lb) :
    Calls Tryd.prog 32 #[va, vb] w fun e w' => e = .returned (.bool true) ∧ Below w.heap.size w w' := by
  obtain ⟨hsa, ha⟩ := hA
  obtain ⟨hsb, hb⟩ := hB
  have hC' := hC
  obtain ⟨i, h1, h2, _⟩ := hC'
  rcases ha with ⟨a, c, rfl, rfl⟩ | ⟨b, off, cap, rfl, k1, k2, k3, k4, k5⟩
  · simp at h1
  rcases hb with ⟨a, c, rfl, rfl⟩ | ⟨b2, off2, cap2, rfl, j1, j2, j3, j4, j5⟩
  · simp at h2
  exact collide_some la lb b off cap b2 off2 cap2 w hsa hsb (by omega) k4 j4 k5 j5 hT hC
end Go.Proofs.YtlnlhjkdbpkaiaaDoor
