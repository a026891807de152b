/- collide returns whether two different strings at one index have the same digest. Conditions: both lists are readable, each string of at most 1000 bytes. -/
import Derived.Test.YtlnlhjkdbpkaiaaDoorDigColl
namespace Go.Proofs.YtlnlhjkdbpkaiaaDoor
open Go.RowKit

set_option maxRecDepth 100000 in
set_option maxHeartbeats 4000000 in
theorem collide_no (la lb : List ByteArray) (b off cap b2 off2 cap2 : Nat) (w : World) (hsa : Short la) (hsb : Short lb) (hma : la.length ≤ 9223372036854775807) (hSa : StrsAt w b off la) (hSb : StrsAt w b2 off2 lb) (hb : b < w.heap.size) (hb2 : b2 < w.heap.size) (hT : Tabs w) (hC : ¬ Dt.Coll shaB la lb) :
    Calls Tryd.prog 32 #[.slice (some ⟨b, off, none⟩) la.length cap, .slice (some ⟨b2, off2, none⟩) lb.length cap2] w fun e w' => e = .returned (.bool false) ∧ Below w.heap.size w w' := by
  obtain ⟨m, hm⟩ : ∃ m, m = la.length := ⟨_, rfl⟩
  obtain ⟨m2, hm2⟩ : ∃ m, m = lb.length := ⟨_, rfl⟩
  have HSA : Hid (∀ W, Below w.heap.size w W → ∀ k, k < m → W.cell? ⟨b, off + k, none⟩ = some (.string (la.getD k ByteArray.empty))) := Lib.hid (fun W hW k hk => (hSa.below hW hb) k (by omega))
  have HSB : Hid (∀ W, Below w.heap.size w W → ∀ k, k < m2 → W.cell? ⟨b2, off2 + k, none⟩ = some (.string (lb.getD k ByteArray.empty))) := Lib.hid (fun W hW k hk => (hSb.below hW hb2) k (by omega))
  have HSZ : Hid (∀ k, (la.getD k ByteArray.empty).size ≤ 1000 ∧ (lb.getD k ByteArray.empty).size ≤ 1000) := Lib.hid (fun k => ⟨hsa.get k, hsb.get k⟩)
  have HT := Lib.hid hT
  have HNC : Hid (∀ k, k < m → k < m2 → la.getD k ByteArray.empty ≠ lb.getD k ByteArray.empty → shaB (la.getD k ByteArray.empty) ≠ shaB (lb.getD k ByteArray.empty)) := Lib.hid (fun k h1 h2 h3 h4 => hC ⟨k, by omega, by omega, h3, h4⟩)
  rw [← hm] at hma ⊢
  rw [← hm2]
  clear hSa hSb hT hC hsa hsb hm hm2
  go_enter Tryd.func32, Tryd.ntmps32
  go_wp2
  go_loopw [5] (fun c wr => ∃ k : Nat, k ≤ m ∧ c = .int .i64 k ∧ Below w.heap.size w wr) (fun c _ => m - (intOf c).toNat)
  case atStart => exact ⟨0, by omega, rfl, Below.refl _ _⟩
  case round =>
    obtain ⟨k, hk, rfl, hB⟩ := hrel
    by_cases i1 : (k : Int) < (m : Int)
    · by_cases i2 : (k : Int) < (m2 : Int)
      · have hc1 := HSA.out _ hB k (by omega)
        have hc2 := HSB.out _ hB k (by omega)
        have hz := HSZ.out k
        obtain ⟨x, hx⟩ : ∃ x, x = la.getD k ByteArray.empty := ⟨_, rfl⟩
        obtain ⟨y, hy⟩ : ∃ y, y = lb.getD k ByteArray.empty := ⟨_, rfl⟩
        rw [← hx] at hc1 hz
        rw [← hy] at hc2 hz
        have HB := Lib.hid hB
        have i0 : 0 ≤ (k : Int) := by omega
        have HS0 : Hid (∀ W, Below w.heap.size w W → W.cell? ⟨b, off + k, none⟩ = some (.string x) ∧ W.cell? ⟨b2, off2 + k, none⟩ = some (.string y) ∧ Below w.heap.size w W) := Lib.hid (fun W hW => ⟨by rw [hx]; exact HSA.out _ hW k (by omega), by rw [hy]; exact HSB.out _ hW k (by omega), hW⟩)
        by_cases hxy : x = y
        · have t1 : (x.toList == y.toList) = true := by rw [str_beq]; simpa using hxy
          clear hB hx hy hxy hz
          go_wp2
          go_quiet (fail)
          go_wp2
          go_roundw
          case rel => exact ⟨k + 1, by omega, by go_num, HB.out.trans ⟨rfl, rfl, rfl, Nat.le_refl _, fun _ _ => rfl⟩⟩
          case measure => simp [intOf]; omega
        · have t1 : (x.toList == y.toList) = false := by rw [str_beq]; simpa using hxy
          have HSUM : Hid (∀ W, Below w.heap.size w W → ∀ v V, (v = x ∧ V = shaB x) ∨ (v = y ∧ V = shaB y) → Calls Tryd.prog 12 #[.string v] W fun e w' => e = .returned (.string V) ∧ (w'.cell? ⟨b, off + k, none⟩ = some (.string x) ∧ w'.cell? ⟨b2, off2 + k, none⟩ = some (.string y) ∧ Below w.heap.size w w')) := Lib.hid (by
            intro W hW v V hv
            have hvs : v.size ≤ 549755813888 ∧ V = shaB v := by rcases hv with ⟨rfl, rfl⟩ | ⟨rfl, rfl⟩ <;> exact ⟨by omega, rfl⟩
            obtain ⟨h1, rfl⟩ := hvs
            exact (Sum_any v W (HT.out.below hW) h1).mono fun e w' h => ⟨h.1, HS0.out _ (hW.trans (h.2.mono hW.size))⟩)
          have hne : shaB x ≠ shaB y := by rw [hx, hy]; exact HNC.out k (by omega) (by omega) (by rw [← hx, ← hy]; exact hxy)
          obtain ⟨dx, hdx⟩ : ∃ d, d = shaB x := ⟨_, rfl⟩
          obtain ⟨dy, hdy⟩ : ∃ d, d = shaB y := ⟨_, rfl⟩
          rw [← hdx, ← hdy] at HSUM hne
          have t2 : (dx.toList == dy.toList) = false := by rw [str_beq]; simpa using hne
          clear hB hx hy hxy hz hdx hdy hne
          go_wp2
          go_region_held3 (fun w' => w'.cell? ⟨b, off + k, none⟩ = some (.string x) ∧ w'.cell? ⟨b2, off2 + k, none⟩ = some (.string y) ∧ Below w.heap.size w w') (first | exact HS0.out _ (by first | exact HB.out | exact HB.out.drew | assumption) | (refine ⟨?_, ?_, ?_⟩ <;> assumption)) ((go_at_call 12; refine (HSUM.out _ (by first | exact HB.out | exact HB.out.drew | assumption) _ _ (by first | exact .inl ⟨rfl, rfl⟩ | exact .inr ⟨rfl, rfl⟩)).mono ?_; rintro e w5 ⟨rfl, hq1, hq2, hb5⟩))
          all_goals
            go_wp2
            go_roundw
            case rel => exact ⟨k + 1, by omega, by go_num, by assumption⟩
            case measure => simp [intOf]; omega
      · have HB := Lib.hid hB
        clear hB
        go_wp2
        go_ret
        exact ⟨rfl, HB.out⟩
    · have HB := Lib.hid hB
      clear hB
      go_wp2
      go_ret
      exact ⟨rfl, HB.out⟩
set_option maxRecDepth 100000 in
set_option maxHeartbeats 4000000 in
theorem collide_off (a a2 : Option Addr) (n n2 c c2 : Nat) (w : World) (h : n = 0 ∨ n2 = 0) :
    Calls Tryd.prog 32 #[.slice a n c, .slice a2 n2 c2] w fun e w' => e = .returned (.bool false) ∧ Below w.heap.size w w' := by
  by_cases h1 : (0 : Int) < (n : Int)
  · obtain rfl : n2 = 0 := by omega
    clear h
    go_enter Tryd.func32, Tryd.ntmps32
    go_wp2
    refine wp_loop_rounds 1 ?_
    rw [rounds_succ]
    go_wp2
    go_ret
    exact ⟨rfl, Below.refl _ _⟩
  · clear h
    go_enter Tryd.func32, Tryd.ntmps32
    go_wp2
    refine wp_loop_rounds 1 ?_
    rw [rounds_succ]
    go_wp2
    go_ret
    exact ⟨rfl, Below.refl _ _⟩
/-- Whatever the lists are. -/
theorem collide_all (va vb : Value) (la lb : List ByteArray) (w : World) (hA : ListAt w va la) (hB : ListAt w vb lb) (hT : Tabs w) :
    Calls Tryd.prog 32 #[va, vb] w fun e w' => ∃ c, e = .returned (.bool c) ∧ (Dt.Coll shaB la lb → c = true) ∧ Below w.heap.size w w' := by
  by_cases hC : Dt.Coll shaB la lb
  · exact (collide_any va vb la lb w hA hB hT hC).mono fun e w' h => ⟨true, h.1, fun _ => rfl, h.2⟩
  · have key : Calls Tryd.prog 32 #[va, vb] w fun e w' => e = .returned (.bool false) ∧ Below w.heap.size w w' := by
      obtain ⟨hsa, ha⟩ := hA
      obtain ⟨hsb, hb⟩ := hB
      rcases ha with ⟨a, c, rfl, rfl⟩ | ⟨b, off, cap, rfl, k1, k2, k3, k4, k5⟩
      · rcases hb with ⟨a2, c2, rfl, rfl⟩ | ⟨b2, off2, cap2, rfl, j1, j2, j3, j4, j5⟩
        · exact collide_off _ _ _ _ _ _ w (.inl rfl)
        · exact collide_off _ _ _ _ _ _ w (.inl rfl)
      · rcases hb with ⟨a2, c2, rfl, rfl⟩ | ⟨b2, off2, cap2, rfl, j1, j2, j3, j4, j5⟩
        · exact collide_off _ _ _ _ _ _ w (.inr rfl)
        · exact collide_no la lb b off cap b2 off2 cap2 w hsa hsb (by omega) k4 j4 k5 j5 hT hC
    exact key.mono fun e w' h => ⟨false, h.1, fun h' => absurd h' hC, h.2⟩
end Go.Proofs.YtlnlhjkdbpkaiaaDoor
