/- The reference's size, divisor and validity. Conditions: ints; the numbers fit 64 bits. -/
import Derived.Test.YtphphamfejgdaaaGreatDoorRatT
import Derived.Lib.QuietBelow
namespace Go.Proofs.YtphphamfejgdaaaGreatDoor
open Go.RowKit

theorem rsize_any (n : Int) (m : Nat) (w : World) (h1 : -9223372036854775808 ≤ n) (h2 : n ≤ 9223372036854775807) (hm : n.natAbs = m) :
    Calls Tryz.prog 37 #[.int .i64 n] w fun e w' => e = .returned (.int .u64 m) ∧ w' = w := by
  by_cases hn : n < 0
  · obtain ⟨k, hk⟩ : ∃ k, n + 1 = k := ⟨_, rfl⟩
    obtain ⟨l, hl⟩ : ∃ l, -k = l := ⟨_, rfl⟩
    have k1 : -9223372036854775808 ≤ k := by omega
    have k2 : k ≤ 9223372036854775807 := by omega
    have l1 : 0 ≤ l := by omega
    have l2 : l ≤ 9223372036854775807 := by omega
    have wk : wrap64 k = k := by unfold wrap64; omega
    have wl : wrap64 l = l := by unfold wrap64; omega
    have w1 : IntKind.u64.wrap l = l := by show l % 18446744073709551616 = _; omega
    have w2 : IntKind.u64.wrap (l + 1) = (m : Int) := by show (l + 1) % 18446744073709551616 = _; omega
    clear h1 h2 hm
    go_enter Tryz.func37, Tryz.ntmps37
    go_wp2
    go_ret
    exact ⟨rfl, rfl⟩
  · have a2 := u64_pos n h2 hn
    rw [hm] at a2
    clear h1 h2 hm
    go_enter Tryz.func37, Tryz.ntmps37
    go_wp2
    go_ret
    exact ⟨rfl, rfl⟩

theorem rdivisor_any (a b g : Nat) (w : World) (ha : a ≤ 9223372036854775808) (hb : b ≤ 9223372036854775808) (hg : Nat.gcd a b = g) :
    Calls Tryz.prog 36 #[.int .u64 a, .int .u64 b] w fun e w' => e = .returned (.int .u64 g) ∧ ∃ n, w' = w.drewN n := by
  have HG : Hid (Nat.gcd a b = g ∧ a ≤ 9223372036854775808 ∧ b ≤ 9223372036854775808) := Lib.hid ⟨hg, ha, hb⟩
  clear ha hb hg
  go_enter Tryz.func36, Tryz.ntmps36
  go_wp2
  go_loopw [0, 1] (fun p q wr => ∃ x y : Nat, p = .int .u64 x ∧ q = .int .u64 y ∧ Hid (Nat.gcd x y = g ∧ x ≤ 9223372036854775808 ∧ y ≤ 9223372036854775808) ∧ ∃ n, wr = w.drewN n) (fun _ q _ => (intOf q).toNat)
  case atStart => exact ⟨a, b, rfl, rfl, HG, 0, rfl⟩
  case round =>
    obtain ⟨x, y, rfl, rfl, HX, n, rfl⟩ := hrel
    by_cases hy : 0 < y
    · have hy0 : ¬ (y : Int) = 0 := by omega
      have HN : Hid (Nat.gcd y (x % y) = g ∧ y ≤ 9223372036854775808 ∧ x % y ≤ 9223372036854775808) := Lib.hid (by
        obtain ⟨h1, h2, h3⟩ := HX.out
        refine ⟨?_, h3, ?_⟩
        · rw [← h1, Nat.gcd_comm x y, Nat.gcd_rec y x, Nat.gcd_comm]
        · have := Nat.mod_lt x hy; omega)
      go_wp2
      go_quiet (fail)
      go_wp2
      go_roundw
      case rel => exact ⟨y, x % y, rfl, by rw [Int.natCast_emod], HN, n + nq, World.drewN_drewN ..⟩
      case measure => simp only [intOf]; have := Nat.mod_lt x hy; show (((x : Int) % (y : Int))).toNat < ((y : Int)).toNat; omega
    · have hy0 : y = 0 := by omega
      subst hy0
      have HV : Hid (x = g) := Lib.hid (by have := HX.out.1; rwa [Nat.gcd_zero_right] at this)
      go_wp2
      go_ret
      exact ⟨by rw [HV.out]; rfl, _, rfl⟩

/-- Valid as the reference tests it. -/
theorem rvalid_iff (n d : Int) : (Rt.rd n d).isSome = true ↔ 1 ≤ d ∧ d ≤ 1000000000 ∧ -1000000000 ≤ n ∧ n ≤ 1000000000 ∧ Nat.gcd n.natAbs d.natAbs = 1 := by
  constructor
  · intro h
    obtain ⟨q, hq⟩ := Option.isSome_iff_exists.1 h
    obtain ⟨h1, h2, h3, h4⟩ := Rt.rd_bounds hq
    obtain ⟨e1, e2, _⟩ := Rt.rd_some hq
    refine ⟨h3, h4, h1, h2, ?_⟩
    have := q.reduced
    rw [← e1, ← e2, Int.natAbs_natCast]
    exact this
  · rintro ⟨h1, h2, h3, h4, h5⟩
    have hp : Rt.fits ⟨n, d.natAbs, by omega, h5⟩ = true := Rt.fits_iff.2 ⟨show n.natAbs ≤ _ by omega, show d.natAbs ≤ _ by omega⟩
    have h := Rt.rd_self hp
    have e : ((d.natAbs : Nat) : Int) = d := by omega
    simp only [e] at h
    rw [h]; rfl

set_option maxRecDepth 20000 in
set_option maxHeartbeats 1000000 in
theorem rvalid_any (n d : Int) (v : Bool) (w : World) (n1 : -9223372036854775808 ≤ n) (n2 : n ≤ 9223372036854775807) (d1 : -9223372036854775808 ≤ d) (d2 : d ≤ 9223372036854775807) (hv : (Rt.rd n d).isSome = v) :
    Calls Tryz.prog 21 #[frac n d] w fun e w' => e = .returned (.bool v) ∧ Below w.heap.size w w' := by
  have hi := rvalid_iff n d
  rw [hv] at hi
  have hb0 : Below w.heap.size w (w.alloc (Obj.cells #[Value.int IntKind.i64 n, Value.int IntKind.i64 d] 25)) := (Below.refl _ _).alloc (Nat.le_refl _) _
  have HB0 := Lib.hid hb0
  clear hb0
  by_cases c1 : 1 ≤ d
  · by_cases c2 : d ≤ 1000000000
    · by_cases c3 : -1000000000 ≤ n
      · by_cases c4 : n ≤ 1000000000
        · obtain ⟨P, hP⟩ : ∃ P, n.natAbs = P := ⟨_, rfl⟩
          obtain ⟨Q, hQ⟩ : ∃ Q, d.natAbs = Q := ⟨_, rfl⟩
          obtain ⟨g, hg⟩ : ∃ g, Nat.gcd P Q = g := ⟨_, rfl⟩
          have hvg : ((g : Int) == 1) = v := by
            rw [hP, hQ, hg] at hi
            cases v with
            | true => have := (hi.1 rfl).2.2.2.2; rw [this]; rfl
            | false =>
              rw [beq_eq_false_iff_ne]
              intro h
              have := hi.2 ⟨c1, c2, c3, c4, by omega⟩
              cases this
          have HP := Lib.hid hP
          have HQ := Lib.hid hQ
          have HG := Lib.hid hg
          have HS : Hid (∀ W x m, (x = n ∧ m = P) ∨ (x = d ∧ m = Q) → Calls Tryz.prog 37 #[.int .i64 x] W fun e w' => e = .returned (.int .u64 ((m : Nat) : Int)) ∧ w' = W) := Lib.hid (fun W x m h => by
            rcases h with ⟨rfl, rfl⟩ | ⟨rfl, rfl⟩
            · exact rsize_any x m W n1 n2 hP
            · exact rsize_any x m W d1 d2 hQ)
          have HD : Hid (∀ W, Calls Tryz.prog 36 #[.int .u64 P, .int .u64 Q] W fun e w' => e = .returned (.int .u64 g) ∧ ∃ n, w' = W.drewN n) := Lib.hid (fun W => rdivisor_any P Q g W (by omega) (by omega) hg)
          clear hi hv hP hQ hg n1 n2 d1 d2
          go_enter Tryz.func21, Tryz.ntmps21
          go_wp2_with fail
          go_quiet (first | (go_at_call 37; exact Calls.quiet_of_same (HS.out _ _ _ (by first | exact .inl ⟨rfl, rfl⟩ | exact .inr ⟨rfl, rfl⟩))) | (go_at_call 36; exact Calls.quiet_of (HD.out _)))
          go_wp2_with fail
          go_ret
          exact ⟨rfl, below_drewN HB0.out _⟩
        · obtain rfl : v = false := by cases v with | false => rfl | true => exact absurd (hi.1 rfl).2.2.2.1 c4
          have f0 : decide (n ≤ 1000000000) = false := decide_eq_false c4
          clear hi hv c4
          go_enter Tryz.func21, Tryz.ntmps21
          go_wp2_with fail
          go_quiet (fail)
          go_wp2_with fail
          go_ret
          exact ⟨rfl, below_drewN HB0.out _⟩
      · obtain rfl : v = false := by cases v with | false => rfl | true => exact absurd (hi.1 rfl).2.2.1 c3
        have f0 : decide (-1000000000 ≤ n) = false := decide_eq_false c3
        clear hi hv c3
        go_enter Tryz.func21, Tryz.ntmps21
        go_wp2_with fail
        go_quiet (fail)
        go_wp2_with fail
        go_ret
        exact ⟨rfl, below_drewN HB0.out _⟩
    · obtain rfl : v = false := by cases v with | false => rfl | true => exact absurd (hi.1 rfl).2.1 c2
      have f0 : decide (d ≤ 1000000000) = false := decide_eq_false c2
      clear hi hv c2
      go_enter Tryz.func21, Tryz.ntmps21
      go_wp2_with fail
      go_quiet (fail)
      go_wp2_with fail
      go_ret
      exact ⟨rfl, below_drewN HB0.out _⟩
  · obtain rfl : v = false := by cases v with | false => rfl | true => exact absurd (hi.1 rfl).1 c1
    have f0 : decide (1 ≤ d) = false := decide_eq_false c1
    clear hi hv c1
    go_enter Tryz.func21, Tryz.ntmps21
    go_wp2_with fail
    go_quiet (fail)
    go_wp2_with fail
    go_ret
    exact ⟨rfl, below_drewN HB0.out _⟩

theorem rboth_any (a b c d : Int) (v : Bool) (w : World) (a1 : -9223372036854775808 ≤ a) (a2 : a ≤ 9223372036854775807) (b1 : -9223372036854775808 ≤ b) (b2 : b ≤ 9223372036854775807)
    (c1 : -9223372036854775808 ≤ c) (c2 : c ≤ 9223372036854775807) (d1 : -9223372036854775808 ≤ d) (d2 : d ≤ 9223372036854775807) (hv : Rt.both a b c d = v) :
    Calls Tryz.prog 40 #[frac a b, frac c d] w fun e w' => e = .returned (.bool v) ∧ Below w.heap.size w w' := by
  obtain ⟨p, hp⟩ : ∃ p, (Rt.rd a b).isSome = p := ⟨_, rfl⟩
  obtain ⟨q, hq⟩ : ∃ q, (Rt.rd c d).isSome = q := ⟨_, rfl⟩
  have HV : Hid (v = (p && q)) := Lib.hid (by rw [← hv, ← hp, ← hq]; rfl)
  have HM := Lib.hid (And.intro (And.intro a1 (And.intro a2 (And.intro b1 (And.intro b2 hp)))) (And.intro c1 (And.intro c2 (And.intro d1 (And.intro d2 hq)))))
  clear a1 a2 b1 b2 c1 c2 d1 d2 hv hp hq
  go_enter Tryz.func40, Tryz.ntmps40
  go_wp2_with fail
  have hb0 : Below w.heap.size w ((w.alloc (Obj.cells #[Value.int IntKind.i64 a, Value.int IntKind.i64 b] 25)).alloc (Obj.cells #[Value.int IntKind.i64 c, Value.int IntKind.i64 d] 25)) := ((Below.refl _ _).alloc (Nat.le_refl _) _).alloc (by simp) _
  obtain ⟨⟨a1, a2, b1, b2, hp⟩, c1, c2, d1, d2, hq⟩ := HM.out
  refine (rvalid_any a b p _ a1 a2 b1 b2 hp).mono ?_
  clear a1 a2 b1 b2 hp c1 c2 d1 d2 hq
  rintro e w2 ⟨rfl, hB⟩
  obtain ⟨hc, hz⟩ := bcell hB
  have x0 : w2.cell? ⟨w.heap.size + 1, 0, none⟩ = some (.int .i64 c) := by rw [hc _ _ (by first | (simp; done) | (simp; omega))]; simp [go_sem]
  have x1 : w2.cell? ⟨w.heap.size + 1, 1, none⟩ = some (.int .i64 d) := by rw [hc _ _ (by first | (simp; done) | (simp; omega))]; simp [go_sem]
  have HB2 : Hid (Below w.heap.size w w2) := Lib.hid (hb0.trans (hB.mono (by simp; omega)))
  clear hB hb0 hc hz
  go_wp2_with fail
  obtain ⟨⟨a1, a2, b1, b2, hp⟩, c1, c2, d1, d2, hq⟩ := HM.out
  refine (rvalid_any c d q _ c1 c2 d1 d2 hq).mono ?_
  clear a1 a2 b1 b2 hp c1 c2 d1 d2 hq
  rintro e w3 ⟨rfl, hB⟩
  have HB3 : Hid (Below w.heap.size w w3) := Lib.hid (HB2.out.trans (hB.mono HB2.out.size))
  clear hB
  cases p with
  | false =>
    go_wp2_with fail
    go_ret
    exact ⟨by rw [HV.out]; rfl, HB3.out⟩
  | true =>
    go_wp2_with fail
    go_ret
    exact ⟨by rw [HV.out]; rfl, HB3.out⟩
end Go.Proofs.YtphphamfejgdaaaGreatDoor
