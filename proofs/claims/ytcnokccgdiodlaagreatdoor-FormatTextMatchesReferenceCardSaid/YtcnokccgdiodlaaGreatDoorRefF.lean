/- The reference's pick and free. Conditions: the number of choices is positive; the fields are readable. -/
import Derived.Test.YtcnokccgdiodlaaGreatDoorRefE
namespace Go.Proofs.YtcnokccgdiodlaaGreatDoor
open Go.RowKit Go.Shelf Fx Go.Sort

/-- What a pick gives: one of the choices. -/
def pickI (c n : Int) : Int := (if c < 0 then -(c + 1) else c) % n
theorem pickI_lo {c n : Int} (h : 1 ≤ n) : 0 ≤ pickI c n := Int.emod_nonneg _ (by omega)
theorem pickI_hi {c n : Int} (h : 1 ≤ n) : pickI c n < n := Int.emod_lt_of_pos _ (by omega)
theorem rpick_any (c n r : Int) (w : World) (c1 : -9223372036854775808 ≤ c) (c2 : c ≤ 9223372036854775807) (n1 : 1 ≤ n) (n2 : n ≤ 9223372036854775807) (hr : pickI c n = r) :
    Calls Tryz.prog 29 #[.int .i64 c, .int .i64 n] w fun e w' => e = .returned (.int .i64 r) ∧ w' = w := by
  subst hr
  unfold pickI
  by_cases h : c < 0
  · rw [if_pos h]
    have e1 : (-(c + 1)).tmod n = (-(c + 1)) % n := Int.tmod_eq_emod_of_nonneg (by omega)
    go_enter Tryz.func29, Tryz.ntmps29
    go_wp2_with fail
    go_ret
    exact ⟨rfl, rfl⟩
  · rw [if_neg h]
    have e1 : c.tmod n = c % n := Int.tmod_eq_emod_of_nonneg (by omega)
    go_enter Tryz.func29, Tryz.ntmps29
    go_wp2_with fail
    go_ret
    exact ⟨rfl, rfl⟩
set_option maxHeartbeats 1000000 in
theorem rfree_any (v : Value) (fs : List Fld) (w : World) (hV : FldsAt w v fs) (hl : fs.length ≤ 1000) :
    Calls Tryz.prog 30 #[v] w fun e w' => (∃ o : Int, e = .returned (.int .i64 o) ∧ -1 ≤ o ∧ o ≤ 1000) ∧ w' = w := by
  obtain ⟨a, c, rfl, hlc⟩ := hV.slice_
  obtain ⟨n, hn⟩ : ∃ n, n = fs.length := ⟨_, rfl⟩
  rw [← hn] at hV hlc hl ⊢
  have HV := Lib.hid (And.intro hV hn)
  clear hV hn
  go_enter Tryz.func30, Tryz.ntmps30
  go_wp2_with fail
  go_loop [3] (fun i => ∃ k : Int, -1 ≤ k ∧ k < n ∧ i = .int .i64 k) (fun i => (intOf i + 1).toNat)
  case atStart => exact ⟨(n : Int) - 1, by omega, by omega, rfl⟩
  case round =>
    obtain ⟨k, hk1, hk2, rfl⟩ := hrel
    by_cases hk : 0 ≤ k
    · obtain ⟨kn, rfl⟩ : ∃ kn : Nat, k = kn := ⟨k.toNat, by omega⟩
      obtain ⟨b, off, rfl, -, lb, m1, m2, hfl⟩ := HV.out.1.at_ (by have := HV.out.2; omega)
      have c0 := (hfl kn (by have := HV.out.2; omega)).c0
      obtain ⟨KD, hKD⟩ : ∃ KD, KD = (fs.getD kn zf).kind := ⟨_, rfl⟩
      rw [← hKD] at c0
      have hkn : kn < n := by omega
      unfold maxLen at m2
      have HFL := Lib.hid hfl
      clear hKD hfl
      go_wp2_with fail
      go_loop [4, 5] (fun u j => ∃ (x : Nat) (q : Bool), x ≤ n ∧ j = .int .i64 x ∧ u = .bool q) (fun _ j => n - (intOf j).toNat)
      case atStart => exact ⟨kn + 1, _, by omega, by go_num, rfl⟩
      case round =>
        obtain ⟨x, q, hx, rfl, rfl⟩ := hrel
        by_cases hxn : x < n
        · have c2 := (HFL.out x (by have := HV.out.2; omega)).c2
          cases q with
          | true =>
            go_wp2_with fail
            refine ⟨⟨x + 1, true, by omega, by go_num, rfl⟩, by simp [intOf]; omega⟩
          | false =>
            go_wp2_with fail
            refine ⟨⟨x + 1, _, by omega, by go_num, rfl⟩, by simp [intOf]; omega⟩
        · obtain rfl : x = n := by omega
          cases q with
          | true =>
            go_wp2_with fail
            refine ⟨⟨(kn : Int) - 1, by omega, by omega, by go_num⟩, by simp [intOf]⟩
          | false =>
            go_wp2_with fail
            go_ret
            exact ⟨⟨kn, rfl, by omega, by omega⟩, rfl⟩
    · have hkm : k = -1 := by omega
      subst hkm
      go_wp2_with fail
      go_ret
      exact ⟨⟨-1, rfl, by omega, by omega⟩, rfl⟩
end Go.Proofs.YtcnokccgdiodlaaGreatDoor
