/- Verify returns whether its proof is right. Conditions: the proof is readable and its strings have at most 1000 bytes, as the entry has. -/
import Derived.Test.YtlnlhjkdbpkaiaaDoorDigK
namespace Go.Proofs.YtlnlhjkdbpkaiaaDoor
open Go.RowKit

theorem str_beq (a b : ByteArray) : (a.toList == b.toList) = decide (a = b) := by
  rw [ByteArray.toList_eq, ByteArray.toList_eq]
  by_cases h : a = b
  · subst h; simp
  · have : a.data.toList ≠ b.data.toList := fun e => h (Dt.ba_ext e)
    simp [h, beq_eq_false_iff_ne.2 this]
theorem value_raw (s : ByteArray) (hs : s.size ≤ 1000) (r : List ByteArray) : (∀ x ∈ r, x.size ≤ 1000) → ∀ (n i : Nat) (b off cap : Nat) (w : World), 1 ≤ n → i < n → n ≤ 9223372036854775807 → r.length ≤ cap → cap ≤ 9223372036854775807 → StrsAt w b off r.reverse → b < w.heap.size → Tabs w →
    Calls Tryd.prog 46 #[.int .i64 n, .int .i64 i, .string s, .slice (some ⟨b, off, none⟩) r.length cap] w fun e w' => e = .returned (.tuple #[.string (Dt.valR shaB s r n i).1, .bool (Dt.valR shaB s r n i).2]) ∧ Below w.heap.size w w' := by
  induction r with
  | nil => intro _ n i b off cap w h1 h2 h3 _ _ _ _ hT; exact value_nil s n i _ cap w h1 hs hT
  | cons x r ih =>
    intro hr n i b off cap w h1 h2 h3 h4 h5 h6 h7 hT
    exact value_cons s x r (ih fun y hy => hr y (by simp [hy])) n i b off cap r.length w h1 h2 h3 rfl h4 h5 h6 h7 hs (hr x (by simp)) hT
theorem value_any (s : ByteArray) (p : List ByteArray) (v : Value) (n i : Nat) (w : World) (hs : s.size ≤ 1000) (h1 : 1 ≤ n) (h2 : i < n) (h3 : n ≤ 9223372036854775807) (hP : ListAt w v p) (hT : Tabs w) :
    Calls Tryd.prog 46 #[.int .i64 n, .int .i64 i, .string s, v] w fun e w' => e = .returned (.tuple #[.string (Dt.valR shaB s p.reverse n i).1, .bool (Dt.valR shaB s p.reverse n i).2]) ∧ Below w.heap.size w w' := by
  obtain ⟨hsh, ⟨a, c, rfl, rfl⟩ | ⟨b, off, cap, rfl, k1, k2, k3, k4, k5⟩⟩ := hP
  · exact value_nil s n i a c w h1 hs hT
  · have := value_raw s hs p.reverse (fun x hx => hsh x (by simpa using hx)) n i b off cap w h1 h2 h3 (by simpa using k2) k3 (by simpa using k4) k5 hT
    rw [List.length_reverse] at this
    exact this

/-- What Verify answers. -/
def verB (root : ByteArray) (n i : Int) (s : ByteArray) (p : List ByteArray) : Bool :=
  decide (0 ≤ i) && decide (i < n) && digsB p && (Dt.valR shaB s p.reverse n.toNat i.toNat).2 && decide ((Dt.valR shaB s p.reverse n.toNat i.toNat).1 = root)

set_option maxRecDepth 100000 in
set_option maxHeartbeats 4000000 in
theorem Verify_any (root s : ByteArray) (n i : Int) (p : List ByteArray) (v : Value) (w : World) (hs : s.size ≤ 1000) (hn : n ≤ 9223372036854775807) (hP : ListAt w v p) (hT : Tabs w) :
    Calls Tryd.prog 29 #[.string root, .int .i64 n, .int .i64 i, .string s, v] w fun e w' => e = .returned (.bool (verB root n i s p)) ∧ Below w.heap.size w w' := by
  have HT := Lib.hid hT
  have HP := Lib.hid hP
  by_cases h1 : i < 0
  · have HV : Hid (verB root n i s p = false) := Lib.hid (by simp [verB, show ¬ 0 ≤ i by omega])
    clear hT hP
    go_enter Tryd.func29, Tryd.ntmps29
    go_wp2_with fail
    go_ret
    exact ⟨by rw [HV.out]; rfl, Below.refl _ _⟩
  · by_cases h2 : n ≤ i
    · have HV : Hid (verB root n i s p = false) := Lib.hid (by simp [verB, show ¬ i < n by omega])
      have h1' : 0 ≤ i := by omega
      clear hT hP
      go_enter Tryd.func29, Tryd.ntmps29
      go_wp2_with fail
      go_ret
      exact ⟨by rw [HV.out]; rfl, Below.refl _ _⟩
    · obtain ⟨m, rfl⟩ := Int.eq_ofNat_of_zero_le (by omega : 0 ≤ n)
      obtain ⟨j, rfl⟩ := Int.eq_ofNat_of_zero_le (by omega : 0 ≤ i)
      have h2' : (j : Int) < (m : Int) := by omega
      have hd := digests_any v p w hP
      by_cases h3 : digsB p = true
      · rw [h3] at hd
        have hv := value_any s p v m j w hs (by omega) (by omega) (by omega) hP hT
        obtain ⟨v1, hv1⟩ : ∃ v, v = (Dt.valR shaB s p.reverse m j).1 := ⟨_, rfl⟩
        obtain ⟨v2, hv2⟩ : ∃ v, v = (Dt.valR shaB s p.reverse m j).2 := ⟨_, rfl⟩
        rw [← hv1, ← hv2] at hv
        have HV : Hid (verB root m j s p = (v2 && decide (v1 = root))) := Lib.hid (by
          unfold verB; rw [h3, Int.toNat_natCast, Int.toNat_natCast, ← hv1, ← hv2]; simp [show j < m by omega])
        have HD := Lib.hid hd
        have HVAL := Lib.hid hv
        clear hT hP hd hv h3 hv1 hv2
        cases v2 with
        | false =>
          go_enter Tryd.func29, Tryd.ntmps29
          go_wp2_with (first | (go_at_call 45; refine HD.out.mono ?_; rintro e w' ⟨rfl, rfl⟩) | (go_at_call 46; refine HVAL.out.mono ?_; rintro e w1 ⟨rfl, hB1⟩; have HB1 := Lib.hid hB1; clear hB1))
          go_ret
          exact ⟨by rw [HV.out]; rfl, HB1.out⟩
        | true =>
          go_enter Tryd.func29, Tryd.ntmps29
          go_wp2_with (first | (go_at_call 45; refine HD.out.mono ?_; rintro e w' ⟨rfl, rfl⟩) | (go_at_call 46; refine HVAL.out.mono ?_; rintro e w1 ⟨rfl, hB1⟩; have HB1 := Lib.hid hB1; clear hB1))
          go_ret
          exact ⟨by rw [HV.out, ← str_beq]; rfl, HB1.out⟩
      · rw [Bool.not_eq_true] at h3
        have HV : Hid (verB root m j s p = false) := Lib.hid (by unfold verB; rw [h3]; simp)
        rw [h3] at hd
        have HD := Lib.hid hd
        clear hT hP hd h3
        go_enter Tryd.func29, Tryd.ntmps29
        go_wp2_with (first | (go_at_call 45; refine HD.out.mono ?_; rintro e w' ⟨rfl, rfl⟩) | fail)
        go_ret
        exact ⟨by rw [HV.out]; rfl, Below.refl _ _⟩
end Go.Proofs.YtlnlhjkdbpkaiaaDoor
