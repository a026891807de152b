/- digests, value and Verify return what the plain definitions say. Conditions: the proof is readable and its strings have at most 1000 bytes, as the entry has. -/
import Derived.Test.YtlnlhjkdbpkaiaaDoorDigJ
namespace Go.Proofs.YtlnlhjkdbpkaiaaDoor
open Go.RowKit

/-- All strings have 32 bytes. -/
def digsB (l : List ByteArray) : Bool := l.all fun x => x.size == 32
theorem digsB_iff (l : List ByteArray) : digsB l = true ↔ Dt.Digs l := by simp [digsB, Dt.Digs]
theorem digsB_take {l : List ByteArray} {k : Nat} (h : k < l.length) : digsB (l.take (k + 1)) = (digsB (l.take k) && ((l.getD k ByteArray.empty).size == 32)) := by
  unfold digsB
  rw [List.take_succ_eq_append_getElem h, List.all_append]
  simp [List.getD, h]
theorem digsB_false {l : List ByteArray} {k : Nat} (h : k < l.length) (hx : (l.getD k ByteArray.empty).size ≠ 32) : digsB l = false := by
  unfold digsB
  rw [List.all_eq_false]
  refine ⟨l.getD k ByteArray.empty, ?_, by simpa using hx⟩
  simp only [List.getD, List.getElem?_eq_getElem h, Option.getD_some]
  exact List.getElem_mem _

set_option maxHeartbeats 1000000 in
theorem digests_some (l : List ByteArray) (b off cap : Nat) (w : World) (hmax : l.length ≤ 9223372036854775807) (hS : StrsAt w b off l) :
    Calls Tryd.prog 45 #[.slice (some ⟨b, off, none⟩) l.length cap] w fun e w' => e = .returned (.bool (digsB l)) ∧ w = w' := by
  obtain ⟨n, hn⟩ : ∃ n, n = l.length := ⟨_, rfl⟩
  have HS := Lib.hid hS
  have HN := Lib.hid hn
  rw [← hn] at hmax ⊢
  clear hS hn
  go_enter Tryd.func45, Tryd.ntmps45
  go_wp2
  go_loop [4, 7] (fun _ c => ∃ k : Nat, k ≤ n ∧ c = .int .i64 k ∧ digsB (l.take k) = true) (fun _ c => n - (intOf c).toNat)
  case atStart => exact ⟨0, by omega, rfl, rfl⟩
  case round =>
    obtain ⟨k, hk, rfl, hd⟩ := hrel
    have HD := Lib.hid hd
    clear hd
    by_cases hlt : k < n
    · have hc := HS.out k (by rw [← HN.out]; exact hlt)
      obtain ⟨x, hx⟩ : ∃ x, x = l.getD k ByteArray.empty := ⟨_, rfl⟩
      rw [← hx] at hc
      have HX := Lib.hid hx
      clear hx
      by_cases h32 : x.size = 32
      · have h32' : (x.size : Int) = 32 := by omega
        have HY : Hid (digsB (l.take (k + 1)) = true) := Lib.hid (by rw [digsB_take (by rw [← HN.out]; exact hlt), HD.out, ← HX.out, h32]; rfl)
        go_wp2
        go_round
        case rel => exact ⟨k + 1, by omega, by go_num, HY.out⟩
        case measure => simp [intOf]; omega
      · have h32' : ¬ (x.size : Int) = 32 := by omega
        have HY : Hid (digsB l = false) := Lib.hid (digsB_false (by rw [← HN.out]; exact hlt) (by rw [← HX.out]; exact h32))
        go_wp2
        go_ret
        exact ⟨by rw [HY.out]; rfl, rfl⟩
    · obtain rfl : k = n := by omega
      have HY : Hid (digsB l = true) := Lib.hid (by have := HD.out; rw [HN.out, List.take_length] at this; exact this)
      go_wp2
      go_ret
      exact ⟨by rw [HY.out]; rfl, rfl⟩
theorem digests_none (a : Option Addr) (c : Nat) (w : World) :
    Calls Tryd.prog 45 #[.slice a 0 c] w fun e w' => e = .returned (.bool true) ∧ w = w' := by
  go_enter Tryd.func45, Tryd.ntmps45
  go_wp2
  refine wp_loop_rounds 1 ?_
  rw [rounds_succ]
  go_wp2
  go_ret
  exact ⟨rfl, rfl⟩
theorem digests_any (v : Value) (l : List ByteArray) (w : World) (h : ListAt w v l) :
    Calls Tryd.prog 45 #[v] w fun e w' => e = .returned (.bool (digsB l)) ∧ w = w' := by
  obtain ⟨hs, ⟨a, c, rfl, rfl⟩ | ⟨b, off, cap, rfl, h1, h2, h3, h4, h5⟩⟩ := h
  · exact digests_none a c w
  · exact digests_some l b off cap w (by omega) h4

theorem valR_le (s : ByteArray) (r : List ByteArray) (n i : Nat) : (Dt.valR shaB s r n i).1.size ≤ 32 := by
  cases r with
  | nil =>
    by_cases h : n = 1
    · subst h; rw [Dt.valR_one]; exact Nat.le_of_eq (shaB_size _)
    · rw [Dt.valR_none shaB s h]; decide
  | cons x r =>
    by_cases h : n = 1
    · subst h; rw [Dt.valR_one]; exact Nat.le_of_eq (shaB_size _)
    · by_cases hk : i < Dt.lk n
      · rw [Dt.valR_left shaB _ _ _ h hk]; exact Nat.le_of_eq (shaB_size _)
      · rw [Dt.valR_right shaB _ _ _ h hk]; exact Nat.le_of_eq (shaB_size _)

set_option maxRecDepth 100000 in
set_option maxHeartbeats 4000000 in
theorem value_nil (s : ByteArray) (n i : Nat) (a : Option Addr) (c : Nat) (w : World) (h1 : 1 ≤ n) (hs : s.size ≤ 1000) (hT : Tabs w) :
    Calls Tryd.prog 46 #[.int .i64 n, .int .i64 i, .string s, .slice a 0 c] w fun e w' => e = .returned (.tuple #[.string (Dt.valR shaB s [] n i).1, .bool (Dt.valR shaB s [] n i).2]) ∧ Below w.heap.size w w' := by
  have HT := Lib.hid hT
  clear hT
  by_cases hone : n = 1
  · subst hone
    rw [Dt.valR_one]
    go_enter Tryd.func46, Tryd.ntmps46
    go_wp2_with fail
    refine (Leaf_any _ _ HT.out (by omega)).mono ?_
    rintro e w' ⟨rfl, hB⟩
    go_wp2_with fail
    go_ret2
    exact ⟨rfl, hB⟩
  · have q1 : ((n : Int) == 1) = false := by simp; omega
    rw [Dt.valR_none shaB s hone]
    clear hone
    go_enter Tryd.func46, Tryd.ntmps46
    go_wp2_with fail
    go_ret2
    exact ⟨rfl, Below.refl _ _⟩

set_option maxRecDepth 100000 in
set_option maxHeartbeats 4000000 in
theorem value_cons (s x : ByteArray) (r : List ByteArray)
    (ih : ∀ (n i : Nat) (b off cap : Nat) (w : World), 1 ≤ n → i < n → n ≤ 9223372036854775807 → r.length ≤ cap → cap ≤ 9223372036854775807 → StrsAt w b off r.reverse → b < w.heap.size → Tabs w →
      Calls Tryd.prog 46 #[.int .i64 n, .int .i64 i, .string s, .slice (some ⟨b, off, none⟩) r.length cap] w fun e w' => e = .returned (.tuple #[.string (Dt.valR shaB s r n i).1, .bool (Dt.valR shaB s r n i).2]) ∧ Below w.heap.size w w')
    (n i : Nat) (b off cap m : Nat) (w : World) (h1 : 1 ≤ n) (hin : i < n) (hmax : n ≤ 9223372036854775807) (hm : m = r.length) (hcap : m + 1 ≤ cap) (hcm : cap ≤ 9223372036854775807) (hS : StrsAt w b off (x :: r).reverse) (hb : b < w.heap.size) (hs : s.size ≤ 1000) (hx : x.size ≤ 1000) (hT : Tabs w) :
    Calls Tryd.prog 46 #[.int .i64 n, .int .i64 i, .string s, .slice (some ⟨b, off, none⟩) (m + 1) cap] w fun e w' => e = .returned (.tuple #[.string (Dt.valR shaB s (x :: r) n i).1, .bool (Dt.valR shaB s (x :: r) n i).2]) ∧ Below w.heap.size w w' := by
  have HT := Lib.hid hT
  have HM := Lib.hid hm
  have q0 : ((m : Int) + 1 == 0) = false := by simp; omega
  by_cases hone : n = 1
  · subst hone
    rw [Dt.valR_one]
    clear hT ih hS hm
    go_enter Tryd.func46, Tryd.ntmps46
    go_wp2_with fail
    refine (Leaf_any _ _ HT.out (by omega)).mono ?_
    rintro e w' ⟨rfl, hB⟩
    go_wp2_with fail
    go_ret2
    exact ⟨rfl, hB⟩
  · obtain ⟨k, hk⟩ : ∃ k, k = Dt.lk n := ⟨_, rfl⟩
    have hk1 : 1 ≤ k := by rw [hk]; exact Dt.lk_pos n
    have hk2 : k < n := by rw [hk]; exact Dt.lk_lt (by omega)
    have hsp : Calls Tryd.prog 44 #[.int .i64 n] w fun e w' => e = .returned (.int .i64 (k : Nat)) ∧ w = w' := by rw [hk]; exact split_any n w (by omega) hmax
    have HSP := Lib.hid hsp
    have q1 : ((n : Int) == 1) = false := by simp; omega
    have hc : w.cell? ⟨b, off + m, none⟩ = some (.string x) := by
      have := hS m (by simp [hm])
      rw [this]
      simp [List.getD, hm]
    have hS' : StrsAt w b off r.reverse := by
      have := hS.take m
      rw [List.reverse_cons, List.take_left' (by simp [hm])] at this
      exact this
    have HS' := Lib.hid hS'
    have HC := Lib.hid hc
    have q2 : (m : Int) ≤ (cap : Int) := by omega
    have q3 : 0 ≤ (m : Int) := by omega
    have q4 : ¬ cap = m := by omega
    by_cases hik : i < k
    · have HV : Hid (Dt.valR shaB s (x :: r) n i = (Dt.node shaB (Dt.valR shaB s r k i).1 x, (Dt.valR shaB s r k i).2)) := Lib.hid (by rw [Dt.valR_left shaB _ _ _ hone (by rw [← hk]; exact hik), hk])
      have hrec := fun (W : World) (hW : Below w.heap.size w W) => ih k i b off cap W hk1 hik (by omega) (by omega) hcm (hS'.below hW hb) (Nat.lt_of_lt_of_le hb hW.size) (hT.below hW)
      rw [← hm] at hrec
      have HREC := Lib.hid hrec
      clear hk hT ih hS hsp hS' hrec hone hm hc
      rw [HV.out]
      have hle := valR_le s r k i
      obtain ⟨v1, hv1⟩ : ∃ v, v = (Dt.valR shaB s r k i).1 := ⟨_, rfl⟩
      obtain ⟨v2, hv2⟩ : ∃ v, v = (Dt.valR shaB s r k i).2 := ⟨_, rfl⟩
      rw [← hv1] at hle
      rw [← hv1, ← hv2] at HREC ⊢
      clear hv1 hv2 HV
      go_enter Tryd.func46, Tryd.ntmps46
      go_wp2_with fail
      refine HSP.out.mono ?_
      rintro e w' ⟨rfl, rfl⟩
      go_wp2_with fail
      refine (HREC.out _ (Below.refl _ _)).mono ?_
      rintro e w1 ⟨rfl, hB1⟩
      have hc1 := (hB1.cell (p := ⟨b, off + m, none⟩) hb).trans HC.out
      have HB1 := Lib.hid hB1
      clear hB1
      go_wp2_with fail
      refine (Node_any _ _ _ (HT.out.below HB1.out) (by omega)).mono ?_
      rintro e w2 ⟨rfl, hB2⟩
      go_wp2_with fail
      go_ret2
      exact ⟨rfl, HB1.out.trans (hB2.mono HB1.out.size)⟩
    · have HV : Hid (Dt.valR shaB s (x :: r) n i = (Dt.node shaB x (Dt.valR shaB s r (n - k) (i - k)).1, (Dt.valR shaB s r (n - k) (i - k)).2)) := Lib.hid (by rw [Dt.valR_right shaB _ _ _ hone (by rw [← hk]; exact hik), hk])
      have hrec := fun (W : World) (hW : Below w.heap.size w W) => ih (n - k) (i - k) b off cap W (by omega) (by omega) (by omega) (by omega) hcm (hS'.below hW hb) (Nat.lt_of_lt_of_le hb hW.size) (hT.below hW)
      rw [← hm, show ((n - k : Nat) : Int) = (n : Int) - k by omega, show ((i - k : Nat) : Int) = (i : Int) - k by omega] at hrec
      have HREC := Lib.hid hrec
      clear hk hT ih hS hsp hS' hrec hone hm hc
      rw [HV.out]
      have hle := valR_le s r (n - k) (i - k)
      obtain ⟨v1, hv1⟩ : ∃ v, v = (Dt.valR shaB s r (n - k) (i - k)).1 := ⟨_, rfl⟩
      obtain ⟨v2, hv2⟩ : ∃ v, v = (Dt.valR shaB s r (n - k) (i - k)).2 := ⟨_, rfl⟩
      rw [← hv1] at hle
      rw [← hv1, ← hv2] at HREC ⊢
      clear hv1 hv2 HV
      go_enter Tryd.func46, Tryd.ntmps46
      go_wp2_with fail
      refine HSP.out.mono ?_
      rintro e w' ⟨rfl, rfl⟩
      go_wp2_with fail
      refine (HREC.out _ (Below.refl _ _)).mono ?_
      rintro e w1 ⟨rfl, hB1⟩
      have hc1 := (hB1.cell (p := ⟨b, off + m, none⟩) hb).trans HC.out
      have HB1 := Lib.hid hB1
      clear hB1
      go_wp2_with fail
      refine (Node_any _ _ _ (HT.out.below HB1.out) (by omega)).mono ?_
      rintro e w2 ⟨rfl, hB2⟩
      go_wp2_with fail
      go_ret2
      exact ⟨rfl, HB1.out.trans (hB2.mono HB1.out.size)⟩
end Go.Proofs.YtlnlhjkdbpkaiaaDoor
