/- way returns the strings that are digested for a proof, in new memory, and the value. Conditions: the proof is readable; its strings and the entry have at most 500 bytes; the place lies within the number. -/
import Derived.Test.YtlnlhjkdbpkaiaaDoorDigApp
namespace Go.Proofs.YtlnlhjkdbpkaiaaDoor
open Go.RowKit

theorem size_one (b : UInt8) : (⟨#[b]⟩ : ByteArray).size = 1 := rfl
theorem leafS_size (s : ByteArray) : (Dt.leafS s).size = 1 + s.size := by unfold Dt.leafS; rw [ByteArray.size_append, size_one]
theorem nodeS_size (a b : ByteArray) : (Dt.nodeS a b).size = 1 + a.size + b.size := by unfold Dt.nodeS; rw [ByteArray.size_append, ByteArray.size_append, size_one]
theorem chainS_size (a b : ByteArray) : (Dt.chainS a b).size = 1 + a.size + b.size := by unfold Dt.chainS; rw [ByteArray.size_append, ByteArray.size_append, size_one]
theorem wayR_size (s : ByteArray) (r : List ByteArray) (n i : Nat) : (Dt.wayR shaB s r n i).2.size = 32 := by
  cases r with
  | nil => exact shaB_size _
  | cons x r =>
    by_cases h : n ≤ 1
    · rw [Dt.wayR_stop shaB _ _ _ _ (.inl h)]; exact shaB_size _
    · by_cases hk : i < Dt.lk n
      · rw [Dt.wayR_left shaB _ _ _ (by omega) hk]; exact shaB_size _
      · rw [Dt.wayR_right shaB _ _ _ (by omega) hk]; exact shaB_size _
theorem wayR_len (s : ByteArray) (r : List ByteArray) : ∀ (n i : Nat), (Dt.wayR shaB s r n i).1.length ≤ r.length + 1 := by
  induction r with
  | nil => intro n i; exact Nat.le_refl _
  | cons x r ih =>
    intro n i
    by_cases h : n ≤ 1
    · rw [Dt.wayR_stop shaB _ _ _ _ (.inl h)]; simp
    · by_cases hk : i < Dt.lk n
      · rw [Dt.wayR_left shaB _ _ _ (by omega) hk]; have := ih (Dt.lk n) i; simp; omega
      · rw [Dt.wayR_right shaB _ _ _ (by omega) hk]; have := ih (n - Dt.lk n) (i - Dt.lk n); simp; omega
theorem wayR_short (s : ByteArray) (hs : s.size ≤ 500) (r : List ByteArray) : (∀ x ∈ r, x.size ≤ 500) → ∀ (n i : Nat), Short (Dt.wayR shaB s r n i).1 := by
  have h0 : Short [Dt.leafS s] := fun y hy => by
    rw [List.mem_singleton] at hy; subst hy; rw [leafS_size]; omega
  induction r with
  | nil => intro _ n i; exact h0
  | cons x r ih =>
    intro hr n i
    have hx := hr x (by simp)
    have hr' : ∀ y ∈ r, y.size ≤ 500 := fun y hy => hr y (by simp [hy])
    by_cases h : n ≤ 1
    · rw [Dt.wayR_stop shaB _ _ _ _ (.inl h)]; exact h0
    · by_cases hk : i < Dt.lk n
      · rw [Dt.wayR_left shaB _ _ _ (by omega) hk]
        intro y hy
        rcases List.mem_cons.1 hy with rfl | hy
        · rw [nodeS_size, wayR_size]; omega
        · exact ih hr' _ _ y hy
      · rw [Dt.wayR_right shaB _ _ _ (by omega) hk]
        intro y hy
        rcases List.mem_cons.1 hy with rfl | hy
        · rw [nodeS_size, wayR_size]; omega
        · exact ih hr' _ _ y hy

set_option maxRecDepth 100000 in
set_option maxHeartbeats 4000000 in
theorem way_stop (s : ByteArray) (hs : s.size ≤ 500) (n i : Nat) (a : Option Addr) (m c : Nat) (w : World) (h : n ≤ 1 ∨ m = 0) (hT : Tabs w) :
    Calls Tryd.prog 31 #[.int .i64 n, .int .i64 i, .string s, .slice a m c] w fun e w' => ∃ v, e = .returned (.tuple #[v, .string (Dt.leaf shaB s)]) ∧ OwnL w' w.heap.size v [Dt.leafS s] ∧ Below w.heap.size w w' := by
  have HA : Hid (∀ o, Below w.heap.size w (w.alloc o)) := Lib.hid (fun o => (Below.refl _ w).alloc (Nat.le_refl _) o)
  have HT := Lib.hid hT
  clear hT
  by_cases h1 : (n : Int) ≤ 1
  · clear h
    go_enter Tryd.func31, Tryd.ntmps31
    go_wp2_with fail
    refine (Leaf_any _ _ (HT.out.below (HA.out _)) (by omega)).mono ?_
    rintro e w1 ⟨rfl, hB⟩
    have hO := (OwnL.one (base := w.heap.size) (Nat.le_refl _) (Dt.leafS s)).below hB
    have HO := Lib.hid hO
    have HB := Lib.hid hB
    clear hO hB
    go_wp2_with fail
    go_ret2
    exact ⟨_, rfl, HO.out, (HA.out _).trans (HB.out.mono (HA.out _).size)⟩
  · obtain rfl : m = 0 := by omega
    clear h
    go_enter Tryd.func31, Tryd.ntmps31
    go_wp2_with fail
    refine (Leaf_any _ _ (HT.out.below (HA.out _)) (by omega)).mono ?_
    rintro e w1 ⟨rfl, hB⟩
    have hO := (OwnL.one (base := w.heap.size) (Nat.le_refl _) (Dt.leafS s)).below hB
    have HO := Lib.hid hO
    have HB := Lib.hid hB
    clear hO hB
    go_wp2_with fail
    go_ret2
    exact ⟨_, rfl, HO.out, (HA.out _).trans (HB.out.mono (HA.out _).size)⟩

def WayC (s : ByteArray) (r : List ByteArray) : Prop := ∀ (n i b off cap : Nat) (w : World), 1 ≤ n → i < n → n ≤ 9223372036854775807 → r.length ≤ cap → cap ≤ 9223372036854775807 → StrsAt w b off r.reverse → b < w.heap.size → Tabs w →
  Calls Tryd.prog 31 #[.int .i64 n, .int .i64 i, .string s, .slice (some ⟨b, off, none⟩) r.length cap] w fun e w' => ∃ v, e = .returned (.tuple #[v, .string (Dt.wayR shaB s r n i).2]) ∧ OwnL w' w.heap.size v (Dt.wayR shaB s r n i).1 ∧ Below w.heap.size w w'

set_option maxRecDepth 100000 in
set_option maxHeartbeats 8000000 in
theorem way_cons (s x : ByteArray) (hs : s.size ≤ 500) (r : List ByteArray) (hr : ∀ y ∈ x :: r, y.size ≤ 500) (hrl : r.length ≤ 500) (ih : WayC s r) : WayC s (x :: r) := by
  intro n i b off cap w h1 hin hmax hcap hcm hS hb hT
  have hx := hr x (by simp)
  have hr' : ∀ y ∈ r, y.size ≤ 500 := fun y hy => hr y (by simp [hy])
  have ih' : WayC s r := ih
  unfold WayC at ih'
  obtain ⟨m, hm⟩ : ∃ m, m = r.length := ⟨_, rfl⟩
  rw [List.length_cons] at hcap ⊢
  rw [← hm] at hcap hrl ih' ⊢
  have HT := Lib.hid hT
  have q0 : ((m : Int) + 1 == 0) = false := by simp; omega
  by_cases hone : n ≤ 1
  · rw [Dt.wayR_stop shaB _ _ _ _ (.inl hone)]
    exact way_stop s hs n i _ _ cap w (.inl hone) hT
  · obtain ⟨k, hk⟩ : ∃ k, k = Dt.lk n := ⟨_, rfl⟩
    have hk1 : 1 ≤ k := by rw [hk]; exact Dt.lk_pos n
    have hk2 : k < n := by rw [hk]; exact Dt.lk_lt (by omega)
    have hsp : Calls Tryd.prog 35 #[.int .i64 n] w fun e w' => e = .returned (.int .i64 (k : Nat)) ∧ w = w' := by rw [hk]; exact left_any n w (by omega) hmax
    have HSP := Lib.hid hsp
    have q1 : ¬ (n : Int) ≤ 1 := by omega
    have hc : w.cell? ⟨b, off + m, none⟩ = some (.string x) := by
      have := hS m (by simp [hm])
      rw [this]
      simp [List.getD, hm]
    have hS' : StrsAt w b off r.reverse := by
      have := hS.take m
      rw [List.reverse_cons, List.take_left' (by simp [hm])] at this
      exact this
    have q2 : (m : Int) ≤ (cap : Int) := by omega
    have q3 : 0 ≤ (m : Int) := by omega
    have q4 : ¬ cap = m := by omega
    by_cases hik : i < k
    · have HV : Hid (Dt.wayR shaB s (x :: r) n i = (Dt.nodeS (Dt.wayR shaB s r k i).2 x :: (Dt.wayR shaB s r k i).1, Dt.node shaB (Dt.wayR shaB s r k i).2 x)) := Lib.hid (by rw [Dt.wayR_left shaB _ _ _ (by omega) (by rw [← hk]; exact hik), hk])
      have hrec := ih' k i b off cap w hk1 hik (by omega) (by omega) hcm hS' hb hT
      have hvs := wayR_size s r k i
      have hsh := wayR_short s hs r hr' k i
      have hln := wayR_len s r k i
      obtain ⟨l1, hl1⟩ : ∃ v, v = (Dt.wayR shaB s r k i).1 := ⟨_, rfl⟩
      obtain ⟨v1, hv1⟩ : ∃ v, v = (Dt.wayR shaB s r k i).2 := ⟨_, rfl⟩
      rw [← hl1, ← hv1] at hrec HV
      rw [← hl1] at hsh hln
      rw [← hv1] at hvs
      have hl2 : [Dt.nodeS v1 x].length + l1.length ≤ 1000 := by simp; omega
      have HREC := Lib.hid hrec
      have HSH := Lib.hid hsh
      clear hk hT ih ih' hS hsp hS' hrec hone hm hr hr' hl1 hv1 hsh hln
      rw [HV.out]
      clear HV
      go_enter Tryd.func31, Tryd.ntmps31
      go_wp2_with fail
      refine HSP.out.mono ?_
      rintro e w' ⟨rfl, rfl⟩
      go_wp2_with fail
      refine HREC.out.mono ?_
      rintro e w1 ⟨u1, rfl, ho1, hB1⟩
      have HA : Hid (∀ o, Below w1.heap.size w1 (w1.alloc o)) := Lib.hid (fun o => (Below.refl _ w1).alloc (Nat.le_refl _) o)
      have HL : Hid (∀ o, ListAt (w1.alloc o) u1 l1) := Lib.hid (fun o => (ho1.below (HA.out o)).list HSH.out)
      have HB1 := Lib.hid hB1
      clear hB1 ho1
      go_wp2_with (refine wpList_append_list rfl (.tmp 57) (.tmp 58) rfl w1.heap.size _ u1 [Dt.nodeS v1 x] l1 rfl (OwnL.one (Nat.le_refl _) _) rfl (HL.out _) hl2 (HA.out _).size ?_; intro u2 w2 ho2 hB2)
      have HB2 := Lib.hid (HB1.out.trans (((HA.out _).trans (hB2.mono (Nat.le_refl _))).mono HB1.out.size))
      refine (Node_any _ _ _ (HT.out.below HB2.out) (by omega)).mono ?_
      rintro e w3 ⟨rfl, hB3⟩
      have HO3 := Lib.hid ((ho2.below hB3).mono HB1.out.size)
      have HB3 := Lib.hid (HB2.out.trans (hB3.mono HB2.out.size))
      clear ho2 hB2 hB3
      go_wp2_with fail
      go_ret2
      exact ⟨_, rfl, HO3.out, HB3.out⟩
    · have HV : Hid (Dt.wayR shaB s (x :: r) n i = (Dt.nodeS x (Dt.wayR shaB s r (n - k) (i - k)).2 :: (Dt.wayR shaB s r (n - k) (i - k)).1, Dt.node shaB x (Dt.wayR shaB s r (n - k) (i - k)).2)) := Lib.hid (by rw [Dt.wayR_right shaB _ _ _ (by omega) (by rw [← hk]; exact hik), hk])
      have hrec := ih' (n - k) (i - k) b off cap w (by omega) (by omega) (by omega) (by omega) hcm hS' hb hT
      have hvs := wayR_size s r (n - k) (i - k)
      have hsh := wayR_short s hs r hr' (n - k) (i - k)
      have hln := wayR_len s r (n - k) (i - k)
      obtain ⟨l1, hl1⟩ : ∃ v, v = (Dt.wayR shaB s r (n - k) (i - k)).1 := ⟨_, rfl⟩
      obtain ⟨v1, hv1⟩ : ∃ v, v = (Dt.wayR shaB s r (n - k) (i - k)).2 := ⟨_, rfl⟩
      rw [← hl1, ← hv1, show ((n - k : Nat) : Int) = (n : Int) - k by omega, show ((i - k : Nat) : Int) = (i : Int) - k by omega] at hrec
      rw [← hl1, ← hv1] at HV
      rw [← hl1] at hsh hln
      rw [← hv1] at hvs
      have hl2 : [Dt.nodeS x v1].length + l1.length ≤ 1000 := by simp; omega
      have HREC := Lib.hid hrec
      have HSH := Lib.hid hsh
      clear hk hT ih ih' hS hsp hS' hrec hone hm hr hr' hl1 hv1 hsh hln
      rw [HV.out]
      clear HV
      go_enter Tryd.func31, Tryd.ntmps31
      go_wp2_with fail
      refine HSP.out.mono ?_
      rintro e w' ⟨rfl, rfl⟩
      go_wp2_with fail
      refine HREC.out.mono ?_
      rintro e w1 ⟨u1, rfl, ho1, hB1⟩
      have HA : Hid (∀ o, Below w1.heap.size w1 (w1.alloc o)) := Lib.hid (fun o => (Below.refl _ w1).alloc (Nat.le_refl _) o)
      have HL : Hid (∀ o, ListAt (w1.alloc o) u1 l1) := Lib.hid (fun o => (ho1.below (HA.out o)).list HSH.out)
      have HB1 := Lib.hid hB1
      clear hB1 ho1
      go_wp2_with (refine wpList_append_list rfl (.tmp 79) (.tmp 80) rfl w1.heap.size _ u1 [Dt.nodeS x v1] l1 rfl (OwnL.one (Nat.le_refl _) _) rfl (HL.out _) hl2 (HA.out _).size ?_; intro u2 w2 ho2 hB2)
      have HB2 := Lib.hid (HB1.out.trans (((HA.out _).trans (hB2.mono (Nat.le_refl _))).mono HB1.out.size))
      refine (Node_any _ _ _ (HT.out.below HB2.out) (by omega)).mono ?_
      rintro e w3 ⟨rfl, hB3⟩
      have HO3 := Lib.hid ((ho2.below hB3).mono HB1.out.size)
      have HB3 := Lib.hid (HB2.out.trans (hB3.mono HB2.out.size))
      clear ho2 hB2 hB3
      go_wp2_with fail
      go_ret2
      exact ⟨_, rfl, HO3.out, HB3.out⟩

theorem way_raw (s : ByteArray) (hs : s.size ≤ 500) (r : List ByteArray) : (∀ x ∈ r, x.size ≤ 500) → r.length ≤ 500 → WayC s r := by
  induction r with
  | nil => intro _ _ n i b off cap w h1 _ _ _ _ _ _ hT; exact way_stop s hs n i _ _ cap w (.inr rfl) hT
  | cons x r ih => intro hr hl; exact way_cons s x hs r hr (by simp at hl; omega) (ih (fun y hy => hr y (by simp [hy])) (by simp at hl; omega))
theorem way_any (s : ByteArray) (p : List ByteArray) (v : Value) (n i : Nat) (w : World) (hs : s.size ≤ 500) (hp : ∀ x ∈ p, x.size ≤ 500) (hpl : p.length ≤ 500) (h1 : 1 ≤ n) (h2 : i < n) (h3 : n ≤ 9223372036854775807) (hP : ListAt w v p) (hT : Tabs w) :
    Calls Tryd.prog 31 #[.int .i64 n, .int .i64 i, .string s, v] w fun e w' => ∃ v, e = .returned (.tuple #[v, .string (Dt.wayR shaB s p.reverse n i).2]) ∧ OwnL w' w.heap.size v (Dt.wayR shaB s p.reverse n i).1 ∧ Below w.heap.size w w' := by
  obtain ⟨hsh, ⟨a, c, rfl, rfl⟩ | ⟨b, off, cap, rfl, k1, k2, k3, k4, k5⟩⟩ := hP
  · exact way_stop s hs n i a 0 c w (.inr rfl) hT
  · have := way_raw s hs p.reverse (fun x hx => hp x (by simpa using hx)) (by simpa using hpl) n i b off cap w h1 h2 h3 (by simpa using k2) k3 (by simpa using k4) k5 hT
    rw [List.length_reverse] at this
    exact this
end Go.Proofs.YtlnlhjkdbpkaiaaDoor
