/- sides returns the strings that are digested for the new root of an extension, in new memory, and the value. Conditions: the proof is readable; its strings and the old root have at most 400 bytes; the beginning is not empty and no longer than the list. -/
import Derived.Test.YtlnlhjkdbpkaiaaDoorDigWay
namespace Go.Proofs.YtlnlhjkdbpkaiaaDoor
open Go.RowKit

theorem sidesR_size (old : ByteArray) (ho : old.size ≤ 400) (r : List ByteArray) : (∀ x ∈ r, x.size ≤ 400) → ∀ (m n : Nat) (whole : Bool), (Dt.sidesR shaB old r m n whole).2.size ≤ 400 := by
  cases r with
  | nil => intro _ m n whole; exact ho
  | cons x r =>
    intro hr m n whole
    by_cases h : n ≤ m
    · rw [Dt.sidesR, if_pos h]
      cases whole with
      | true => exact ho
      | false => exact hr _ (by rw [List.getLastD_eq_getLast?, List.getLast?_eq_some_getLast (by simp)]; exact List.getLast_mem _)
    · by_cases hk : m ≤ Dt.lk n
      · rw [Dt.sidesR_left shaB _ _ _ _ (by omega) hk]; show (shaB _).size ≤ 400; rw [shaB_size]; decide
      · rw [Dt.sidesR_right shaB _ _ _ _ (by omega) hk]; show (shaB _).size ≤ 400; rw [shaB_size]; decide
theorem sidesR_len (old : ByteArray) (r : List ByteArray) : ∀ (m n : Nat) (whole : Bool), (Dt.sidesR shaB old r m n whole).1.length ≤ r.length := by
  induction r with
  | nil => intro m n whole; exact Nat.le_refl _
  | cons x r ih =>
    intro m n whole
    by_cases h : n ≤ m
    · rw [Dt.sidesR, if_pos h]; cases whole <;> simp
    · by_cases hk : m ≤ Dt.lk n
      · rw [Dt.sidesR_left shaB _ _ _ _ (by omega) hk]; have := ih m (Dt.lk n) whole; simp; omega
      · rw [Dt.sidesR_right shaB _ _ _ _ (by omega) hk]; have := ih (m - Dt.lk n) (n - Dt.lk n) false; simp; omega
theorem sidesR_short (old : ByteArray) (ho : old.size ≤ 400) (r : List ByteArray) : (∀ x ∈ r, x.size ≤ 400) → ∀ (m n : Nat) (whole : Bool), Short (Dt.sidesR shaB old r m n whole).1 := by
  induction r with
  | nil => intro _ m n whole y hy; cases hy
  | cons x r ih =>
    intro hr m n whole
    have hx := hr x (by simp)
    have hr' : ∀ y ∈ r, y.size ≤ 400 := fun y hy => hr y (by simp [hy])
    by_cases h : n ≤ m
    · rw [Dt.sidesR, if_pos h]; cases whole <;> (intro y hy; cases hy)
    · by_cases hk : m ≤ Dt.lk n
      · rw [Dt.sidesR_left shaB _ _ _ _ (by omega) hk]
        intro y hy
        rcases List.mem_cons.1 hy with rfl | hy
        · have := sidesR_size old ho r hr' m (Dt.lk n) whole; rw [nodeS_size]; omega
        · exact ih hr' _ _ _ y hy
      · rw [Dt.sidesR_right shaB _ _ _ _ (by omega) hk]
        intro y hy
        rcases List.mem_cons.1 hy with rfl | hy
        · have := sidesR_size old ho r hr' (m - Dt.lk n) (n - Dt.lk n) false; rw [nodeS_size]; omega
        · exact ih hr' _ _ _ y hy

set_option maxRecDepth 100000 in
set_option maxHeartbeats 4000000 in
theorem sides_nil (old : ByteArray) (m n : Nat) (a : Option Addr) (c : Nat) (whole : Bool) (w : World) :
    Calls Tryd.prog 34 #[.string old, .int .i64 m, .int .i64 n, .slice a 0 c, .bool whole] w fun e w' => ∃ v, e = .returned (.tuple #[v, .string old]) ∧ OwnL w' w.heap.size v [] ∧ Below w.heap.size w w' := by
  by_cases h : (n : Int) ≤ (m : Int)
  · cases whole with
    | true =>
      go_enter Tryd.func34, Tryd.ntmps34
      go_wp2_with fail
      go_ret2
      exact ⟨_, rfl, OwnL.nil _ _, Below.refl _ _⟩
    | false =>
      go_enter Tryd.func34, Tryd.ntmps34
      go_wp2_with fail
      go_ret2
      exact ⟨_, rfl, OwnL.nil _ _, Below.refl _ _⟩
  · cases whole with
    | true =>
      go_enter Tryd.func34, Tryd.ntmps34
      go_wp2_with fail
      go_ret2
      exact ⟨_, rfl, OwnL.nil _ _, Below.refl _ _⟩
    | false =>
      go_enter Tryd.func34, Tryd.ntmps34
      go_wp2_with fail
      go_ret2
      exact ⟨_, rfl, OwnL.nil _ _, Below.refl _ _⟩

def SidesC (old : ByteArray) (r : List ByteArray) : Prop := ∀ (m n : Nat) (whole : Bool) (b off cap : Nat) (w : World), 1 ≤ m → m ≤ n → n ≤ 9223372036854775807 → r.length ≤ cap → cap ≤ 9223372036854775807 → StrsAt w b off r.reverse → b < w.heap.size → Tabs w →
  Calls Tryd.prog 34 #[.string old, .int .i64 m, .int .i64 n, .slice (some ⟨b, off, none⟩) r.length cap, .bool whole] w fun e w' => ∃ v, e = .returned (.tuple #[v, .string (Dt.sidesR shaB old r m n whole).2]) ∧ OwnL w' w.heap.size v (Dt.sidesR shaB old r m n whole).1 ∧ Below w.heap.size w w'

set_option maxRecDepth 100000 in
set_option maxHeartbeats 8000000 in
theorem sides_cons (old x : ByteArray) (ho : old.size ≤ 400) (r : List ByteArray) (hr : ∀ y ∈ x :: r, y.size ≤ 400) (hrl : r.length ≤ 500) (ih : SidesC old r) : SidesC old (x :: r) := by
  intro m n whole b off cap w h1 hin hmax hcap hcm hS hb hT
  have hx := hr x (by simp)
  have hr' : ∀ y ∈ r, y.size ≤ 400 := fun y hy => hr y (by simp [hy])
  have ih' : SidesC old r := ih
  unfold SidesC at ih'
  obtain ⟨q, hq⟩ : ∃ q, q = r.length := ⟨_, rfl⟩
  rw [List.length_cons] at hcap ⊢
  rw [← hq] at hcap hrl ih' ⊢
  have HT := Lib.hid hT
  have q0 : ((q : Int) + 1 == 0) = false := by simp; omega
  by_cases hall : n = m
  · subst hall
    cases whole with
    | true =>
      have HV : Hid (Dt.sidesR shaB old (x :: r) n n true = ([], old)) := Lib.hid (by simp [Dt.sidesR])
      clear ih ih' hS hT hq hr hr'
      rw [HV.out]
      go_enter Tryd.func34, Tryd.ntmps34
      go_wp2_with fail
      go_ret2
      exact ⟨_, rfl, OwnL.nil _ _, Below.refl _ _⟩
    | false =>
      have hc := hS 0 (by simp)
      rw [Nat.add_zero, show (x :: r).reverse.getD 0 ByteArray.empty = (x :: r).getLastD x by
        rw [List.getLastD_eq_getLast?, ← List.head?_reverse, List.head?_eq_getElem?, List.getD]
        rw [List.getElem?_eq_getElem (by simp)]; rfl] at hc
      have HV : Hid (Dt.sidesR shaB old (x :: r) n n false = ([], (x :: r).getLastD x)) := Lib.hid (by simp [Dt.sidesR])
      obtain ⟨y, hy⟩ : ∃ y, y = (x :: r).getLastD x := ⟨_, rfl⟩
      rw [← hy] at hc HV
      clear ih ih' hS hT hq hr hr' hy
      rw [HV.out]
      go_enter Tryd.func34, Tryd.ntmps34
      go_wp2_with fail
      go_quiet (fail)
      go_wp2_with fail
      go_ret2
      exact ⟨_, rfl, OwnL.nil _ _, ⟨rfl, rfl, rfl, Nat.le_refl _, fun _ _ => rfl⟩⟩
  · obtain ⟨k, hk⟩ : ∃ k, k = Dt.lk n := ⟨_, rfl⟩
    have hk1 : 1 ≤ k := by rw [hk]; exact Dt.lk_pos n
    have hk2 : k < n := by rw [hk]; exact Dt.lk_lt (by omega)
    have hsp : Calls Tryd.prog 35 #[.int .i64 n] w fun e w' => e = .returned (.int .i64 (k : Nat)) ∧ w = w' := by rw [hk]; exact left_any n w (by omega) hmax
    have HSP := Lib.hid hsp
    have q1 : ¬ (n : Int) ≤ (m : Int) := by omega
    have hc : w.cell? ⟨b, off + q, none⟩ = some (.string x) := by
      have := hS q (by simp [hq])
      rw [this]
      simp [List.getD, hq]
    have hS' : StrsAt w b off r.reverse := by
      have := hS.take q
      rw [List.reverse_cons, List.take_left' (by simp [hq])] at this
      exact this
    have q2 : (q : Int) ≤ (cap : Int) := by omega
    have q3 : 0 ≤ (q : Int) := by omega
    have q4 : ¬ cap = q := by omega
    by_cases hik : m ≤ k
    · have HV : Hid (Dt.sidesR shaB old (x :: r) m n whole = (Dt.nodeS (Dt.sidesR shaB old r m k whole).2 x :: (Dt.sidesR shaB old r m k whole).1, Dt.node shaB (Dt.sidesR shaB old r m k whole).2 x)) := Lib.hid (by rw [Dt.sidesR_left shaB _ _ _ _ (by omega) (by rw [← hk]; exact hik), hk])
      have hrec := ih' m k whole b off cap w h1 hik (by omega) (by omega) hcm hS' hb hT
      have hvs := sidesR_size old ho r hr' m k whole
      have hsh := sidesR_short old ho r hr' m k whole
      have hln := sidesR_len old r m k whole
      obtain ⟨l1, hl1⟩ : ∃ v, v = (Dt.sidesR shaB old r m k whole).1 := ⟨_, rfl⟩
      obtain ⟨v1, hv1⟩ : ∃ v, v = (Dt.sidesR shaB old r m k whole).2 := ⟨_, rfl⟩
      rw [← hl1, ← hv1] at hrec
      rw [← hl1, ← hv1] at HV
      rw [← hl1] at hsh hln
      rw [← hv1] at hvs
      have hl2 : [Dt.nodeS v1 x].length + l1.length ≤ 1000 := by simp; omega
      have HREC := Lib.hid hrec
      have HSH := Lib.hid hsh
      clear hk hT ih ih' hS hsp hS' hrec hall hq hr hr' hl1 hv1 hsh hln
      rw [HV.out]
      clear HV
      go_enter Tryd.func34, Tryd.ntmps34
      go_wp2_with fail
      refine HSP.out.mono ?_
      rintro e w' ⟨rfl, rfl⟩
      go_wp2_with fail
      refine HREC.out.mono ?_
      rintro e w1 ⟨u1, rfl, ho1, hB1⟩
      have HA : Hid (∀ o, Below w1.heap.size w1 (w1.alloc o)) := Lib.hid (fun o => (Below.refl _ w1).alloc (Nat.le_refl _) o)
      have HL : Hid (∀ o, ListAt (w1.alloc o) u1 l1) := Lib.hid (fun o => (ho1.below (HA.out o)).list HSH.out)
      have HB1 := Lib.hid hB1
      clear hB1 ho1
      go_wp2_with (refine wpList_append_list rfl (.tmp 66) (.tmp 67) rfl w1.heap.size _ u1 [Dt.nodeS v1 x] l1 rfl (OwnL.one (Nat.le_refl _) _) rfl (HL.out _) hl2 (HA.out _).size ?_; intro u2 w2 ho2 hB2)
      have HB2 := Lib.hid (HB1.out.trans (((HA.out _).trans (hB2.mono (Nat.le_refl _))).mono HB1.out.size))
      refine (Node_any _ _ _ (HT.out.below HB2.out) (by omega)).mono ?_
      rintro e w3 ⟨rfl, hB3⟩
      have HO3 := Lib.hid ((ho2.below hB3).mono HB1.out.size)
      have HB3 := Lib.hid (HB2.out.trans (hB3.mono HB2.out.size))
      clear ho2 hB2 hB3
      go_wp2_with fail
      go_ret2
      exact ⟨_, rfl, HO3.out, HB3.out⟩
    · have hik' : ¬ (m : Int) ≤ (k : Int) := by omega
      have HV : Hid (Dt.sidesR shaB old (x :: r) m n whole = (Dt.nodeS x (Dt.sidesR shaB old r (m - k) (n - k) false).2 :: (Dt.sidesR shaB old r (m - k) (n - k) false).1, Dt.node shaB x (Dt.sidesR shaB old r (m - k) (n - k) false).2)) := Lib.hid (by rw [Dt.sidesR_right shaB _ _ _ _ (by omega) (by rw [← hk]; exact hik), hk])
      have hrec := ih' (m - k) (n - k) false b off cap w (by omega) (by omega) (by omega) (by omega) hcm hS' hb hT
      have hvs := sidesR_size old ho r hr' (m - k) (n - k) false
      have hsh := sidesR_short old ho r hr' (m - k) (n - k) false
      have hln := sidesR_len old r (m - k) (n - k) false
      obtain ⟨l1, hl1⟩ : ∃ v, v = (Dt.sidesR shaB old r (m - k) (n - k) false).1 := ⟨_, rfl⟩
      obtain ⟨v1, hv1⟩ : ∃ v, v = (Dt.sidesR shaB old r (m - k) (n - k) false).2 := ⟨_, rfl⟩
      rw [← hl1, ← hv1, show ((n - k : Nat) : Int) = (n : Int) - k by omega, show ((m - k : Nat) : Int) = (m : Int) - k by omega] at hrec
      rw [← hl1, ← hv1] at HV
      rw [← hl1] at hsh hln
      rw [← hv1] at hvs
      have hl2 : [Dt.nodeS x v1].length + l1.length ≤ 1000 := by simp; omega
      have HREC := Lib.hid hrec
      have HSH := Lib.hid hsh
      clear hk hT ih ih' hS hsp hS' hrec hall hq hr hr' hl1 hv1 hsh hln
      rw [HV.out]
      clear HV
      go_enter Tryd.func34, Tryd.ntmps34
      go_wp2_with fail
      refine HSP.out.mono ?_
      rintro e w' ⟨rfl, rfl⟩
      go_wp2_with fail
      refine HREC.out.mono ?_
      rintro e w1 ⟨u1, rfl, ho1, hB1⟩
      have HA : Hid (∀ o, Below w1.heap.size w1 (w1.alloc o)) := Lib.hid (fun o => (Below.refl _ w1).alloc (Nat.le_refl _) o)
      have HL : Hid (∀ o, ListAt (w1.alloc o) u1 l1) := Lib.hid (fun o => (ho1.below (HA.out o)).list HSH.out)
      have HB1 := Lib.hid hB1
      clear hB1 ho1
      go_wp2_with (refine wpList_append_list rfl (.tmp 88) (.tmp 89) rfl w1.heap.size _ u1 [Dt.nodeS x v1] l1 rfl (OwnL.one (Nat.le_refl _) _) rfl (HL.out _) hl2 (HA.out _).size ?_; intro u2 w2 ho2 hB2)
      have HB2 := Lib.hid (HB1.out.trans (((HA.out _).trans (hB2.mono (Nat.le_refl _))).mono HB1.out.size))
      refine (Node_any _ _ _ (HT.out.below HB2.out) (by omega)).mono ?_
      rintro e w3 ⟨rfl, hB3⟩
      have HO3 := Lib.hid ((ho2.below hB3).mono HB1.out.size)
      have HB3 := Lib.hid (HB2.out.trans (hB3.mono HB2.out.size))
      clear ho2 hB2 hB3
      go_wp2_with fail
      go_ret2
      exact ⟨_, rfl, HO3.out, HB3.out⟩
theorem sides_raw (old : ByteArray) (ho : old.size ≤ 400) (r : List ByteArray) : (∀ x ∈ r, x.size ≤ 400) → r.length ≤ 500 → SidesC old r := by
  induction r with
  | nil => intro _ _ m n whole b off cap w _ _ _ _ _ _ _ _; exact sides_nil old m n _ cap whole w
  | cons x r ih => intro hr hl; exact sides_cons old x ho r hr (by simp at hl; omega) (ih (fun y hy => hr y (by simp [hy])) (by simp at hl; omega))
theorem sides_any (old : ByteArray) (p : List ByteArray) (v : Value) (m n : Nat) (w : World) (ho : old.size ≤ 400) (hp : ∀ x ∈ p, x.size ≤ 400) (hpl : p.length ≤ 500) (h1 : 1 ≤ m) (h2 : m ≤ n) (h3 : n ≤ 9223372036854775807) (hP : ListAt w v p) (hT : Tabs w) :
    Calls Tryd.prog 34 #[.string old, .int .i64 m, .int .i64 n, v, .bool true] w fun e w' => ∃ v, e = .returned (.tuple #[v, .string (Dt.sidesR shaB old p.reverse m n true).2]) ∧ OwnL w' w.heap.size v (Dt.sidesR shaB old p.reverse m n true).1 ∧ Below w.heap.size w w' := by
  obtain ⟨hsh, ⟨a, c, rfl, rfl⟩ | ⟨b, off, cap, rfl, k1, k2, k3, k4, k5⟩⟩ := hP
  · exact sides_nil old m n a c true w
  · have := sides_raw old ho p.reverse (fun x hx => hp x (by simpa using hx)) (by simpa using hpl) m n true b off cap w h1 h2 h3 (by simpa using k2) k3 (by simpa using k4) k5 hT
    rw [List.length_reverse] at this
    exact this
end Go.Proofs.YtlnlhjkdbpkaiaaDoor
