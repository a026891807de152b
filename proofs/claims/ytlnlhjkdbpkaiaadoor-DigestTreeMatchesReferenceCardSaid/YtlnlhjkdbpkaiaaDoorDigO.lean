/- values returns what the plain definition says. Conditions: the proof is readable; its strings and the old root have at most 1000 bytes. -/
import Derived.Test.YtlnlhjkdbpkaiaaDoorDigN
namespace Go.Proofs.YtlnlhjkdbpkaiaaDoor
open Go.RowKit

theorem vals_le (old : ByteArray) (ho : old.size ≤ 1000) (r : List ByteArray) : (∀ x ∈ r, x.size ≤ 1000) → ∀ (m n : Nat) (whole : Bool), (Dt.valsR shaB old r m n whole).1.size ≤ 1000 ∧ (Dt.valsR shaB old r m n whole).2.1.size ≤ 1000 := by
  induction r with
  | nil =>
    intro _ m n whole
    by_cases h : m = n ∧ whole = true
    · obtain ⟨rfl, rfl⟩ := h; rw [Dt.valsR_whole]; exact ⟨ho, ho⟩
    · rw [Dt.valsR_none shaB old h]; exact ⟨by decide, by decide⟩
  | cons x r ih =>
    intro hr m n whole
    by_cases h : m = n
    · subst h
      cases whole with
      | true => rw [Dt.valsR_whole]; exact ⟨ho, ho⟩
      | false =>
        rw [Dt.valsR_part]
        have : ((x :: r).getLastD x).size ≤ 1000 := hr _ (by rw [List.getLastD_eq_getLast?, List.getLast?_eq_some_getLast (by simp)]; exact List.getLast_mem _)
        exact ⟨this, this⟩
    · have hs : ∀ a b : ByteArray, (Dt.node shaB a b).size ≤ 1000 := fun a b => by show (shaB _).size ≤ 1000; rw [shaB_size]; decide
      by_cases hk : m ≤ Dt.lk n
      · rw [Dt.valsR_left shaB _ _ _ _ h hk]; exact ⟨(ih (fun y hy => hr y (by simp [hy])) _ _ _).1, hs _ _⟩
      · rw [Dt.valsR_right shaB _ _ _ _ h hk]; exact ⟨hs _ _, hs _ _⟩

set_option maxRecDepth 100000 in
set_option maxHeartbeats 4000000 in
theorem values_nil (old : ByteArray) (m n : Nat) (a : Option Addr) (c : Nat) (whole : Bool) (w : World) :
    Calls Tryd.prog 47 #[.string old, .int .i64 m, .int .i64 n, .slice a 0 c, .bool whole] w fun e w' => e = .returned (.tuple #[.string (Dt.valsR shaB old [] m n whole).1, .string (Dt.valsR shaB old [] m n whole).2.1, .bool (Dt.valsR shaB old [] m n whole).2.2]) ∧ Below w.heap.size w w' := by
  by_cases h : m = n
  · subst h
    cases whole with
    | true =>
      rw [Dt.valsR_whole]
      go_enter Tryd.func47, Tryd.ntmps47
      go_wp2_with fail
      go_ret3
      exact ⟨rfl, Below.refl _ _⟩
    | false =>
      rw [Dt.valsR_none shaB old (by simp)]
      go_enter Tryd.func47, Tryd.ntmps47
      go_wp2_with fail
      go_ret3
      exact ⟨rfl, Below.refl _ _⟩
  · have q1 : ((m : Int) == (n : Int)) = false := by simp; omega
    rw [Dt.valsR_none shaB old (fun e => h e.1)]
    clear h
    go_enter Tryd.func47, Tryd.ntmps47
    go_wp2_with fail
    go_ret3
    exact ⟨rfl, Below.refl _ _⟩

set_option maxRecDepth 100000 in
set_option maxHeartbeats 4000000 in
theorem values_cons (old x : ByteArray) (ho : old.size ≤ 1000) (r : List ByteArray) (hr : ∀ y ∈ (x :: r), y.size ≤ 1000)
    (ih : ∀ (m n : Nat) (whole : Bool) (b off cap : Nat) (w : World), 1 ≤ m → m ≤ n → n ≤ 9223372036854775807 → r.length ≤ cap → cap ≤ 9223372036854775807 → StrsAt w b off r.reverse → b < w.heap.size → Tabs w →
      Calls Tryd.prog 47 #[.string old, .int .i64 m, .int .i64 n, .slice (some ⟨b, off, none⟩) r.length cap, .bool whole] w fun e w' => e = .returned (.tuple #[.string (Dt.valsR shaB old r m n whole).1, .string (Dt.valsR shaB old r m n whole).2.1, .bool (Dt.valsR shaB old r m n whole).2.2]) ∧ Below w.heap.size w w')
    (m n : Nat) (whole : Bool) (b off cap q : Nat) (w : World) (h1 : 1 ≤ m) (hmn : m ≤ n) (hmax : n ≤ 9223372036854775807) (hq : q = r.length) (hcap : q + 1 ≤ cap) (hcm : cap ≤ 9223372036854775807) (hS : StrsAt w b off (x :: r).reverse) (hb : b < w.heap.size) (hT : Tabs w) :
    Calls Tryd.prog 47 #[.string old, .int .i64 m, .int .i64 n, .slice (some ⟨b, off, none⟩) (q + 1) cap, .bool whole] w fun e w' => e = .returned (.tuple #[.string (Dt.valsR shaB old (x :: r) m n whole).1, .string (Dt.valsR shaB old (x :: r) m n whole).2.1, .bool (Dt.valsR shaB old (x :: r) m n whole).2.2]) ∧ Below w.heap.size w w' := by
  have HT := Lib.hid hT
  have HQ := Lib.hid hq
  by_cases hall : m = n
  · subst hall
    cases whole with
    | true =>
      rw [Dt.valsR_whole]
      clear ih hS hT hq hr
      go_enter Tryd.func47, Tryd.ntmps47
      go_wp2_with fail
      go_ret3
      exact ⟨rfl, Below.refl _ _⟩
    | false =>
      have hc := hS 0 (by simp)
      rw [Nat.add_zero, show (x :: r).reverse.getD 0 ByteArray.empty = (x :: r).getLastD x by
        rw [List.getLastD_eq_getLast?, ← List.head?_reverse, List.head?_eq_getElem?, List.getD]
        rw [List.getElem?_eq_getElem (by simp)]; rfl] at hc
      have HV : Hid (Dt.valsR shaB old (x :: r) m m false = ((x :: r).getLastD x, (x :: r).getLastD x, r.isEmpty)) := Lib.hid (Dt.valsR_part shaB old x r m)
      obtain ⟨y, hy⟩ : ∃ y, y = (x :: r).getLastD x := ⟨_, rfl⟩
      rw [← hy] at hc HV
      have HE : Hid (r.isEmpty = ((q : Int) == 0)) := Lib.hid (by
        cases r with
        | nil => simp at hq; subst hq; rfl
        | cons z r => have : ((q : Int) == 0) = false := by simp at hq ⊢; omega
                      rw [this]; rfl)
      clear ih hS hT hq hr hy
      go_enter Tryd.func47, Tryd.ntmps47
      go_wp2_with fail
      go_quiet (fail)
      go_wp2_with fail
      go_ret3
      exact ⟨by rw [HV.out, HE.out]; rfl, ⟨rfl, rfl, rfl, Nat.le_refl _, fun _ _ => rfl⟩⟩
  · obtain ⟨k, hk⟩ : ∃ k, k = Dt.lk n := ⟨_, rfl⟩
    have hk1 : 1 ≤ k := by rw [hk]; exact Dt.lk_pos n
    have hk2 : k < n := by rw [hk]; exact Dt.lk_lt (by omega)
    have hsp : ∀ W, Calls Tryd.prog 44 #[.int .i64 n] W fun e w' => e = .returned (.int .i64 (k : Nat)) ∧ W = w' := fun W => by rw [hk]; exact split_any n W (by omega) hmax
    have HSP := Lib.hid hsp
    have q1 : ((m : Int) == (n : Int)) = false := by simp; omega
    have hc : w.cell? ⟨b, off + q, none⟩ = some (.string x) := by
      have := hS q (by simp [hq])
      rw [this]
      simp [List.getD, hq]
    have hS' : StrsAt w b off r.reverse := by
      have := hS.take q
      rw [List.reverse_cons, List.take_left' (by simp [hq])] at this
      exact this
    have hc2 := hc
    have hx : x.size ≤ 1000 := hr x (by simp)
    have q2 : (q : Int) ≤ (cap : Int) := by omega
    have q3 : 0 ≤ (q : Int) := by omega
    have q4 : ¬ cap = q := by omega
    have q5 : (q : Int) ≤ (q : Int) + 1 := by omega
    have q6 : (q : Int) < (q : Int) + 1 := by omega
    by_cases hmk : m ≤ k
    · have HV : Hid (Dt.valsR shaB old (x :: r) m n whole = ((Dt.valsR shaB old r m k whole).1, Dt.node shaB (Dt.valsR shaB old r m k whole).2.1 x, (Dt.valsR shaB old r m k whole).2.2)) := Lib.hid (by rw [Dt.valsR_left shaB _ _ _ _ hall (by rw [← hk]; exact hmk), hk])
      have q7 : (m : Int) ≤ (k : Int) := by omega
      have hrec := fun (W : World) (hW : Below w.heap.size w W) => ih m k whole b off cap W h1 hmk (by omega) (by omega) hcm (hS'.below hW hb) (Nat.lt_of_lt_of_le hb hW.size) (hT.below hW)
      rw [← hq] at hrec
      have HREC := Lib.hid hrec
      have hle := vals_le old ho r (fun y hy => hr y (by simp [hy])) m k whole
      obtain ⟨v1, hv1⟩ : ∃ v, v = (Dt.valsR shaB old r m k whole).1 := ⟨_, rfl⟩
      obtain ⟨v2, hv2⟩ : ∃ v, v = (Dt.valsR shaB old r m k whole).2.1 := ⟨_, rfl⟩
      obtain ⟨v3, hv3⟩ : ∃ v, v = (Dt.valsR shaB old r m k whole).2.2 := ⟨_, rfl⟩
      rw [← hv1, ← hv2] at hle
      rw [← hv1, ← hv2, ← hv3] at HREC HV
      obtain ⟨hle1, hle2⟩ := hle
      clear hk hT ih hS hsp hS' hrec hall hq hc hv1 hv2 hv3 hr
      rw [HV.out]
      go_enter Tryd.func47, Tryd.ntmps47
      go_wp2_with fail
      go_quiet ((go_at_call 44; exact Calls.quiet_of_same ((HSP.out _).mono fun _ _ ⟨h1, h2⟩ => ⟨h1, h2.symm⟩)))
      have hWq : Below w.heap.size w (w.drewN nq) := ⟨rfl, rfl, rfl, Nat.le_refl _, fun _ _ => rfl⟩
      have HWQ := Lib.hid hWq
      clear hWq
      go_wp2_with fail
      refine (HREC.out _ HWQ.out).mono ?_
      rintro e w1 ⟨rfl, hB1⟩
      have HB1 := Lib.hid (HWQ.out.trans (hB1.mono HWQ.out.size))
      clear hB1
      go_wp2_with fail
      refine (Node_any _ _ _ (HT.out.below HB1.out) (by omega)).mono ?_
      rintro e w2 ⟨rfl, hB2⟩
      go_wp2_with fail
      go_ret3
      exact ⟨rfl, HB1.out.trans (hB2.mono HB1.out.size)⟩
    · have HV : Hid (Dt.valsR shaB old (x :: r) m n whole = (Dt.node shaB x (Dt.valsR shaB old r (m - k) (n - k) false).1, Dt.node shaB x (Dt.valsR shaB old r (m - k) (n - k) false).2.1, (Dt.valsR shaB old r (m - k) (n - k) false).2.2)) := Lib.hid (by rw [Dt.valsR_right shaB _ _ _ _ hall (by rw [← hk]; exact hmk), hk])
      have q7 : ¬ (m : Int) ≤ (k : Int) := by omega
      have hrec := fun (W : World) (hW : Below w.heap.size w W) => ih (m - k) (n - k) false b off cap W (by omega) (by omega) (by omega) (by omega) hcm (hS'.below hW hb) (Nat.lt_of_lt_of_le hb hW.size) (hT.below hW)
      rw [← hq, show ((m - k : Nat) : Int) = (m : Int) - k by omega, show ((n - k : Nat) : Int) = (n : Int) - k by omega] at hrec
      have HREC := Lib.hid hrec
      have hle := vals_le old ho r (fun y hy => hr y (by simp [hy])) (m - k) (n - k) false
      obtain ⟨v1, hv1⟩ : ∃ v, v = (Dt.valsR shaB old r (m - k) (n - k) false).1 := ⟨_, rfl⟩
      obtain ⟨v2, hv2⟩ : ∃ v, v = (Dt.valsR shaB old r (m - k) (n - k) false).2.1 := ⟨_, rfl⟩
      obtain ⟨v3, hv3⟩ : ∃ v, v = (Dt.valsR shaB old r (m - k) (n - k) false).2.2 := ⟨_, rfl⟩
      rw [← hv1, ← hv2] at hle
      rw [← hv1, ← hv2, ← hv3] at HREC HV
      obtain ⟨hle1, hle2⟩ := hle
      clear hk hT ih hS hsp hS' hrec hall hq hc hv1 hv2 hv3 hr
      rw [HV.out]
      go_enter Tryd.func47, Tryd.ntmps47
      go_wp2_with fail
      go_quiet ((go_at_call 44; exact Calls.quiet_of_same ((HSP.out _).mono fun _ _ ⟨h1, h2⟩ => ⟨h1, h2.symm⟩)))
      have hWq : Below w.heap.size w (w.drewN nq) := ⟨rfl, rfl, rfl, Nat.le_refl _, fun _ _ => rfl⟩
      have HWQ := Lib.hid hWq
      clear hWq
      go_wp2_with fail
      refine (HREC.out _ HWQ.out).mono ?_
      rintro e w1 ⟨rfl, hB1⟩
      have HB1 := Lib.hid (HWQ.out.trans (hB1.mono HWQ.out.size))
      clear hB1
      go_wp2_with fail
      refine (Node_any _ _ _ (HT.out.below HB1.out) (by omega)).mono ?_
      rintro e w2 ⟨rfl, hB2⟩
      have HB2 := Lib.hid (HB1.out.trans (hB2.mono HB1.out.size))
      clear hB2
      go_wp2_with fail
      refine (Node_any _ _ _ (HT.out.below HB2.out) (by omega)).mono ?_
      rintro e w3 ⟨rfl, hB3⟩
      go_wp2_with fail
      go_ret3
      exact ⟨rfl, HB2.out.trans (hB3.mono HB2.out.size)⟩
end Go.Proofs.YtlnlhjkdbpkaiaaDoor
