/- extension and Extension return the proof of a beginning in new memory. Conditions: the list is readable, has at most 500 strings of at most 1000 bytes each. -/
import Derived.Test.YtlnlhjkdbpkaiaaDoorDigM
namespace Go.Proofs.YtlnlhjkdbpkaiaaDoor
open Go.RowKit

abbrev extB (l : List ByteArray) (m : Nat) (whole : Bool) : List ByteArray := Dt.ext shaB l m whole
theorem ext_le (l : List ByteArray) (m : Nat) (whole : Bool) (h1 : 1 ≤ m) (hm : m ≤ l.length) : (extB l m whole).length ≤ 2 * l.length := by
  have a := Dt.ext_bin shaB l m whole h1 hm
  have b := Dt.bin_le l.length
  unfold extB; omega
theorem ext_short (l : List ByteArray) (m : Nat) (whole : Bool) (h1 : 1 ≤ m) (hm : m ≤ l.length) : Short (extB l m whole) := fun x hx => by
  have := Dt.ext_digs shaB shaB_size l.length l m whole rfl h1 hm x hx
  omega
theorem OwnL.one {W : World} {base : Nat} (hb : base ≤ W.heap.size) (x : ByteArray) : OwnL (W.alloc (.cells #[.string x] 9)) base (.slice (some ⟨W.heap.size, 0, none⟩) 1 1) [x] :=
  ⟨rfl, .inr ⟨W.heap.size, 1, #[.string x], rfl, hb, heap_alloc_new W _, Nat.le_refl _, by unfold maxLen; omega, rfl, rfl⟩⟩

def ExtC (n : Nat) : Prop := ∀ (l : List ByteArray) (m b off cap : Nat) (whole : Bool) (w : World), l.length = n → n ≤ 500 → 1 ≤ m → m ≤ n → n ≤ cap → cap ≤ 9223372036854775807 → StrsAt w b off l → b < w.heap.size → Short l → Tabs w →
  Calls Tryd.prog 42 #[.slice (some ⟨b, off, none⟩) n cap, .int .i64 m, .bool whole] w fun e w' => ∃ v, e = .returned v ∧ OwnL w' w.heap.size v (extB l m whole) ∧ Below w.heap.size w w'

set_option maxRecDepth 100000 in
set_option maxHeartbeats 4000000 in
theorem ext_all_step (l : List ByteArray) (n b off cap : Nat) (whole : Bool) (w : World) (hn : l.length = n) (h1 : 1 ≤ n) (hmax : n ≤ 500) (hcap : n ≤ cap) (_hcm : cap ≤ 9223372036854775807) (hS : StrsAt w b off l) (hb : b < w.heap.size) (hsh : Short l) (hT : Tabs w) :
    Calls Tryd.prog 42 #[.slice (some ⟨b, off, none⟩) n cap, .int .i64 n, .bool whole] w fun e w' => ∃ v, e = .returned v ∧ OwnL w' w.heap.size v (extB l n whole) ∧ Below w.heap.size w w' := by
  have HROOT := Lib.hid (root_some n l b off cap w hn h1 hcap (by omega) hS hb hsh hT)
  have HV : Hid (extB l n whole = if whole then [] else [rootB l]) := Lib.hid (by rw [← hn]; exact Dt.ext_all shaB l whole)
  clear hS hsh hT hn
  cases whole with
  | true =>
    go_enter Tryd.func42, Tryd.ntmps42
    go_wp2_with fail
    go_ret
    exact ⟨_, rfl, by rw [HV.out]; exact OwnL.nil _ _, Below.refl _ _⟩
  | false =>
    go_enter Tryd.func42, Tryd.ntmps42
    go_wp2_with fail
    refine HROOT.out.mono ?_
    rintro e w1 ⟨rfl, hB⟩
    go_wp2_with fail
    go_ret
    exact ⟨_, rfl, by rw [HV.out]; exact OwnL.one hB.size _, below_alloc hB _⟩

set_option maxRecDepth 100000 in
set_option maxHeartbeats 4000000 in
theorem ext_step (n : Nat) (ih : ∀ m, m < n → ExtC m) : ExtC n := by
  intro l m b off cap whole w hn hmax h1 hmn hcap hcm hS hb hsh hT
  have HT := Lib.hid hT
  by_cases hall : m = n
  · subst hall
    exact ext_all_step l m b off cap whole w hn h1 hmax hcap hcm hS hb hsh hT
  · obtain ⟨k, hk⟩ : ∃ k, k = Dt.lk n := ⟨_, rfl⟩
    have hk1 : 1 ≤ k := by rw [hk]; exact Dt.lk_pos n
    have hk2 : k < n := by rw [hk]; exact Dt.lk_lt (by omega)
    have hsp : Calls Tryd.prog 44 #[.int .i64 n] w fun e w' => e = .returned (.int .i64 (k : Nat)) ∧ w = w' := by rw [hk]; exact split_any n w (by omega) (by omega)
    have HSP := Lib.hid hsp
    have q1 : ((m : Int) == (n : Int)) = false := by simp; omega
    have q2 : (k : Int) ≤ (cap : Int) := by omega
    have q3 : (k : Int) ≤ (n : Int) := by omega
    have q4 : ¬ cap = k := by omega
    have q5 : 0 ≤ (k : Int) := by omega
    have own : ∀ W W' : World, Below w.heap.size w W → ∀ v l, OwnL W' W.heap.size v l → OwnL W' w.heap.size v l := fun W W' hW v l h => h.mono hW.size
    by_cases hmk : m ≤ k
    · have HV : Hid (extB l m whole = extB (l.take k) m whole ++ [rootB (l.drop k)]) := Lib.hid (by unfold extB rootB; rw [Dt.ext_left shaB h1 (by omega) (by rw [hn, ← hk]; exact hmk), hn, hk])
      have hle := ext_le (l.take k) m whole h1 (by simp; omega)
      have hle' : (extB (l.take k) m whole).length ≤ 1000 := by simp at hle; omega
      have HREC : Hid (∀ W, Below w.heap.size w W → Calls Tryd.prog 42 #[.slice (some ⟨b, off, none⟩) k cap, .int .i64 m, .bool whole] W fun e w' => ∃ v, e = .returned v ∧ OwnL w' w.heap.size v (extB (l.take k) m whole) ∧ Below w.heap.size w w') := Lib.hid (fun W hW =>
        (ih k hk2 (l.take k) m b off cap whole W (by simp; omega) (by omega) h1 hmk (by omega) hcm ((hS.below hW hb).take k) (Nat.lt_of_lt_of_le hb hW.size) (hsh.take k) (hT.below hW)).mono fun e w' ⟨v, h1, h2, h3⟩ => ⟨v, h1, own W w' hW v _ h2, hW.trans (h3.mono hW.size)⟩)
      have HROOT : Hid (∀ W v5, Below w.heap.size w W → OwnL W w.heap.size v5 (extB (l.take k) m whole) → Calls Tryd.prog 26 #[.slice (some ⟨b, off + k, none⟩) (n - k) (cap - k)] W fun e w' => e = .returned (.string (rootB (l.drop k))) ∧ OwnL w' w.heap.size v5 (extB (l.take k) m whole) ∧ Below w.heap.size w w') := Lib.hid (fun W v5 hW ho =>
        (root_some (n - k) (l.drop k) b (off + k) (cap - k) W (by simp; omega) (by omega) (by omega) (by omega) ((hS.below hW hb).drop k) (Nat.lt_of_lt_of_le hb hW.size) (hsh.drop k) (hT.below hW)).mono fun e w' ⟨h1, h2⟩ => ⟨h1, ho.below h2, hW.trans (h2.mono hW.size)⟩)
      obtain ⟨rt, hrt⟩ : ∃ r, r = rootB (l.drop k) := ⟨_, rfl⟩
      obtain ⟨sb, hsb⟩ : ∃ r, r = extB (l.take k) m whole := ⟨_, rfl⟩
      rw [← hrt, ← hsb] at HROOT HV
      rw [← hsb] at HREC hle'
      have q6 : (m : Int) ≤ (k : Int) := by omega
      clear hk hT hS ih hsh hsp hn hall own hle hrt hsb
      go_enter Tryd.func42, Tryd.ntmps42
      go_wp2_with fail
      refine HSP.out.mono ?_
      rintro e w' ⟨rfl, rfl⟩
      go_wp2_with fail
      go_region_held3 (fun w' => Below w.heap.size w w') (first | exact Below.refl _ _ | exact (Below.refl _ _).drew | assumption | exact below_alloc (by assumption) _) ((first | (refine step_append_str rfl (.tmp 27) (.tmp 32) rfl w.heap.size _ sb rfl ?_ _ _ rt rfl ?_ hle' ?_ ?_; exact OwnL.alloc (by assumption) _; go_simp; exact (below_alloc (by assumption) _).size; intro v7 w7 ho7 hg7; have hb7 : Below w.heap.size w w7 := (below_alloc (by assumption) _).trans hg7; clear hg7) | (go_at_call 42; refine (HREC.out _ (by first | exact Below.refl _ _ | exact (Below.refl _ _).drew | assumption)).mono ?_; rintro e w5 ⟨v5, rfl, ho5, hb5⟩) | (go_at_call 26; refine (HROOT.out _ _ (by assumption) (by assumption)).mono ?_; rintro e w6 ⟨rfl, ho6, hb6⟩)))
      all_goals
        go_wp2_with fail
        go_ret
        exact ⟨_, rfl, by rw [HV.out]; assumption, by assumption⟩
    · have HV : Hid (extB l m whole = extB (l.drop k) (m - k) false ++ [rootB (l.take k)]) := Lib.hid (by unfold extB rootB; rw [Dt.ext_right shaB (by omega) (by rw [hn, ← hk]; exact hmk), hn, hk])
      have hle := ext_le (l.drop k) (m - k) false (by omega) (by simp; omega)
      have hle' : (extB (l.drop k) (m - k) false).length ≤ 1000 := by simp at hle; omega
      have HREC : Hid (∀ W, Below w.heap.size w W → Calls Tryd.prog 42 #[.slice (some ⟨b, off + k, none⟩) (n - k) (cap - k), .int .i64 ((m : Int) - k), .bool false] W fun e w' => ∃ v, e = .returned v ∧ OwnL w' w.heap.size v (extB (l.drop k) (m - k) false) ∧ Below w.heap.size w w') := Lib.hid (fun W hW => by
        rw [show ((m : Int) - k) = ((m - k : Nat) : Int) by omega]
        exact (ih (n - k) (by omega) (l.drop k) (m - k) b (off + k) (cap - k) false W (by simp; omega) (by omega) (by omega) (by omega) (by omega) (by omega) ((hS.below hW hb).drop k) (Nat.lt_of_lt_of_le hb hW.size) (hsh.drop k) (hT.below hW)).mono fun e w' ⟨v, h1, h2, h3⟩ => ⟨v, h1, own W w' hW v _ h2, hW.trans (h3.mono hW.size)⟩)
      have HROOT : Hid (∀ W v5, Below w.heap.size w W → OwnL W w.heap.size v5 (extB (l.drop k) (m - k) false) → Calls Tryd.prog 26 #[.slice (some ⟨b, off, none⟩) k cap] W fun e w' => e = .returned (.string (rootB (l.take k))) ∧ OwnL w' w.heap.size v5 (extB (l.drop k) (m - k) false) ∧ Below w.heap.size w w') := Lib.hid (fun W v5 hW ho =>
        (root_some k (l.take k) b off cap W (by simp; omega) (by omega) (by omega) (by omega) ((hS.below hW hb).take k) (Nat.lt_of_lt_of_le hb hW.size) (hsh.take k) (hT.below hW)).mono fun e w' ⟨h1, h2⟩ => ⟨h1, ho.below h2, hW.trans (h2.mono hW.size)⟩)
      obtain ⟨rt, hrt⟩ : ∃ r, r = rootB (l.take k) := ⟨_, rfl⟩
      obtain ⟨sb, hsb⟩ : ∃ r, r = extB (l.drop k) (m - k) false := ⟨_, rfl⟩
      rw [← hrt, ← hsb] at HROOT HV
      rw [← hsb] at HREC hle'
      have q6 : ¬ (m : Int) ≤ (k : Int) := by omega
      have q7 : IntKind.i64.wrap ((m : Int) - k) = (m : Int) - k := IntWalk.i64_in _ (by omega)
      clear hk hT hS ih hsh hsp hn hall own hle hrt hsb
      go_enter Tryd.func42, Tryd.ntmps42
      go_wp2_with fail
      refine HSP.out.mono ?_
      rintro e w' ⟨rfl, rfl⟩
      go_wp2_with fail
      go_region_held3 (fun w' => Below w.heap.size w w') (first | exact Below.refl _ _ | exact (Below.refl _ _).drew | assumption | exact below_alloc (by assumption) _) ((first | (refine step_append_str rfl (.tmp 40) (.tmp 45) rfl w.heap.size _ sb rfl ?_ _ _ rt rfl ?_ hle' ?_ ?_; exact OwnL.alloc (by assumption) _; go_simp; exact (below_alloc (by assumption) _).size; intro v7 w7 ho7 hg7; have hb7 : Below w.heap.size w w7 := (below_alloc (by assumption) _).trans hg7; clear hg7) | (go_at_call 42; refine (HREC.out _ (by first | exact Below.refl _ _ | exact (Below.refl _ _).drew | assumption)).mono ?_; rintro e w5 ⟨v5, rfl, ho5, hb5⟩) | (go_at_call 26; refine (HROOT.out _ _ (by assumption) (by assumption)).mono ?_; rintro e w6 ⟨rfl, ho6, hb6⟩)))
      all_goals
        go_wp2_with fail
        go_ret
        exact ⟨_, rfl, by rw [HV.out]; assumption, by assumption⟩

theorem ext_some (n : Nat) : ExtC n := by
  induction n using Nat.strongRecOn with
  | _ n ih => exact ext_step n ih

/-- What Extension returns besides the error. -/
def extL (l : List ByteArray) (m : Nat) : List ByteArray := if m = 0 then [] else extB l m true
theorem extL_short (l : List ByteArray) (m : Nat) (hm : m ≤ l.length) : Short (extL l m) := by
  unfold extL; split
  · intro x hx; cases hx
  · exact ext_short l m true (by omega) hm
theorem extL_len (l : List ByteArray) (m : Nat) (hm : m ≤ l.length) : (extL l m).length ≤ 2 * Dt.bin l.length := by
  unfold extL; split
  · simp
  · exact Dt.ext_bin shaB l m true (by omega) hm

set_option maxHeartbeats 1000000 in
theorem Extension_yes (v : Value) (l : List ByteArray) (m : Nat) (w : World) (hL : ListAt w v l) (hmax : l.length ≤ 500) (hm : m ≤ l.length) (hT : Tabs w) :
    Calls Tryd.prog 23 #[v, .int .i64 m] w fun e w' => ∃ u, e = .returned (.tuple #[u, .int .i64 0]) ∧ OwnL w' w.heap.size u (extL l m) ∧ Below w.heap.size w w' := by
  have hv : ∃ a c, v = .slice a l.length c := by
    obtain ⟨_, ⟨a, c, rfl, rfl⟩ | ⟨b, off, cap, rfl, _⟩⟩ := hL
    · exact ⟨_, _, rfl⟩
    · exact ⟨_, _, rfl⟩
  by_cases h0 : m = 0
  · subst h0
    obtain ⟨a, c, rfl⟩ := hv
    have h1 : (0 : Int) ≤ (l.length : Int) := by omega
    clear hL hT
    go_enter Tryd.func23, Tryd.ntmps23
    go_wp2_with fail
    go_ret2
    exact ⟨_, rfl, OwnL.nil _ _, Below.refl _ _⟩
  · obtain ⟨hs, ⟨a, c, rfl, rfl⟩ | ⟨b, off, cap, rfl, h1, h2, h3, h4, h5⟩⟩ := hL
    · simp at hm; omega
    · have h := ext_some l.length l m b off cap true w rfl hmax (by omega) hm h2 h3 h4 h5 hs hT
      have HV : Hid (extL l m = extB l m true) := Lib.hid (by unfold extL; rw [if_neg h0])
      obtain ⟨n, hn⟩ : ∃ n, n = l.length := ⟨_, rfl⟩
      rw [← hn] at h hm hmax ⊢
      have H := Lib.hid h
      have hi' : (m : Int) ≤ (n : Int) := by omega
      have q0 : ((m : Int) == 0) = false := by simp; omega
      clear h hn h1 h2 h3 h4 h5 hs hT h0 hv
      go_enter Tryd.func23, Tryd.ntmps23
      go_wp2_with fail
      refine H.out.mono ?_
      rintro e w' ⟨u, rfl, ho, hb⟩
      go_wp2_with fail
      go_ret2
      exact ⟨u, rfl, by rw [HV.out]; exact ho, hb⟩
set_option maxHeartbeats 1000000 in
theorem Extension_no (v : Value) (l : List ByteArray) (m : Int) (w : World) (hL : ListAt w v l) (hi : ¬ (0 ≤ m ∧ m ≤ l.length)) :
    Calls Tryd.prog 23 #[v, .int .i64 m] w fun e w' => e = .returned (.tuple #[.slice none 0 0, .int .i64 2]) ∧ w = w' := by
  have hv : ∃ a c, v = .slice a l.length c := by
    obtain ⟨_, ⟨a, c, rfl, rfl⟩ | ⟨b, off, cap, rfl, _⟩⟩ := hL
    · exact ⟨_, _, rfl⟩
    · exact ⟨_, _, rfl⟩
  obtain ⟨a, c, rfl⟩ := hv
  clear hL
  by_cases h0 : m < 0
  · clear hi
    go_enter Tryd.func23, Tryd.ntmps23
    go_wp2_with fail
    go_ret2
    exact ⟨rfl, rfl⟩
  · have h1 : (l.length : Int) < m := by omega
    clear hi
    go_enter Tryd.func23, Tryd.ntmps23
    go_wp2_with fail
    go_ret2
    exact ⟨rfl, rfl⟩
end Go.Proofs.YtlnlhjkdbpkaiaaDoor
