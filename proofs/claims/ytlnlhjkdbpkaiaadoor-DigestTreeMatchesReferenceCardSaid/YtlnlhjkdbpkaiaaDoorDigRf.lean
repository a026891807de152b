/- The reference's proofs. Conditions: the list is readable, has at most 500 strings of at most 1000 bytes each. -/
import Derived.Test.YtlnlhjkdbpkaiaaDoorDigRe
import Derived.Test.YtlnlhjkdbpkaiaaDoorDigApp
namespace Go.Proofs.YtlnlhjkdbpkaiaaDoor
open Go.RowKit

def RPrC (n : Nat) : Prop := ∀ (l : List ByteArray) (i b off cap : Nat) (w : World), l.length = n → n ≤ 500 → i < n → n ≤ cap → cap ≤ 9223372036854775807 → StrsAt w b off l → b < w.heap.size → Short l →
  Calls Tryd.prog 22 #[.slice (some ⟨b, off, none⟩) n cap, .int .i64 i] w fun e w' => ∃ v, e = .returned (.tuple #[v, .int .i64 0]) ∧ OwnL w' w.heap.size v (sibsB l i) ∧ Below w.heap.size w w'

set_option maxRecDepth 100000 in
set_option maxHeartbeats 4000000 in
theorem rPr_step (n : Nat) (ih : ∀ m, m < n → RPrC m) : RPrC n := by
  intro l i b off cap w hn hmax hin hcap hcm hS hb hsh
  have q8 : ¬ (i : Int) < 0 := by omega
  have q9 : ¬ n ≤ i := by omega
  have q9' : i < n := hin
  by_cases hone : n = 1
  · subst hone
    have HV : Hid (sibsB l i = []) := Lib.hid (Dt.sibs_one shaB (by omega) i)
    clear hS ih hsh hn
    go_enter Tryd.func22, Tryd.ntmps22
    go_wp2_with fail
    go_ret2
    exact ⟨_, rfl, by rw [HV.out]; exact OwnL.nil _ _, Below.refl _ _⟩
  · obtain ⟨k, hk⟩ : ∃ k, k = Dt.lk n := ⟨_, rfl⟩
    have hk1 : 1 ≤ k := by rw [hk]; exact Dt.lk_pos n
    have hk2 : k < n := by rw [hk]; exact Dt.lk_lt (by omega)
    have hsp : Calls Tryd.prog 41 #[.int .i64 n] w fun e w' => e = .returned (.int .i64 (k : Nat)) ∧ w = w' := by rw [hk]; exact rLeft_any n w (by omega) (by omega)
    have HSP := Lib.hid hsp
    have q1 : ((n : Int) == 1) = false := by simp; omega
    have q2 : (k : Int) ≤ (cap : Int) := by omega
    have q3 : (k : Int) ≤ (n : Int) := by omega
    have q4 : ¬ cap = k := by omega
    have q5 : 0 ≤ (k : Int) := by omega
    by_cases hik : i < k
    · have HV : Hid (sibsB l i = sibsB (l.take k) i ++ [rootB (l.drop k)]) := Lib.hid (by unfold sibsB rootB; rw [Dt.sibs_left shaB (by omega) (by rw [hn, ← hk]; exact hik), hn, hk])
      have hle := sibs_le (l.take k) i
      have hle' : (sibsB (l.take k) i).length ≤ 500 := by simp at hle; omega
      have HREC := Lib.hid (ih k hk2 (l.take k) i b off cap w (by simp; omega) (by omega) hik (by omega) hcm (hS.take k) hb (hsh.take k))
      have HROOT : Hid (∀ W, Below w.heap.size w W → Calls Tryd.prog 27 #[.slice (some ⟨b, off + k, none⟩) (n - k) (cap - k)] W fun e w' => e = .returned (.string (rootB (l.drop k))) ∧ Below W.heap.size W w') := Lib.hid (fun W hW =>
        rRoot_some (n - k) (l.drop k) b (off + k) (cap - k) W (by simp; omega) (by omega) (by omega) (by omega) ((hS.below hW hb).drop k) (Nat.lt_of_lt_of_le hb hW.size) (hsh.drop k))
      obtain ⟨rt, hrt⟩ : ∃ r, r = rootB (l.drop k) := ⟨_, rfl⟩
      have hrs : rt.size ≤ 1000 := by rw [hrt, rootB_size]; decide
      obtain ⟨sb, hsb⟩ : ∃ r, r = sibsB (l.take k) i := ⟨_, rfl⟩
      rw [← hrt, ← hsb] at HV
      rw [← hrt] at HROOT
      rw [← hsb] at HREC hle'
      have hll : sb.length + [rt].length ≤ 1000 := by simp; omega
      have HONE : Hid (∀ W : World, ListAt (W.alloc (.cells #[.string rt] 9)) (.slice (some ⟨W.heap.size, 0, none⟩) 1 1) [rt]) := Lib.hid (fun W => (OwnL.one (Nat.le_refl _) rt).list (fun y hy => by rw [List.mem_singleton] at hy; subst hy; exact hrs))
      have q6 : (i : Int) < (k : Int) := by omega
      clear hk hS ih hsh hsp hn hone hle hrt hsb
      go_enter Tryd.func22, Tryd.ntmps22
      go_wp2_with fail
      refine HSP.out.mono ?_
      rintro e w' ⟨rfl, rfl⟩
      go_wp2_with fail
      refine HREC.out.mono ?_
      rintro e w5 ⟨v5, rfl, ho5, hb5⟩
      have HO5 := Lib.hid ho5
      have HB5 := Lib.hid hb5
      clear ho5 hb5
      go_wp2_with fail
      refine (HROOT.out _ HB5.out).mono ?_
      rintro e w6 ⟨rfl, hb6⟩
      have HO6 := Lib.hid (HO5.out.below hb6)
      have HB6 := Lib.hid (HB5.out.trans (hb6.mono HB5.out.size))
      clear hb6
      go_wp2_with (refine wpList_append_list rfl (.tmp 36) (.tmp 41) rfl w.heap.size _ _ sb [rt] rfl (HO6.out.alloc _) rfl (HONE.out _) hll (HB6.out.alloc HB6.out.size _).size ?_; intro u7 w7 ho7 hb7; have HO7 := Lib.hid ho7; have HB7 := Lib.hid ((HB6.out.alloc HB6.out.size _).trans hb7); clear ho7 hb7)
      go_ret2
      exact ⟨_, rfl, by rw [HV.out]; exact HO7.out, HB7.out⟩
    · have HV : Hid (sibsB l i = sibsB (l.drop k) (i - k) ++ [rootB (l.take k)]) := Lib.hid (by unfold sibsB rootB; rw [Dt.sibs_right shaB (by omega) (by rw [hn, ← hk]; exact hik), hn, hk])
      have hle := sibs_le (l.drop k) (i - k)
      have hle' : (sibsB (l.drop k) (i - k)).length ≤ 500 := by simp at hle; omega
      have HREC : Hid (Calls Tryd.prog 22 #[.slice (some ⟨b, off + k, none⟩) (n - k) (cap - k), .int .i64 ((i : Int) - k)] w fun e w' => ∃ v, e = .returned (.tuple #[v, .int .i64 0]) ∧ OwnL w' w.heap.size v (sibsB (l.drop k) (i - k)) ∧ Below w.heap.size w w') := Lib.hid (by
        rw [show ((i : Int) - k) = ((i - k : Nat) : Int) by omega]
        exact ih (n - k) (by omega) (l.drop k) (i - k) b (off + k) (cap - k) w (by simp; omega) (by omega) (by omega) (by omega) (by omega) (hS.drop k) hb (hsh.drop k))
      have HROOT : Hid (∀ W, Below w.heap.size w W → Calls Tryd.prog 27 #[.slice (some ⟨b, off, none⟩) k cap] W fun e w' => e = .returned (.string (rootB (l.take k))) ∧ Below W.heap.size W w') := Lib.hid (fun W hW =>
        rRoot_some k (l.take k) b off cap W (by simp; omega) (by omega) (by omega) (by omega) ((hS.below hW hb).take k) (Nat.lt_of_lt_of_le hb hW.size) (hsh.take k))
      obtain ⟨rt, hrt⟩ : ∃ r, r = rootB (l.take k) := ⟨_, rfl⟩
      have hrs : rt.size ≤ 1000 := by rw [hrt, rootB_size]; decide
      obtain ⟨sb, hsb⟩ : ∃ r, r = sibsB (l.drop k) (i - k) := ⟨_, rfl⟩
      rw [← hrt, ← hsb] at HV
      rw [← hrt] at HROOT
      rw [← hsb] at HREC hle'
      have hll : sb.length + [rt].length ≤ 1000 := by simp; omega
      have HONE : Hid (∀ W : World, ListAt (W.alloc (.cells #[.string rt] 9)) (.slice (some ⟨W.heap.size, 0, none⟩) 1 1) [rt]) := Lib.hid (fun W => (OwnL.one (Nat.le_refl _) rt).list (fun y hy => by rw [List.mem_singleton] at hy; subst hy; exact hrs))
      have q6 : ¬ (i : Int) < (k : Int) := by omega
      have q7 : IntKind.i64.wrap ((i : Int) - k) = (i : Int) - k := IntWalk.i64_in _ (by omega)
      clear hk hS ih hsh hsp hn hone hle hrt hsb
      go_enter Tryd.func22, Tryd.ntmps22
      go_wp2_with fail
      refine HSP.out.mono ?_
      rintro e w' ⟨rfl, rfl⟩
      go_wp2_with fail
      refine HREC.out.mono ?_
      rintro e w5 ⟨v5, rfl, ho5, hb5⟩
      have HO5 := Lib.hid ho5
      have HB5 := Lib.hid hb5
      clear ho5 hb5
      go_wp2_with fail
      refine (HROOT.out _ HB5.out).mono ?_
      rintro e w6 ⟨rfl, hb6⟩
      have HO6 := Lib.hid (HO5.out.below hb6)
      have HB6 := Lib.hid (HB5.out.trans (hb6.mono HB5.out.size))
      clear hb6
      go_wp2_with (refine wpList_append_list rfl (.tmp 53) (.tmp 58) rfl w.heap.size _ _ sb [rt] rfl (HO6.out.alloc _) rfl (HONE.out _) hll (HB6.out.alloc HB6.out.size _).size ?_; intro u7 w7 ho7 hb7; have HO7 := Lib.hid ho7; have HB7 := Lib.hid ((HB6.out.alloc HB6.out.size _).trans hb7); clear ho7 hb7)
      go_ret2
      exact ⟨_, rfl, by rw [HV.out]; exact HO7.out, HB7.out⟩
theorem rPr_some (n : Nat) : RPrC n := by
  induction n using Nat.strongRecOn with
  | _ n ih => exact rPr_step n ih
theorem rProof_yes (v : Value) (l : List ByteArray) (i : Nat) (w : World) (hL : ListAt w v l) (hmax : l.length ≤ 500) (hi : i < l.length) :
    Calls Tryd.prog 22 #[v, .int .i64 i] w fun e w' => ∃ u, e = .returned (.tuple #[u, .int .i64 0]) ∧ OwnL w' w.heap.size u (sibsB l i) ∧ Below w.heap.size w w' := by
  obtain ⟨hs, ⟨a, c, rfl, rfl⟩ | ⟨b, off, cap, rfl, h1, h2, h3, h4, h5⟩⟩ := hL
  · simp at hi
  · exact rPr_some l.length l i b off cap w rfl hmax hi h2 h3 h4 h5 hs
set_option maxHeartbeats 1000000 in
theorem rProof_no (v : Value) (l : List ByteArray) (i : Int) (w : World) (hL : ListAt w v l) (hi : ¬ (0 ≤ i ∧ i < l.length)) :
    Calls Tryd.prog 22 #[v, .int .i64 i] w fun e w' => e = .returned (.tuple #[.slice none 0 0, .int .i64 2]) ∧ w = w' := by
  have hv : ∃ a c, v = .slice a l.length c := by
    obtain ⟨_, ⟨a, c, rfl, rfl⟩ | ⟨b, off, cap, rfl, _⟩⟩ := hL
    · exact ⟨_, _, rfl⟩
    · exact ⟨_, _, rfl⟩
  obtain ⟨a, c, rfl⟩ := hv
  clear hL
  by_cases h0 : i < 0
  · clear hi
    go_enter Tryd.func22, Tryd.ntmps22
    go_wp2_with fail
    go_ret2
    exact ⟨rfl, rfl⟩
  · have h1 : (l.length : Int) ≤ i := by omega
    clear hi
    go_enter Tryd.func22, Tryd.ntmps22
    go_wp2_with fail
    go_ret2
    exact ⟨rfl, rfl⟩
end Go.Proofs.YtlnlhjkdbpkaiaaDoor
