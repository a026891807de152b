/- The law DigestExtensionAccepted returns true and leaves what lay before the call as it was. Conditions: the argument is readable; the tables digest.initial and digest.constants hold their numbers. -/
import Derived.Test.YtlnlhjkdbpkaiaaDoorDigS
namespace Go.Proofs.YtlnlhjkdbpkaiaaDoor
open Go.RowKit

theorem OwnL.form2 {W : World} {base : Nat} {v : Value} {l : List ByteArray} (h : OwnL W base v l) : ∃ a c, v = .slice a l.length c ∧ l.length ≤ c ∧ (a = none ∧ l.length = 0 ∨ ∃ g, a = some ⟨g, 0, none⟩) := by
  obtain ⟨_, ⟨rfl, h2⟩ | ⟨g, cap, cur, rfl, _, _, h4, _⟩⟩ := h
  · exact ⟨none, 0, by rw [h2], by omega, .inl ⟨rfl, h2⟩⟩
  · exact ⟨some ⟨g, 0, none⟩, cap, rfl, h4, .inr ⟨g, rfl⟩⟩
theorem elStr : Tryd.prog.elem 26 = 9 := by kernel_rfl
theorem szStr (W : World) : (sizeOf 9).run Tryd.prog W = .ok 1 W := by kernel_rfl
theorem htStrs : Tryd.prog.underlying 26 = some (.slice (Tryd.prog.elem 26)) := by rw [elStr]; exact Tryd.underlying26
/-- The first k strings. -/
theorem slice_take (W : World) (a : Option Addr) (n c k : Nat) (hk : k ≤ c) : (Instr.sliceAt 26 (.slice a n c) none (some (.int .i64 (k : Int))) none).run Tryd.prog W = .ok (.slice a k c) W := by
  rw [run_sliceAt_slice W _ _ _ _ _ htStrs, run_slice_h W 26 a n c htStrs .i64 (k : Int) (by omega) (by omega), elStr, szStr]
  simp only [Result.andThen, sliced, Int.toNat_natCast]
  cases a <;> simp [Addr.add]
theorem OwnL.take {W : World} {base : Nat} {a : Option Addr} {c n : Nat} {l : List ByteArray} (h : OwnL W base (.slice a n c) l) (hn : n = l.length) (hs : Short l) (k : Nat) (hk : k ≤ n) : ListAt W (.slice a k c) (l.take k) := by
  obtain ⟨_, h2⟩ := h.list hs
  refine ⟨hs.take k, ?_⟩
  rcases h2 with ⟨a', c', h3, rfl⟩ | ⟨b, off, cap, h3, h4, h5, h6, h7, h8⟩
  · injection h3 with e1 e2 e3
    exact .inl ⟨a, c, by rw [show k = 0 by omega], by simp⟩
  · injection h3 with e1 e2 e3
    subst e1; subst e3
    by_cases h0 : k = 0
    · subst h0; exact .inl ⟨_, _, rfl, by simp⟩
    · exact .inr ⟨b, off, c, by rw [List.length_take]; congr 1; omega, by rw [List.length_take]; omega, by rw [List.length_take]; omega, h6, h7.take k, h8⟩

theorem bin_fits (n : Nat) (h : n ≤ 1000) : Dt.bin n ≤ 1000 := Nat.le_trans (Dt.bin_le n) h
theorem verExt_yes (l : List ByteArray) (k : Nat) (hk : k ≤ l.length) : verExtB (rootB (l.take k)) k (rootB l) l.length (extL l k) = true := by
  have d1 : digsB [rootB (l.take k), rootB l] = true := (digsB_iff _).2 (fun x hx => by simp at hx; rcases hx with rfl | rfl <;> exact rootB_size _)
  have d2 : digsB (extL l k) = true := (digsB_iff _).2 (fun x hx => by
    unfold extL at hx
    split at hx
    · cases hx
    · exact Dt.ext_digs shaB shaB_size l.length l k true rfl (by omega) hk x hx)
  unfold verExtB
  rw [d1, d2]
  by_cases h0 : k = 0
  · subst h0
    have e : rootB [] = shaB ByteArray.empty := rfl
    simp [extL, e]
  · by_cases hall : k = l.length
    · subst hall
      have e : extL l l.length = [] := by unfold extL; rw [if_neg h0]; exact Dt.ext_all shaB l true
      rw [e]; simp [h0]
    · have h := Dt.vals_accepts shaB l.length l k true (rootB (l.take k)) rfl (by omega) hk (fun _ => rfl)
      have e : extL l k = Dt.ext shaB l k true := by unfold extL; rw [if_neg h0]
      rw [e, if_neg (by omega), if_neg (by omega), Int.toNat_natCast, Int.toNat_natCast, h]
      simp [hk]
theorem verExt_no (old root : ByteArray) (m : Int) (n : Nat) (p : List ByteArray) (h : ¬ (0 ≤ m ∧ m ≤ n)) : verExtB old m root n p = false := by
  unfold verExtB
  by_cases h0 : 0 ≤ m
  · have : ¬ m ≤ n := fun e => h ⟨h0, e⟩
    simp [this]
  · simp [h0]

set_option maxRecDepth 100000 in
set_option maxHeartbeats 8000000 in
theorem extAcc_any (v : Value) (l : List ByteArray) (m : Int) (w : World) (hA : ArgAt w v l) (hT : Tabs w) (hm : -9223372036854775808 ≤ m) (hm2 : m ≤ 9223372036854775807) :
    Calls Tryd.prog 6 #[v, .int .i64 m] w fun e w' => e = .returned (.bool true) ∧ Below w.heap.size w w' := by
  have HA := Lib.hid hA
  have HT := Lib.hid hT
  have HM := Lib.hid hm
  clear hA hT hm
  go_enter Tryd.func6, Tryd.ntmps6
  go_wp2_with fail
  refine (sane_any _ HT.out).mono ?_
  rintro e w1 ⟨rfl, hB1⟩
  have HB1 := Lib.hid hB1
  clear hB1
  go_wp2_with fail
  refine (few_any _ l 25 _ (HA.out.below HB1.out) (by decide)).mono ?_
  rintro e w2 ⟨u, rfl, ho, hB2⟩
  obtain ⟨L, hL⟩ : ∃ L, L = fewL l 25 := ⟨_, rfl⟩
  have hsh : Short L := by rw [hL]; exact fewL_short l 25
  have hlen : L.length ≤ 25 := by rw [hL]; exact fewL_len l 25
  rw [← hL] at ho
  obtain ⟨a, c, rfl, hcap, ha⟩ := ho.form2
  obtain ⟨n, hn⟩ : ∃ n, n = L.length := ⟨_, rfl⟩
  rw [← hn] at ho hcap ha hlen ⊢
  have HB2 := Lib.hid (HB1.out.trans (hB2.mono HB1.out.size))
  have HTK : Hid (∀ W, Below w2.heap.size w2 W → ∀ k, k ≤ n → ListAt W (.slice a k c) (L.take k)) := Lib.hid (fun W hW k hk => (ho.take hn hsh k hk).below hW)
  have HLA : Hid (∀ W, Below w2.heap.size w2 W → ListAt W (.slice a n c) L) := Lib.hid (fun W hW => (ho.list hsh).below hW)
  have HTT : Hid (∀ W, Below w2.heap.size w2 W → Tabs W) := Lib.hid (fun W hW => (HT.out.below HB2.out).below hW)
  have HN := Lib.hid hn
  clear ho hB2 hL hsh hn
  go_wp2_with fail
  refine (Root_any _ L _ (HLA.out _ (Below.refl _ _)) (HTT.out _ (Below.refl _ _))).mono ?_
  rintro e w3 ⟨rfl, hB3⟩
  have HB3 := Lib.hid hB3
  clear hB3
  go_wp2_with fail
  go_loopw [7] (fun pk wr => ∃ k : Nat, k ≤ n + 1 ∧ pk = .int .i64 k ∧ Below w2.heap.size w2 wr) (fun pk _ => n + 1 - (intOf pk).toNat)
  case atStart => exact ⟨0, by omega, rfl, HB3.out⟩
  case round =>
    obtain ⟨k, hk, rfl, hB⟩ := hrel
    have HB := Lib.hid hB
    clear hB
    by_cases hkn : k ≤ n
    · have hkn' : (k : Int) ≤ (n : Int) := by omega
      have hsl := fun W => slice_take W a n c k (by omega)
      obtain ⟨xl, hxl⟩ : ∃ x, x = (extL L k).length := ⟨_, rfl⟩
      have hxb : xl ≤ 2 * Dt.bin n := by rw [hxl, HN.out]; exact extL_len L k (by rw [← HN.out]; exact hkn)
      have hbn := bin_fits n (by omega)
      have hxb' : ¬ (2 * (Dt.bin n : Int) < (xl : Int)) := by omega
      have HXL := Lib.hid hxl
      clear hxl
      go_wp2_with fail
      refine (Extension_yes _ L k _ (HLA.out _ HB.out) (by rw [← HN.out]; omega) (by rw [← HN.out]; exact hkn) (HTT.out _ HB.out)).mono ?_
      rintro e w4 ⟨x, rfl, hx, hB4⟩
      obtain ⟨xa, xc, rfl⟩ := hx.form
      rw [← HXL.out] at hx ⊢
      have HB4 := Lib.hid (HB.out.trans (hB4.mono HB.out.size))
      have HX := Lib.hid hx
      clear hx hB4
      go_wp2_with fail
      refine (binary_any n _ (by omega)).mono ?_
      rintro e w' ⟨rfl, rfl⟩
      go_wp2_with fail
      refine (Root_any _ (L.take k) _ (HTK.out _ HB4.out k hkn) (HTT.out _ HB4.out)).mono ?_
      rintro e w5 ⟨rfl, hB5⟩
      have HX5 := Lib.hid (HX.out.below hB5)
      have HB5 := Lib.hid (HB4.out.trans (hB5.mono HB4.out.size))
      clear hB5
      go_wp2_with fail
      refine (VerifyExtension_any _ _ _ _ (extL L k) _ _ (by omega) (HX5.out.list (extL_short L k (by rw [← HN.out]; exact hkn))) (HTT.out _ HB5.out)).mono ?_
      rintro e w6 ⟨rfl, hB6⟩
      rw [show verExtB (rootB (L.take k)) k (rootB L) n (extL L k) = true by rw [HN.out]; exact verExt_yes L k (by rw [← HN.out]; exact hkn)]
      have HB6 := Lib.hid (HB5.out.trans (hB6.mono HB5.out.size))
      clear hB6
      go_wp2_with fail
      go_roundw
      case rel => exact ⟨k + 1, by omega, by go_num, HB6.out⟩
      case measure => simp [intOf]; omega
    · by_cases hin : 0 ≤ m ∧ m ≤ n
      · obtain ⟨h0, h1⟩ := hin
        obtain ⟨j, rfl⟩ := Int.eq_ofNat_of_zero_le h0
        go_wp2_with fail
        refine (Extension_yes _ L j _ (HLA.out _ HB.out) (by rw [← HN.out]; omega) (by rw [← HN.out]; omega) (HTT.out _ HB.out)).mono ?_
        rintro e w4 ⟨x, rfl, hx, hB4⟩
        have HB4 := Lib.hid (HB.out.trans (hB4.mono HB.out.size))
        clear hx hB4
        go_wp2_with fail
        go_ret
        exact ⟨rfl, HB2.out.trans (HB4.out.mono HB2.out.size)⟩
      · have HNO : Hid (verExtB (rootB L) m (rootB L) n [] = false) := Lib.hid (verExt_no _ _ m n [] hin)
        have HIN := Lib.hid hin
        by_cases h0 : m < 0
        · clear hin
          go_wp2_with fail
          refine (Extension_no _ L m _ (HLA.out _ HB.out) (by rw [← HN.out]; exact HIN.out)).mono ?_
          rintro e w' ⟨rfl, rfl⟩
          go_wp2_with fail
          refine (VerifyExtension_any _ _ _ _ [] _ _ (by omega) (OwnL.nil wr 0 |>.list (fun x hx => by cases hx)) (HTT.out _ HB.out)).mono ?_
          rintro e w6 ⟨rfl, hB6⟩
          rw [HNO.out]
          go_wp2_with fail
          go_ret
          exact ⟨rfl, HB2.out.trans ((HB.out.trans (hB6.mono HB.out.size)).mono HB2.out.size)⟩
        · have h1 : (n : Int) < m := by omega
          have h0' : 0 ≤ m := by omega
          have h2 : decide (m ≤ (n : Int)) = false := by simp; omega
          clear hin
          go_wp2_with fail
          refine (Extension_no _ L m _ (HLA.out _ HB.out) (by rw [← HN.out]; exact HIN.out)).mono ?_
          rintro e w' ⟨rfl, rfl⟩
          go_wp2_with fail
          refine (VerifyExtension_any _ _ _ _ [] _ _ (by omega) (OwnL.nil wr 0 |>.list (fun x hx => by cases hx)) (HTT.out _ HB.out)).mono ?_
          rintro e w6 ⟨rfl, hB6⟩
          rw [HNO.out]
          go_wp2_with fail
          go_ret
          exact ⟨rfl, HB2.out.trans ((HB.out.trans (hB6.mono HB.out.size)).mono HB2.out.size)⟩
end Go.Proofs.YtlnlhjkdbpkaiaaDoor
