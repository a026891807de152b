/- The law DigestSplit returns true and leaves what lay before the call as it was. Conditions: the arguments are readable; the tables digest.initial and digest.constants hold their numbers. -/
import Derived.Test.YtlnlhjkdbpkaiaaDoorDigBind
import Derived.Test.YtlnlhjkdbpkaiaaDoorDigSame
namespace Go.Proofs.YtlnlhjkdbpkaiaaDoor
open Go.RowKit

theorem OwnL.empty {W : World} {base : Nat} (hb : base ≤ W.heap.size) : OwnL (W.alloc (.cells #[] 9)) base (.slice (some ⟨W.heap.size, 0, none⟩) 0 0) [] :=
  ⟨rfl, .inr ⟨W.heap.size, 0, #[], rfl, hb, heap_alloc_new W _, Nat.le_refl _, by unfold maxLen; omega, rfl, rfl⟩⟩
/-- A list that is not empty lies in a row. -/
theorem ListAt.row {W : World} {v : Value} {l : List ByteArray} (h : ListAt W v l) (h1 : 1 ≤ l.length) : ∃ b off cap, v = .slice (some ⟨b, off, none⟩) l.length cap ∧ l.length ≤ cap ∧ cap ≤ 9223372036854775807 ∧
    ∀ W', Below W.heap.size W W' → StrsAt W' b off l ∧ b < W'.heap.size := by
  obtain ⟨_, ⟨a, c, rfl, rfl⟩ | ⟨b, off, cap, rfl, _, k2, k3, k4, k5⟩⟩ := h
  · simp at h1
  · exact ⟨b, off, cap, rfl, k2, k3, fun W' hW => ⟨k4.below hW k5, Nat.lt_of_lt_of_le k5 hW.size⟩⟩
theorem take_snoc_all (l : List ByteArray) (s : ByteArray) : (l ++ [s]).take l.length = l := by simp

set_option maxRecDepth 100000 in
set_option maxHeartbeats 16000000 in
theorem split_law (v : Value) (L0 : List ByteArray) (s : ByteArray) (w : World) (hA : ArgAt w v L0) (_ws : s.size ≤ maxLen) (hT : Tabs w) :
    Calls Tryd.prog 10 #[v, .string s] w fun e w' => e = .returned (.bool true) ∧ Below w.heap.size w w' := by
  have HA := Lib.hid hA
  have HT := Lib.hid hT
  obtain ⟨qs, hqs⟩ : ∃ q, q = min s.size 60 := ⟨_, rfl⟩
  have hmin1 := min_cut s qs hqs
  have s1 : qs ≤ s.size := by omega
  have s2 : (qs : Int) ≤ (s.size : Int) := by omega
  have s3 : (s.extract 0 qs).size ≤ 60 := by simp; omega
  clear hA hT hqs
  go_enter Tryd.func10, Tryd.ntmps10
  go_wp2_with fail
  refine (sane_any _ HT.out).mono ?_
  rintro e w1 ⟨rfl, hB1⟩
  have HB1 := Lib.hid hB1
  clear hB1
  go_wp2_with fail
  refine (few_any _ L0 40 _ (HA.out.below HB1.out) (by decide)).mono ?_
  rintro e w2 ⟨u, rfl, hu, hB2⟩
  obtain ⟨L, hL⟩ : ∃ L, L = fewL L0 40 := ⟨_, rfl⟩
  have hlen : L.length ≤ 40 := by rw [hL]; exact fewL_len L0 40
  have hsh : Short L := by rw [hL]; exact fewL_short L0 40
  have hls := few_list hu
  rw [← hL] at hls
  have HB2 := Lib.hid (HB1.out.trans (hB2.mono HB1.out.size))
  obtain ⟨a, c, rfl⟩ := hls.form
  have HLA : Hid (∀ W, Below w2.heap.size w2 W → ListAt W (.slice a L.length c) L) := Lib.hid (fun W hW => hls.below hW)
  have HTT : Hid (∀ W, Below w2.heap.size w2 W → Tabs W) := Lib.hid (fun W hW => (HT.out.below HB2.out).below hW)
  obtain ⟨S, hS⟩ : ∃ x, x = s.extract 0 qs := ⟨_, rfl⟩
  have HS := Lib.hid hS
  have HS1 : Hid (Short [s.extract 0 qs]) := Lib.hid (fun x hx => by rw [List.mem_singleton] at hx; subst hx; omega)
  obtain ⟨n, hn⟩ : ∃ n, n = L.length := ⟨_, rfl⟩
  have HN := Lib.hid hn
  rw [← hn] at HLA hlen ⊢
  have HW2 : Hid (∀ o, Below w2.heap.size w2 (w2.alloc o)) := Lib.hid (fun o => (Below.refl _ w2).alloc (Nat.le_refl _) o)
  have hl1 : ([] : List ByteArray).length + L.length ≤ 1000 := by simp; omega
  have hl2 : L.length + [s.extract 0 qs].length ≤ 1000 := by simp; omega
  clear hu hB2 hL hls hS hn
  go_wp2_with (first | (refine wpList_append_list rfl (.tmp 18) (.tmp 19) rfl w2.heap.size _ _ [] L rfl (OwnL.empty (Nat.le_refl _)) rfl (HLA.out _ (HW2.out _)) hl1 (HW2.out _).size ?_; intro u3 w3 ho3 hB3; rw [List.nil_append] at ho3; have HO3 := Lib.hid ho3; have HB3 := Lib.hid ((HW2.out _).trans hB3); clear ho3 hB3) | (refine wpList_append_list rfl (.tmp 20) (.tmp 22) rfl w2.heap.size _ _ L [s.extract 0 qs] rfl (HO3.out.alloc _) rfl ((OwnL.one (Nat.le_refl _) _).list HS1.out) hl2 (HB3.out.alloc HB3.out.size _).size ?_; intro u4 w4 ho4 hB4; have HO4 := Lib.hid ho4; have HB4 := Lib.hid ((HB3.out.alloc HB3.out.size _).trans hB4); clear ho4 hB4) | fail)
  have hO4 := HO4.out
  rw [← HS.out] at hO4 s3 ⊢
  clear HO4
  obtain ⟨M, hM⟩ : ∃ M, M = L ++ [S] := ⟨_, rfl⟩
  rw [← hM] at hO4
  have hMs : Short M := by rw [hM]; intro x hx; rcases List.mem_append.1 hx with h | h; exact hsh x h; exact (by rw [List.mem_singleton] at h; subst h; omega)
  have hMl : M.length = n + 1 := by rw [hM, HN.out]; simp
  have hMt : M.take n = L := by rw [hM, HN.out]; exact take_snoc_all L S
  obtain ⟨b, off, cap, rfl, hcap, hcm, hrow⟩ := (hO4.list hMs).row (by omega)
  obtain ⟨m1, hm1⟩ : ∃ m, m = M.length := ⟨_, rfl⟩
  rw [← hm1] at hcap hO4 ⊢
  have HMA : Hid (∀ W, Below w4.heap.size w4 W → ListAt W (.slice (some ⟨b, off, none⟩) m1 cap) M) := Lib.hid (fun W hW => (hO4.list hMs).below hW)
  have HROW := Lib.hid hrow
  have HM1 := Lib.hid hm1
  have HML := Lib.hid hMl
  have HMT := Lib.hid hMt
  have HM := Lib.hid hM
  have HMS := Lib.hid hMs
  have HLB : Hid (∀ W, Below w4.heap.size w4 W → ListAt W (.slice a n c) L) := Lib.hid (fun W hW => HLA.out W (HB4.out.trans (hW.mono HB4.out.size)))
  have HTB : Hid (∀ W, Below w4.heap.size w4 W → Tabs W) := Lib.hid (fun W hW => HTT.out W (HB4.out.trans (hW.mono HB4.out.size)))
  have m1b : m1 ≤ 41 := by omega
  clear hO4 hm1 hMl hMt hM hMs hrow hsh HO3 HB3
  go_wp2_with fail
  refine (Extension_yes _ M n _ (HMA.out _ (Below.refl _ _)) (by rw [← HM1.out]; omega) (by rw [HML.out]; omega) (HTB.out _ (Below.refl _ _))).mono ?_
  rintro e w5 ⟨x, rfl, hx, hB5⟩
  obtain ⟨xa, xc, rfl⟩ := hx.form
  have HX5 := Lib.hid hx
  have HB5 := Lib.hid hB5
  clear hx hB5
  go_wp2_with fail
  refine (Root_any _ L _ (HLB.out _ HB5.out) (HTB.out _ HB5.out)).mono ?_
  rintro e w6 ⟨rfl, hB6⟩
  have HX6 := Lib.hid (HX5.out.below hB6)
  have HB6 := Lib.hid (HB5.out.trans (hB6.mono HB5.out.size))
  clear hB6
  go_wp2_with fail
  refine (Root_any _ M _ (HMA.out _ HB6.out) (HTB.out _ HB6.out)).mono ?_
  rintro e w7 ⟨rfl, hB7⟩
  have HX7 := Lib.hid (HX6.out.below hB7)
  have HB7 := Lib.hid (HB6.out.trans (hB7.mono HB6.out.size))
  clear hB7
  go_wp2_with fail
  refine (VerifyExtension_any _ _ _ _ (extL M n) _ _ (by omega) (HX7.out.list (extL_short M n (by rw [HML.out]; omega))) (HTB.out _ HB7.out)).mono ?_
  rintro e w8 ⟨rfl, hB8⟩
  rw [show verExtB (rootB L) n (rootB M) m1 (extL M n) = true by rw [HM1.out]; have := verExt_yes M n (by rw [HML.out]; omega); rw [HMT.out] at this; exact this]
  have HB8 := Lib.hid (HB7.out.trans (hB8.mono HB7.out.size))
  clear hB8
  by_cases h0 : n = 0
  · have t0 : ((n : Int) == 0) = true := by simp; omega
    have hL0 : L = [] := List.length_eq_zero_iff.1 (by rw [← HN.out]; exact h0)
    have t1 : ((rootB M).toList == (Dt.leaf shaB S).toList) = true := by rw [str_beq, HM.out, hL0]; simp [rootB, Dt.root_one]
    have t2 : ((rootB L).toList == (shaB ⟨#[]⟩).toList) = true := by rw [str_beq, hL0]; simp [rootB, Dt.root_nil]; rfl
    clear h0 hL0
    go_wp2_with fail
    refine (Root_any _ M _ (HMA.out _ HB8.out) (HTB.out _ HB8.out)).mono ?_
    rintro e w9 ⟨rfl, hB9⟩
    have HB9 := Lib.hid (HB8.out.trans (hB9.mono HB8.out.size))
    clear hB9
    go_wp2_with fail
    refine (Leaf_any S _ (HTB.out _ HB9.out) (by omega)).mono ?_
    rintro e w10 ⟨rfl, hB10⟩
    have HB10 := Lib.hid (HB9.out.trans (hB10.mono HB9.out.size))
    clear hB10
    go_wp2_with fail
    refine (Root_any _ L _ (HLB.out _ HB10.out) (HTB.out _ HB10.out)).mono ?_
    rintro e w11 ⟨rfl, hB11⟩
    have HB11 := Lib.hid (HB10.out.trans (hB11.mono HB10.out.size))
    clear hB11
    go_wp2_with fail
    refine (Sum_any ⟨#[]⟩ _ (HTB.out _ HB11.out) (by decide)).mono ?_
    rintro e w12 ⟨rfl, hB12⟩
    have HB12 := Lib.hid (HB11.out.trans (hB12.mono HB11.out.size))
    clear hB12
    go_wp2_with fail
    go_ret
    exact ⟨rfl, HB2.out.trans ((HB4.out.trans (HB12.out.mono HB4.out.size)).mono HB2.out.size)⟩
  · have t0 : ((n : Int) == 0) = false := by simp; omega
    have hm2 : 2 ≤ m1 := by rw [HM1.out, HML.out]; omega
    obtain ⟨k, hk⟩ : ∃ k, k = Dt.lk m1 := ⟨_, rfl⟩
    have hk1 : 1 ≤ k := by rw [hk]; exact Dt.lk_pos m1
    have hk2 : k < m1 := by rw [hk]; exact Dt.lk_lt hm2
    have HV : Hid (rootB M = Dt.node shaB (rootB (M.take k)) (rootB (M.drop k))) := Lib.hid (by unfold rootB; rw [Dt.root_more shaB (by rw [← HM1.out]; exact hm2), ← HM1.out, hk])
    have HLEFT : Hid (∀ W, Calls Tryd.prog 35 #[.int .i64 m1] W fun e w' => e = .returned (.int .i64 (k : Nat)) ∧ W = w') := Lib.hid (fun W => by rw [hk]; exact left_any m1 W hm2 (by omega))
    have HC : Hid (∀ W, Below w4.heap.size w4 W → ∀ v x, (v = .slice (some ⟨b, off, none⟩) m1 cap ∧ x = rootB M) ∨ (v = .slice (some ⟨b, off, none⟩) k cap ∧ x = rootB (M.take k)) ∨ (v = .slice (some ⟨b, off + k, none⟩) (m1 - k) (cap - k) ∧ x = rootB (M.drop k)) →
        Calls Tryd.prog 26 #[v] W fun e w' => e = .returned (.string x) ∧ Below w4.heap.size w4 w') := Lib.hid (by
      intro W hW v x hv
      have hT' := HTB.out W hW
      obtain ⟨hS', hb'⟩ := HROW.out W hW
      have hz := hW.size
      have hml := HM1.out
      rcases hv with ⟨rfl, rfl⟩ | ⟨rfl, rfl⟩ | ⟨rfl, rfl⟩
      · exact (Root_any _ M W (HMA.out W hW) hT').mono fun e w' h => ⟨h.1, hW.trans (h.2.mono hz)⟩
      · exact (root_some k (M.take k) b off cap W (by simp; omega) hk1 (by omega) (by omega) (hS'.take k) hb' (HMS.out.take k) hT').mono fun e w' h => ⟨h.1, hW.trans (h.2.mono hz)⟩
      · exact (root_some (m1 - k) (M.drop k) b (off + k) (cap - k) W (by simp; omega) (by omega) (by omega) (by omega) (hS'.drop k) hb' (HMS.out.drop k) hT').mono fun e w' h => ⟨h.1, hW.trans (h.2.mono hz)⟩)
    have HND : Hid (∀ W, Below w4.heap.size w4 W → Calls Tryd.prog 16 #[.string (rootB (M.take k)), .string (rootB (M.drop k))] W fun e w' => e = .returned (.string (rootB M)) ∧ Below w4.heap.size w4 w') := Lib.hid (by
      intro W hW
      rw [HV.out]
      exact (Node_any _ _ W (HTB.out W hW) (by rw [rootB_size, rootB_size]; decide)).mono fun e w' h => ⟨h.1, hW.trans (h.2.mono hW.size)⟩)
    have q2 : (k : Int) ≤ (cap : Int) := by omega
    have q3 : (k : Int) ≤ (m1 : Int) := by omega
    have q4 : ¬ cap = k := by omega
    have q5 : 0 ≤ (k : Int) := by omega
    have HB8' := HB8
    clear hk h0 HX5 HX6 HX7
    go_wp2_with fail
    refine (HLEFT.out _).mono ?_
    rintro e w' ⟨rfl, rfl⟩
    go_wp2_with fail
    go_region_held3 (fun w' => Below w4.heap.size w4 w') (first | exact HB8.out | exact HB8.out.drew | assumption) ((first | (go_at_call 26; refine (HC.out _ (by first | exact HB8.out | exact HB8.out.drew | assumption) _ _ (by first | exact .inl ⟨rfl, rfl⟩ | exact .inr (.inl ⟨rfl, rfl⟩) | exact .inr (.inr ⟨rfl, rfl⟩))).mono ?_; rintro e w5 ⟨rfl, hb5⟩) | (go_at_call 16; refine (HND.out _ (by first | exact HB8.out | exact HB8.out.drew | assumption)).mono ?_; rintro e w5 ⟨rfl, hb5⟩)))
    all_goals
      go_wp2_with fail
      go_ret
      exact ⟨rfl, HB2.out.trans ((HB4.out.trans (Below.mono (by assumption) HB4.out.size)).mono HB2.out.size)⟩
end Go.Proofs.YtlnlhjkdbpkaiaaDoor
