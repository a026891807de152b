/- The law DigestProofAccepted returns true and leaves what lay before the call as it was. Conditions: the arguments are readable; the tables digest.initial and digest.constants hold their numbers. -/
import Derived.Test.YtlnlhjkdbpkaiaaDoorDigSplit
import Derived.Deep.RegionHeld3
namespace Go.Proofs.YtlnlhjkdbpkaiaaDoor
open Go.RowKit

/-- A whole list is appended, and what else lies in memory stays. -/
theorem run_append_list_keeps (w : World) (base : Nat) (ty : TypeId) (v vx : Value) (l l2 : List ByteArray) (hown : OwnL w base v l) (hx : ListAt w vx l2) (hl : l.length + l2.length ≤ 1000) (hb : base ≤ w.heap.size) :
    ∃ v' w', (Builtin.append_ #[26, 26] ty #[v, vx]).run Tryd.prog w = .ok v' w' ∧ OwnL w' base v' (l ++ l2) ∧ Below base w w' ∧ (∀ k, k < w.heap.size → v.ownBlock ≠ some k → w'.heap[k]? = w.heap[k]?) ∧ w.heap.size ≤ w'.heap.size := by
  obtain ⟨i0, hi, hz0, hz1, hz2⟩ := info_parts infoStr
  obtain ⟨_, ⟨a, c, rfl, rfl⟩ | ⟨b, off, cap, rfl, k1, k2, k3, k4, k5⟩⟩ := hx
  · have hfc : ∀ a c, (Builtin.firstCells 1 0 (.slice a 0 c)).run Tryd.prog w = .ok #[] w := by
      intro a c
      cases a with
      | none => exact run_firstCells_none w 1 0 0 c
      | some a => exact run_firstCells_some w 1 0 a 0 c [] rfl (fun j u h => by simp at h)
    obtain ⟨a0, c0, rfl, hc0, ha0⟩ := hown.form2
    refine ⟨.slice a0 l.length c0, w, ?_, by rw [List.append_nil]; exact hown, Below.refl _ _, fun _ _ _ => rfl, Nat.le_refl _⟩
    have hu := Tryd.underlying26
    have hsz := szStr w
    rcases ha0 with ⟨rfl, h0⟩ | ⟨g, rfl⟩
    · simp [Builtin.append_, underlying, hu, hsz, Sem.run_bind, Result.andThen, Builtin.lenOf, hfc, hc0]
    · simp [Builtin.append_, underlying, hu, hsz, Sem.run_bind, Result.andThen, Builtin.lenOf, hfc, hc0, storeCells_nil]
  · obtain ⟨v', w', hrun, r1, r2, _⟩ := run_append_own (P := Tryd.prog) w base 26 ty 9 i0 (.string ⟨#[]⟩) 1 16 Tryd.underlying26 hi hz0 hz1 hz2 rfl (by decide) v l.length _ hown ⟨b, off, none⟩ l2.length cap (l2.map Value.string) (by simp)
      (fun j u hu => by
        rw [List.getElem?_map] at hu
        cases hj : l2[j]? with
        | none => rw [hj] at hu; cases hu
        | some y =>
          rw [hj] at hu
          injection hu with hu
          subst hu
          have hjl := (List.getElem?_eq_some_iff.1 hj).1
          have := k4 j hjl
          simp only [List.getD, hj, Option.getD_some] at this
          rw [show (⟨b, off, none⟩ : Addr).add j = ⟨b, off + j, none⟩ by cases j <;> simp [Addr.add]]
          exact this)
      (fun u hu => by
        obtain ⟨y, _, rfl⟩ := List.mem_map.1 hu
        rfl) (by unfold maxLen; omega) (by omega) hb
    refine ⟨v', w', hrun, ?_, (Below.refl base w).grown r2 hb (fun k e => (World.ownsRow.lt hown k e).1), fun k h1 h2 => r2.block k h1 (fun e => h2 e.symm), r2.size⟩
    unfold OwnL
    rw [List.length_append, List.map_append]
    exact r1
theorem step_append_keeps {ops : Array Oper} {o : Oper} {a : Act} {w : World} {K : Act → World → Prop} {Q : Exit → Act → World → Prop} {E : Prop}
    (hg : o.guard = none) (s x : Operand) (hop : o.op = Op.call { callee := Callee.builtin Builtin.append, args := #[s, x], argTypes := #[26, 26] })
    (base : Nat) (v vx : Value) (l l2 : List ByteArray) (hs : a.eval s = v) (hown : OwnL w base v l) (hx : a.eval x = vx) (hlx : ListAt w vx l2) (hl : l.length + l2.length ≤ 1000) (hb : base ≤ w.heap.size)
    (hK : ∀ v' w', OwnL w' base v' (l ++ l2) → Below base w w' → (∀ k, k < w.heap.size → v.ownBlock ≠ some k → w'.heap[k]? = w.heap[k]?) → w.heap.size ≤ w'.heap.size → K (a.put o.dst v') w') :
    if Region.wanted o (yielded ops a.tmps) = true then Oper.wp Tryd.prog o a w K Q else E := by
  have hw : Region.wanted o (yielded ops a.tmps) = true := by simp [Region.wanted, hg]
  rw [if_pos hw]
  obtain ⟨v', w', hr, h2, h3, h4, h5⟩ := run_append_list_keeps w base o.type v vx l l2 hown hlx hl hb
  unfold Oper.wp
  simp [execOp, hop, resolve, invoke, builtin, hs, hx, hr, Result.andThen]
  exact hK _ _ h2 h3 h4 h5
theorem step_append_from {ops : Array Oper} {o : Oper} {a : Act} {w : World} {K : Act → World → Prop} {Q : Exit → Act → World → Prop} {E : Prop}
    (hg : o.guard = none) (s x : Operand) (hop : o.op = Op.call { callee := Callee.builtin Builtin.append, args := #[s, x], argTypes := #[26, 26] })
    (w0 : World) (v vx : Value) (l l2 : List ByteArray) (hs : a.eval s = v) (hx : a.eval x = vx) (hl : l.length + l2.length ≤ 1000) (hown : OwnL w w0.heap.size v l) (hlx : ListAt w vx l2) (hb : Below w0.heap.size w0 w)
    (hK : ∀ v' w', OwnL w' w0.heap.size v' (l ++ l2) → Below w0.heap.size w0 w' → (∀ k, k < w.heap.size → v.ownBlock ≠ some k → w'.heap[k]? = w.heap[k]?) → K (a.put o.dst v') w') :
    if Region.wanted o (yielded ops a.tmps) = true then Oper.wp Tryd.prog o a w K Q else E :=
  step_append_keeps hg s x hop w0.heap.size v vx l l2 hs hown hx hlx hl hb.size (fun v' w' h1 h2 h3 _ => hK v' w' h1 (hb.trans h2) h3)
/-- A string in a block of its own reads as a list, as long as the block stays. -/
theorem one_at {W : World} {g : Nat} {x : ByteArray} (hx : x.size ≤ 1000) (h : W.heap[g]? = some (.cells #[.string x] 9 (0, 0))) : ListAt W (.slice (some ⟨g, 0, none⟩) 1 1) [x] :=
  ⟨fun y hy => by rw [List.mem_singleton] at hy; subst hy; exact hx, .inr ⟨g, 0, 1, rfl, Nat.le_refl 1, Nat.le_refl 1, by decide, fun j hj => by
    obtain rfl : j = 0 := by have : j < 1 := hj; omega
    rw [cell_of_row W g (0 + 0) _ _ _ h]; rfl, (Array.getElem?_eq_some_iff.1 h).1⟩⟩
theorem OwnL.empty1 {W : World} {base : Nat} (hb : base ≤ W.heap.size) (o : Obj) : OwnL ((W.alloc o).alloc (.cells #[] 9)) base (.slice (some ⟨W.heap.size + 1, 0, none⟩) 0 0) [] := by
  have h := OwnL.empty (W := W.alloc o) (base := base) (by simp; omega)
  rw [show (W.alloc o).heap.size = W.heap.size + 1 by simp] at h
  exact h
theorem one_after1 {W w' : World} {x : ByteArray} (hx : x.size ≤ 1000) (v : Value) (o : Obj)
    (hk : ∀ k, k < ((W.alloc o).alloc (.cells #[.string x] 9)).drew.heap.size → v.ownBlock ≠ some k → w'.heap[k]? = ((W.alloc o).alloc (.cells #[.string x] 9)).drew.heap[k]?)
    (hv : v = .slice (some ⟨W.heap.size, 0, none⟩) 0 0) : ListAt w' (.slice (some ⟨W.heap.size + 1, 0, none⟩) 1 1) [x] :=
  one_at hx (by
    have h := hk (W.heap.size + 1) (by simp) (by subst hv; simp [Value.ownBlock])
    have e := heap_alloc_new (W.alloc o) (.cells #[.string x] 9)
    rw [show (W.alloc o).heap.size = W.heap.size + 1 by simp] at e
    exact h.trans e)
theorem one_after2 {W w' : World} {x : ByteArray} (hx : x.size ≤ 1000) (v : Value) (o : Obj)
    (hk : ∀ k, k < ((W.alloc (.cells #[.string x] 9)).alloc o).drew.heap.size → v.ownBlock ≠ some k → w'.heap[k]? = ((W.alloc (.cells #[.string x] 9)).alloc o).drew.heap[k]?)
    (hv : v = .slice (some ⟨W.heap.size + 1, 0, none⟩) 0 0) : ListAt w' (.slice (some ⟨W.heap.size, 0, none⟩) 1 1) [x] :=
  one_at hx (by
    have h := hk W.heap.size (by simp; omega) (by subst hv; simp [Value.ownBlock])
    have e := Below.heap_alloc (W.alloc (.cells #[.string x] 9)) o W.heap.size (by simp)
    exact h.trans (e.trans (heap_alloc_new W _)))
/-- All strings but the first. -/
theorem slice_rest (a : Option Addr) (n c : Nat) (h1 : 1 ≤ n) : ∃ a1, a1 = (if c = 1 then a else a.map (·.add 1)) ∧ ∀ W, (Instr.sliceAt 26 (.slice a n c) (some (.int .i64 1)) none none).run Tryd.prog W = .ok (.slice a1 (n - 1) (c - 1)) W := by
  refine ⟨_, rfl, fun W => ?_⟩
  rw [run_sliceAt_slice W _ _ _ _ _ htStrs, run_slice_l W 26 a n c htStrs .i64 1 (by omega) (by omega), elStr, szStr]
  simp only [Result.andThen, sliced]
  rfl
theorem ListAt.rest {W : World} {a a1 : Option Addr} {n c : Nat} {l : List ByteArray} (h : ListAt W (.slice a n c) l) (hn : n = l.length) (h1 : 1 ≤ n) (ha : a1 = (if c = 1 then a else a.map (·.add 1))) : ListAt W (.slice a1 (n - 1) (c - 1)) (l.drop 1) := by
  obtain ⟨hs, ⟨a', c', h3, rfl⟩ | ⟨b, off, cap, h3, h4, h5, h6, h7, h8⟩⟩ := h
  · simp at hn; omega
  · injection h3 with e1 e2 e3
    subst e3
    refine ⟨hs.drop 1, ?_⟩
    by_cases hc : c = 1
    · exact .inl ⟨_, _, by rw [show n - 1 = 0 by omega], List.length_eq_zero_iff.1 (by rw [List.length_drop]; omega)⟩
    · rw [if_neg hc, e1] at ha
      by_cases hn1 : n = 1
      · exact .inl ⟨_, _, by rw [show n - 1 = 0 by omega], List.length_eq_zero_iff.1 (by rw [List.length_drop]; omega)⟩
      · refine .inr ⟨b, off + 1, c - 1, ?_, by rw [List.length_drop]; omega, by rw [List.length_drop]; omega, by omega, h7.drop 1, h8⟩
        rw [ha, List.length_drop, ← hn]
        rfl
/-- The string that an index of a readable list names. -/
theorem ListAt.nth {W : World} {a : Option Addr} {n c : Nat} {l : List ByteArray} (h : ListAt W (.slice a n c) l) {i : Nat} (hi : i < l.length) :
    ∃ b off, a = some ⟨b, off, none⟩ ∧ ∀ W', Below W.heap.size W W' → W'.cell? ⟨b, off + i, none⟩ = some (.string (l.getD i ByteArray.empty)) := by
  obtain ⟨_, ⟨a', c', h3, rfl⟩ | ⟨b, off, cap, h3, h4, h5, h6, h7, h8⟩⟩ := h
  · simp at hi
  · injection h3 with e1 e2 e3
    exact ⟨b, off, e1, fun W' hW => (h7.below hW h8) i hi⟩
theorem ver_yes (l : List ByteArray) (i : Nat) (hi : i < l.length) : verB (rootB l) l.length i (l.getD i ByteArray.empty) (sibsB l i) = true := by
  have h := Dt.val_accepts shaB l.length l i rfl hi
  have d : digsB (sibsB l i) = true := (digsB_iff _).2 (Dt.sibs_digs shaB shaB_size l.length l i rfl)
  unfold verB
  rw [d, Int.toNat_natCast, Int.toNat_natCast, h]
  simp [hi]
theorem ver_out (root s : ByteArray) (n : Nat) (i : Int) (p : List ByteArray) (h : ¬ (0 ≤ i ∧ i < n)) : verB root n i s p = false := by
  unfold verB
  by_cases h0 : 0 ≤ i
  · have : ¬ i < n := fun e => h ⟨h0, e⟩
    simp [this]
  · simp [h0]
/-- A proof of another length is refused. -/
theorem ver_other (l : List ByteArray) (root s : ByteArray) (i : Nat) (hi : i < l.length) (p : List ByteArray) (h : p.length ≠ (sibsB l i).length) : verB root l.length i s p = false := by
  have h1 := Dt.val_accepts shaB l.length l i rfl hi
  cases hv : verB root l.length i s p with
  | false => rfl
  | true =>
    exfalso
    obtain ⟨_, _, _, h4⟩ := verB_parts hv
    rw [Int.toNat_natCast, Int.toNat_natCast] at h4
    have := Dt.val_len shaB s (l.getD i ByteArray.empty) p.reverse (sibsB l i).reverse l.length i (by rw [h4]) (by rw [h1])
    rw [List.length_reverse, List.length_reverse] at this
    exact h this

set_option maxRecDepth 100000 in
set_option maxHeartbeats 16000000 in
theorem proofAcc_any (v : Value) (L0 : List ByteArray) (i : Int) (w : World) (hA : ArgAt w v L0) (hT : Tabs w) (hi1 : -9223372036854775808 ≤ i) (hi2 : i ≤ 9223372036854775807) :
    Calls Tryd.prog 5 #[v, .int .i64 i] w fun e w' => e = .returned (.bool true) ∧ Below w.heap.size w w' := by
  have HA := Lib.hid hA
  have HT := Lib.hid hT
  have HI := Lib.hid hi1
  clear hA hT hi1
  go_enter Tryd.func5, Tryd.ntmps5
  go_wp2_with fail
  refine (sane_any _ HT.out).mono ?_
  rintro e w1 ⟨rfl, hB1⟩
  have HB1 := Lib.hid hB1
  clear hB1
  go_wp2_with fail
  refine (few_any _ L0 40 _ (HA.out.below HB1.out) (by decide)).mono ?_
  rintro e w2 ⟨u, rfl, hu, hB2⟩
  obtain ⟨L, hL⟩ : ∃ L, L = fewL L0 40 := ⟨_, rfl⟩
  have hlen : L.length ≤ 40 := by rw [hL]; exact fewL_len L0 40
  have hsh : Short L := by rw [hL]; exact fewL_short L0 40
  have hls := few_list hu
  rw [← hL] at hls
  have HB2 := Lib.hid (HB1.out.trans (hB2.mono HB1.out.size))
  obtain ⟨a, c, rfl⟩ := hls.form
  obtain ⟨n, hn⟩ : ∃ n, n = L.length := ⟨_, rfl⟩
  have HN := Lib.hid hn
  rw [← hn] at hls hlen ⊢
  have HLA : Hid (∀ W, Below w2.heap.size w2 W → ListAt W (.slice a n c) L) := Lib.hid (fun W hW => hls.below hW)
  have HTT : Hid (∀ W, Below w2.heap.size w2 W → Tabs W) := Lib.hid (fun W hW => (HT.out.below HB2.out).below hW)
  have HSH := Lib.hid hsh
  clear hu hB2 hL hls hsh hn
  go_wp2_with fail
  refine (Root_any _ L _ (HLA.out _ (Below.refl _ _)) (HTT.out _ (Below.refl _ _))).mono ?_
  rintro e w3 ⟨rfl, hB3⟩
  have HB3 := Lib.hid hB3
  clear hB3
  go_wp2_with fail
  go_loopw [7] (fun pk wr => ∃ k : Nat, k ≤ n ∧ pk = .int .i64 k ∧ Below w2.heap.size w2 wr) (fun pk _ => n - (intOf pk).toNat)
  case atStart => exact ⟨0, by omega, rfl, HB3.out⟩
  case round =>
    obtain ⟨k, hk, rfl, hB⟩ := hrel
    have HB := Lib.hid hB
    clear hB
    by_cases hkn : k < n
    · have hkn' : (k : Int) < (n : Int) := by omega
      have hk0 : 0 ≤ (k : Int) := by omega
      have hkL : k < L.length := by rw [← HN.out]; exact hkn
      obtain ⟨b, off, ha, hcell⟩ := (HLA.out _ HB.out).nth hkL
      subst ha
      have HCELL := Lib.hid hcell
      obtain ⟨x, hx⟩ : ∃ x, x = L.getD k ByteArray.empty := ⟨_, rfl⟩
      have hxs : x.size ≤ 1000 := by rw [hx]; exact HSH.out.get k
      have HVER : Hid (verB (rootB L) n k x (sibsB L k) = true) := Lib.hid (by rw [hx, HN.out]; exact ver_yes L k hkL)
      rw [← hx] at HCELL
      obtain ⟨pl, hpl⟩ : ∃ p, p = (sibsB L k).length := ⟨_, rfl⟩
      have hpb : pl ≤ Dt.bin n := by rw [hpl, HN.out]; exact Dt.sibs_bin shaB L k
      have hpb' : ¬ ((Dt.bin n : Int) < (pl : Int)) := by omega
      have HPL := Lib.hid hpl
      clear hcell hx hpl hkL
      go_wp2_with fail
      refine (Proof_yes _ L k _ (HLA.out _ HB.out) (by rw [← HN.out]; omega) (by rw [← HN.out]; exact hkn) (HTT.out _ HB.out)).mono ?_
      rintro e w4 ⟨p, rfl, hp, hB4⟩
      obtain ⟨pa, pc, rfl⟩ := hp.form
      rw [← HPL.out] at hp ⊢
      have HP4 := Lib.hid hp
      have HB4 := Lib.hid (HB.out.trans (hB4.mono HB.out.size))
      have hc4 := HCELL.out _ hB4
      clear hp hB4
      go_wp2_with fail
      refine (binary_any n _ (by omega)).mono ?_
      rintro e w' ⟨rfl, rfl⟩
      go_wp2_with fail
      refine (Verify_any _ x n k (sibsB L k) _ _ hxs (by omega) (HP4.out.list (sibs_short _ _)) (HTT.out _ HB4.out)).mono ?_
      rintro e w5 ⟨rfl, hB5⟩
      rw [HVER.out]
      have HB5 := Lib.hid (HB4.out.trans (hB5.mono HB4.out.size))
      clear hB5
      go_wp2_with fail
      go_roundw
      case rel => exact ⟨k + 1, by omega, by go_num, HB5.out⟩
      case measure => simp [intOf]; omega
    · by_cases hin : 0 ≤ i ∧ i < n
      · obtain ⟨h0, h1⟩ := hin
        obtain ⟨j, rfl⟩ := Int.eq_ofNat_of_zero_le h0
        have hj0 : 0 ≤ (j : Int) := by omega
        have hjL : j < L.length := by rw [← HN.out]; omega
        obtain ⟨b, off, ha, hcell⟩ := (HLA.out _ HB.out).nth hjL
        subst ha
        have HCELL := Lib.hid hcell
        obtain ⟨x, hx⟩ : ∃ x, x = L.getD j ByteArray.empty := ⟨_, rfl⟩
        have hxs : x.size ≤ 1000 := by rw [hx]; exact HSH.out.get j
        rw [← hx] at HCELL
        obtain ⟨P, hP⟩ : ∃ P, P = sibsB L j := ⟨_, rfl⟩
        have hPs : Short P := by rw [hP]; exact sibs_short L j
        have hPl : P.length ≤ 40 := by rw [hP]; have := sibs_le L j; have := HN.out; omega
        have HOTHER : Hid (∀ q : List ByteArray, q.length ≠ P.length → verB (rootB L) n j x q = false) := Lib.hid (fun q hq => by rw [HN.out]; exact ver_other L (rootB L) x j hjL q (by rw [← hP]; exact hq))
        obtain ⟨pl, hpl⟩ : ∃ p, p = P.length := ⟨_, rfl⟩
        have HPL := Lib.hid hpl
        have HJN : Hid (j < L.length) := Lib.hid hjL
        have HPE := Lib.hid hP
        have HPS := Lib.hid hPs
        have hpl40 : pl ≤ 40 := by omega
        clear hcell hx hpl hjL hP hPs hPl
        go_wp2_with fail
        refine (Proof_yes _ L j _ (HLA.out _ HB.out) (by rw [← HN.out]; omega) HJN.out (HTT.out _ HB.out)).mono ?_
        rintro e w4 ⟨p, rfl, hp, hB4⟩
        rw [← HPE.out] at hp
        obtain ⟨pa, pc, rfl, hpc, hpa⟩ := hp.form2
        rw [← HPL.out] at hp hpc hpa ⊢
        have HP4 := Lib.hid (hp.list HPS.out)
        have HB4 := Lib.hid (HB.out.trans (hB4.mono HB.out.size))
        have HCB : Hid (∀ W, Below w4.heap.size w4 W → W.cell? ⟨b, off + j, none⟩ = some (.string x) ∧ Below w4.heap.size w4 W) := Lib.hid (fun W hW => ⟨HCELL.out W (hB4.trans (hW.mono hB4.size)), hW⟩)
        have HLP : Hid (∀ W, Below w4.heap.size w4 W → ListAt W (.slice pa pl pc) P) := Lib.hid (fun W hW => HP4.out.below hW)
        have HTC : Hid (∀ W, Below w4.heap.size w4 W → Tabs W) := Lib.hid (fun W hW => HTT.out W (HB4.out.trans (hW.mono HB4.out.size)))
        have HA4 : Hid (∀ W o, Below w4.heap.size w4 W → Below w4.heap.size w4 (W.alloc o)) := Lib.hid (fun W o h => h.alloc h.size o)
        obtain ⟨root, hroot⟩ : ∃ r, r = rootB L := ⟨_, rfl⟩
        have hrs : root.size ≤ 1000 := by rw [hroot, rootB_size]; decide
        rw [← hroot] at HOTHER ⊢
        have HVL : Hid (∀ W v, Below w4.heap.size w4 W → OwnL W w4.heap.size v (([] ++ P) ++ [root]) → Calls Tryd.prog 29 #[.string root, .int .i64 n, .int .i64 j, .string x, v] W fun e w' => e = .returned (.bool false) ∧ w'.cell? ⟨b, off + j, none⟩ = some (.string x) ∧ Below w4.heap.size w4 w') := Lib.hid (fun W v hW hO => by
          have hsh' : Short (([] ++ P) ++ [root]) := fun y hy => by
            rcases List.mem_append.1 hy with h | h
            · exact HPS.out y (by simpa using h)
            · rw [List.mem_singleton] at h; subst h; exact hrs
          refine (Verify_any root x n j (([] ++ P) ++ [root]) v W hxs (by omega) (hO.list hsh') (HTC.out W hW)).mono fun e w' h => ?_
          rw [HOTHER.out _ (by simp)] at h
          exact ⟨h.1, HCB.out _ (hW.trans (h.2.mono hW.size))⟩)
        have hl1 : ([] : List ByteArray).length + P.length ≤ 1000 := by rw [← HPL.out]; simp; omega
        have hl2 : (([] : List ByteArray) ++ P).length + [root].length ≤ 1000 := by simp; rw [← HPL.out]; omega
        have hjn : (j : Int) < (n : Int) := by omega
        clear hp hB4 hroot h0 h1
        go_wp2_with fail
        have hD : Below w4.heap.size w4 w4.drew := (Below.refl _ _).drew
        go_region_held3 (fun w' => w'.cell? ⟨b, off + j, none⟩ = some (.string x) ∧ Below w4.heap.size w4 w') (first | (refine ⟨?_, ?_⟩ <;> assumption) | (refine HCB.out _ ?_; (repeat (first | assumption | exact Below.refl _ _ | (with_reducible refine Below.drew ?_) | (with_reducible refine HA4.out _ _ ?_))); done)) ((first
          | (refine step_append_from rfl (.tmp 105) (.tmp 106) rfl w4 _ _ [] P rfl rfl hl1 ?_ ?_ ?_ ?_; (focus (first | (refine OwnL.drew (OwnL.empty (Below.size (B := w4.heap.size) (w := w4) ?_)); (repeat (first | assumption | exact Below.refl _ _ | (with_reducible refine Below.drew ?_) | (with_reducible refine HA4.out _ _ ?_))); done) | (refine OwnL.drew (OwnL.empty1 (Below.size (B := w4.heap.size) (w := w4) ?_) _); (repeat (first | assumption | exact Below.refl _ _ | (with_reducible refine Below.drew ?_) | (with_reducible refine HA4.out _ _ ?_))); done) | (refine OwnL.empty (Below.size (B := w4.heap.size) (w := w4) ?_); (repeat (first | assumption | exact Below.refl _ _ | (with_reducible refine Below.drew ?_) | (with_reducible refine HA4.out _ _ ?_))); done) | (refine OwnL.alloc (OwnL.drew (OwnL.empty (Below.size (B := w4.heap.size) (w := w4) ?_))) _; (repeat (first | assumption | exact Below.refl _ _ | (with_reducible refine Below.drew ?_) | (with_reducible refine HA4.out _ _ ?_))); done) | (refine OwnL.alloc (OwnL.empty (Below.size (B := w4.heap.size) (w := w4) ?_)) _; (repeat (first | assumption | exact Below.refl _ _ | (with_reducible refine Below.drew ?_) | (with_reducible refine HA4.out _ _ ?_))); done) | (refine OwnL.drew (OwnL.alloc (OwnL.empty (Below.size (B := w4.heap.size) (w := w4) ?_)) _); (repeat (first | assumption | exact Below.refl _ _ | (with_reducible refine Below.drew ?_) | (with_reducible refine HA4.out _ _ ?_))); done))); (focus (refine HLP.out _ ?_; (repeat (first | assumption | exact Below.refl _ _ | (with_reducible refine Below.drew ?_) | (with_reducible refine HA4.out _ _ ?_))); done)); (focus ((repeat (first | assumption | exact Below.refl _ _ | (with_reducible refine Below.drew ?_) | (with_reducible refine HA4.out _ _ ?_))); done)); intro v7 w7 ho7 hb7 hk7; (try have hr7 := one_after1 (W := w4) hrs _ _ hk7 rfl); (try have hr7 := one_after2 (W := w4) hrs _ _ hk7 rfl); clear hk7)
          | (refine step_append_from rfl (.tmp 107) (.tmp 109) rfl w4 _ _ ([] ++ P) [root] rfl rfl hl2 ?_ ?_ ?_ ?_; (focus (first | assumption | (refine OwnL.alloc ?_ _; assumption))); (focus (first | assumption | (refine OwnL.list (OwnL.one (Nat.le_refl _) root) ?_; intro y hy; rw [List.mem_singleton] at hy; subst hy; exact hrs))); (focus ((repeat (first | assumption | exact Below.refl _ _ | (with_reducible refine Below.drew ?_) | (with_reducible refine HA4.out _ _ ?_))); done)); intro v9 w9 ho9 hb9 hk9; clear hk9)
          | (go_at_call 29; refine (HVL.out _ _ ?_ ?_).mono ?_; (focus assumption); (focus assumption); rintro e w5 ⟨rfl, hc5, hb5⟩)))
        all_goals
          have HB5 := Lib.hid hb5
          have HC5 := Lib.hid hc5
          clear hb5 hc5
          by_cases hp0 : pl = 0
          · have g0 : decide (0 < pl) = false := by simp; omega
            have g1 : ¬ 0 < pl := by omega
            clear hp0
            go_wp2_with fail
            go_quiet (fail)
            go_wp2_with fail
            go_ret
            exact ⟨rfl, Below.trans (HB2.out.trans ((HB4.out.trans (HB5.out.mono HB4.out.size)).mono HB2.out.size)) ⟨rfl, rfl, rfl, Nat.le_refl _, fun _ _ => rfl⟩⟩
          · have g0 : decide (0 < pl) = true := by simp; omega
            have g1 : 0 < pl := by omega
            obtain ⟨a1, ha1, hsl⟩ := slice_rest pa pl pc (by omega)
            have HV2 : Hid (∀ W, Below w4.heap.size w4 W → Calls Tryd.prog 29 #[.string root, .int .i64 n, .int .i64 j, .string x, .slice a1 (pl - 1) (pc - 1)] W fun e w' => e = .returned (.bool false) ∧ w'.cell? ⟨b, off + j, none⟩ = some (.string x) ∧ Below w4.heap.size w4 w') := Lib.hid (fun W hW => by
              refine (Verify_any root x n j (P.drop 1) _ W hxs (by omega) ((HLP.out W hW).rest HPL.out (by omega) ha1) (HTC.out W hW)).mono fun e w' h => ?_
              rw [HOTHER.out _ (by rw [List.length_drop, ← HPL.out]; omega)] at h
              exact ⟨h.1, HCB.out _ (hW.trans (h.2.mono hW.size))⟩)
            clear ha1 hp0
            go_wp2_with fail
            go_region_held3 (fun w' => w'.cell? ⟨b, off + j, none⟩ = some (.string x) ∧ Below w4.heap.size w4 w') (first | (refine ⟨?_, ?_⟩ <;> assumption) | exact ⟨HC5.out, HB5.out.drew⟩ | exact ⟨HC5.out, HB5.out⟩) ((go_at_call 29; refine (HV2.out _ ?_).mono ?_; (focus (first | assumption | exact HB5.out | exact HB5.out.drew)); rintro e w6 ⟨rfl, hc6, hb6⟩))
            all_goals
              go_wp2_with fail
              go_ret
              exact ⟨rfl, HB2.out.trans ((HB4.out.trans (Below.mono (by assumption) HB4.out.size)).mono HB2.out.size)⟩
      · have HNO : Hid (verB (rootB L) n i ⟨#[]⟩ [] = false) := Lib.hid (ver_out _ _ n i [] hin)
        have HIN := Lib.hid hin
        by_cases h0 : i < 0
        · clear hin
          go_wp2_with fail
          refine (Proof_no _ L i _ (HLA.out _ HB.out) (by rw [← HN.out]; exact HIN.out)).mono ?_
          rintro e w' ⟨rfl, rfl⟩
          go_wp2_with fail
          refine (Verify_any _ _ _ _ [] _ _ (by decide) (by omega) (OwnL.nil wr 0 |>.list (fun x hx => by cases hx)) (HTT.out _ HB.out)).mono ?_
          rintro e w6 ⟨rfl, hB6⟩
          rw [HNO.out]
          go_wp2_with fail
          go_ret
          exact ⟨rfl, HB2.out.trans ((HB.out.trans (hB6.mono HB.out.size)).mono HB2.out.size)⟩
        · have h1 : (n : Int) ≤ i := by omega
          have h0' : 0 ≤ i := by omega
          have h2 : decide (i < (n : Int)) = false := by simp; omega
          clear hin
          go_wp2_with fail
          refine (Proof_no _ L i _ (HLA.out _ HB.out) (by rw [← HN.out]; exact HIN.out)).mono ?_
          rintro e w' ⟨rfl, rfl⟩
          go_wp2_with fail
          refine (Verify_any _ _ _ _ [] _ _ (by decide) (by omega) (OwnL.nil wr 0 |>.list (fun x hx => by cases hx)) (HTT.out _ HB.out)).mono ?_
          rintro e w6 ⟨rfl, hB6⟩
          rw [HNO.out]
          go_wp2_with fail
          go_ret
          exact ⟨rfl, HB2.out.trans ((HB.out.trans (hB6.mono HB.out.size)).mono HB2.out.size)⟩
end Go.Proofs.YtlnlhjkdbpkaiaaDoor
