/- The reference's search. Conditions: a table that can be read; its formats have at most a thousand fields. -/
import Derived.Test.YtcnokccgdiodlaaGreatDoorRefRow
import Derived.Test.YtcnokccgdiodlaaGreatDoorFmtZf
namespace Go.Proofs.YtcnokccgdiodlaaGreatDoor
open Go.RowKit Go.Shelf Fx Go.Sort

theorem append_none_c {w : World} (base : Nat) (ty : TypeId) (i : TypeInfo) (hi : Tryz.prog.info? 56 = some i) (v : Value) (n c : Nat) (xs : List Value) (hown : w.ownsRow base 56 4 v n xs) :
    (Builtin.append_ #[32, 32] ty #[v, .slice none 0 c]).run Tryz.prog w = .ok v w := by
  rcases hown.2 with ⟨rfl, rfl⟩ | ⟨g, cap, cur, rfl, _, _, hnc, _⟩
  · simp [Builtin.append_, run_underlying Tryz.underlying32, sizeOf, typeInfo, hi, Builtin.lenOf, Builtin.firstCells]
  · simp [Builtin.append_, run_underlying Tryz.underlying32, sizeOf, typeInfo, hi, Builtin.lenOf, Builtin.firstCells, hnc, storeCells]
theorem flat_one (fs : List Fld) : ∀ u ∈ flat fs, u.oneCell' = true := by
  intro u hu
  unfold flat at hu
  obtain ⟨f, _, hf⟩ := List.mem_flatMap.1 hu
  simp only [fldC, List.mem_cons, List.not_mem_nil, or_false] at hf
  rcases hf with rfl | rfl | rfl | rfl <;> rfl
theorem run_append_flds (w : World) (B : Nat) (ty : TypeId) (v : Value) (n : Nat) (xs : List Value) (hown : w.ownsRow B 56 4 v n xs) (hB : B ≤ w.heap.size) (u : Value) (fs : List Fld) (hF : FldsAt w u fs) (hnm : n + fs.length ≤ 1000) :
    ∃ v' w', (Builtin.append_ #[32, 32] ty #[v, u]).run Tryz.prog w = .ok v' w' ∧ Grew w w' B 56 4 v v' (n + fs.length) (xs ++ flat fs) := by
  obtain ⟨i0, hi, hz0, hz1, hz2⟩ := info_parts infoFld
  rcases hF with ⟨a, c, rfl, rfl⟩ | ⟨b, off, cap, rfl, h1, h2, h3, h4, h5⟩
  · cases a with
    | none => exact ⟨v, w, append_none_c B ty i0 hi v n c xs hown, ⟨by simpa [flat] using hown, ⟨rfl, rfl, rfl, Nat.le_refl _, fun _ _ _ => rfl⟩, .inl rfl⟩⟩
    | some ad =>
      obtain ⟨v', w', e1, e2, e3, _, e5⟩ := run_append_own_at (P := Tryz.prog) w B 32 ty 56 i0 _ 4 _ Tryz.underlying32 hi hz0 hz1 hz2 rfl (by decide) v n xs hown ad 0 c [] rfl (fun j y hy => by simp at hy) (fun y hy => by simp at hy) (by unfold maxLen; omega) (by simp at hnm; omega) hB
      exact ⟨v', w', e1, e2, e3, e5⟩
  · obtain ⟨v', w', e1, e2, e3, _, e5⟩ := run_append_own_at (P := Tryz.prog) w B 32 ty 56 i0 _ 4 _ Tryz.underlying32 hi hz0 hz1 hz2 rfl (by decide) v n xs hown ⟨b, off, none⟩ fs.length cap (flat fs) (flat_len fs)
      (fun j y hy => by
        have hj : j < fs.length * 4 := by
          rcases Nat.lt_or_ge j (fs.length * 4) with h | h
          · exact h
          · rw [List.getElem?_eq_none (by rw [flat_len]; omega)] at hy; cases hy
        have hadd : (⟨b, off, none⟩ : Addr).add j = ⟨b, off + j, none⟩ := by unfold Addr.add; split <;> simp_all
        have hf := h5 (j / 4) (by omega)
        have hg := flat_get (fs := fs) (i := j / 4) (by omega) (j % 4) (by omega)
        rw [show j / 4 * 4 + j % 4 = j by omega, hy] at hg
        rw [hadd]
        obtain h | h | h | h : j % 4 = 0 ∨ j % 4 = 1 ∨ j % 4 = 2 ∨ j % 4 = 3 := by omega
        all_goals rw [h] at hg; simp [fldC] at hg; subst hg
        · rw [show off + j = off + j / 4 * 4 by omega]; exact hf.c0
        · rw [show off + j = off + j / 4 * 4 + 1 by omega]; exact hf.c1
        · rw [show off + j = off + j / 4 * 4 + 2 by omega]; exact hf.c2
        · rw [show off + j = off + j / 4 * 4 + 3 by omega]; exact hf.c3)
      (flat_one fs) (by unfold maxLen; omega) (by omega) hB
    exact ⟨v', w', e1, e2, e3, e5⟩
theorem wpList_append_flds {ops : Array Oper} {rest : List Oper} {o : Oper} {a : Act} {w : World} {Q : Exit → Act → World → Prop}
    (hg : o.guard = none) (s x : Operand) (hop : o.op = Op.call { callee := Callee.builtin Builtin.append, args := #[s, x], argTypes := #[32, 32] })
    (B : Nat) (v : Value) (n : Nat) (xs : List Value) (hs : a.eval s = v) (hown : w.ownsRow B 56 4 v n xs) (hB : B ≤ w.heap.size) (u : Value) (fs : List Fld) (hx : a.eval x = u) (hF : FldsAt w u fs) (hnm : n + fs.length ≤ 1000)
    (hK : ∀ v' w', Grew w w' B 56 4 v v' (n + fs.length) (xs ++ flat fs) → wpList Tryz.prog ops Q rest (a.put o.dst v') w') : wpList Tryz.prog ops Q (o :: rest) a w :=
  wpList_plain hg fun _ hK' => by
    obtain ⟨v', w', hr, h2⟩ := run_append_flds w B o.type v n xs hown hB u fs hF hnm
    unfold Oper.wp
    simp [execOp, hop, resolve, invoke, builtin, hs, hx, hr, Result.andThen]
    exact hK' _ _ (hK _ _ h2)
theorem findO_step {l : List Fm} {id : Int} {k : Nat} (hk : k < l.length) (h : (l.getD k zm).id ≠ id) : findO (l.drop k) id = findO (l.drop (k + 1)) id := by
  have e : l.getD k zm = l[k] := by simp [List.getD, List.getElem?_eq_getElem hk]
  rw [e] at h
  rw [List.drop_eq_getElem_cons hk]
  unfold findO
  rw [List.find?_cons_of_neg (by simpa using h)]
theorem findO_here {l : List Fm} {id : Int} {k : Nat} (hk : k < l.length) (h : (l.getD k zm).id = id) : findO (l.drop k) id = some (l.getD k zm) := by
  have e : l.getD k zm = l[k] := by simp [List.getD, List.getElem?_eq_getElem hk]
  rw [e] at h ⊢
  rw [List.drop_eq_getElem_cons hk]
  unfold findO
  rw [List.find?_cons_of_pos (by simpa using h)]
set_option maxRecDepth 100000 in
set_option maxHeartbeats 2000000 in
theorem rFind2_any (v : Value) (l : List Fm) (id : Int) (w : World) (hV : FmsAt (· < w.heap.size) w v l) (hS : ∀ i, i < l.length → (l.getD i zm).fs.length ≤ 1000) :
    Calls Tryz.prog 17 #[v, .int .i64 id] w (FindPost2 (findO l id) id w) := by
  obtain ⟨a, c, rfl, hlc⟩ := hV.slice_
  obtain ⟨n, hn⟩ : ∃ n, n = l.length := ⟨_, rfl⟩
  rw [← hn] at hV hlc ⊢
  have HV := Lib.hid (And.intro hV (And.intro hn hS))
  clear hV hS hn
  go_enter Tryz.func17, Tryz.ntmps17
  go_wp2_with fail
  obtain ⟨w0, hw0⟩ : ∃ w0, w0 = w.alloc (.cells #[.int .i64 0, .slice none 0 0] 34) := ⟨_, rfl⟩
  rw [← hw0]
  have H0 : Hid (Below w.heap.size w w0 ∧ w0.heap[w.heap.size]? = some (.cells #[.int .i64 0, .slice none 0 0] 34 (0, 0))) := Lib.hid ⟨by rw [hw0]; exact bx _, by rw [hw0]; exact heap_alloc_new _ _⟩
  clear hw0
  go_loop [6] (fun i => ∃ k : Nat, k ≤ n ∧ i = .int .i64 k ∧ Hid (findO l id = findO (l.drop k) id)) (fun i => n - (intOf i).toNat)
  case atStart => exact ⟨0, Nat.zero_le _, rfl, Lib.hid rfl⟩
  case round =>
    obtain ⟨k, hk, rfl, HI⟩ := hrel
    by_cases hkn : k < n
    · have hkl : k < l.length := by have := HV.out.2.1; omega
      obtain ⟨b, off, rfl, -, hbl, -, m1, m2, hfm⟩ := HV.out.1.at_ (by omega)
      obtain ⟨f, hf⟩ : ∃ f, f = l.getD k zm := ⟨_, rfl⟩
      obtain ⟨u, hu⟩ := hfm k hkl
      rw [← hf] at hu
      have hu1 := hu.kept (Kept.of_below H0.out.1 fun _ h => h) hbl
      have c0 := hu1.c0
      have c1 := hu1.c1
      obtain ⟨ua, uc, rfl, hucl⟩ := hu1.fs.slice_
      obtain ⟨m, hm⟩ : ∃ m, m = f.fs.length := ⟨_, rfl⟩
      rw [← hm] at hucl hu hu1 c1
      have lb := World.block_lt_of_cell? (h := c0)
      have hmn : m ≤ 1000 := by rw [hm, hf]; exact HV.out.2.2 k hkl
      have HF := Lib.hid (And.intro hu1.fs (And.intro hm hf))
      unfold maxLen at m2
      by_cases hid : f.id = id
      · have HFO : Hid (findO l id = some f) := Lib.hid (by rw [HI.out, hf]; exact findO_here hkl (by rw [← hf]; exact hid))
        rw [hid] at c0
        have HW : Hid ((w0.alloc (.cells #[] 56)).ownsRow w.heap.size 56 4 (.slice (some ⟨w0.heap.size, 0, none⟩) 0 0) 0 [] ∧ w.heap.size ≤ (w0.alloc (.cells #[] 56)).heap.size ∧ FldsAt (w0.alloc (.cells #[] 56)) (.slice ua m uc) f.fs) := Lib.hid
          ⟨World.ownsRow_lit w0 #[] 0 H0.out.1.size (by unfold maxLen; omega) rfl, by have := H0.out.1.size; simp; omega, HF.out.1.below (bx _)⟩
        have HK : Hid (∀ v1 wA, Grew (w0.alloc (.cells #[] 56)) wA w.heap.size 56 4 (.slice (some ⟨w0.heap.size, 0, none⟩) 0 0) v1 (0 + f.fs.length) ([] ++ flat f.fs) → ∃ a1 c1, v1 = .slice a1 m c1 ∧ Hid (Below w.heap.size w wA ∧ wA.heap[w.heap.size]? = some (.cells #[.int .i64 0, .slice none 0 0] 34 (0, 0)) ∧ FldsAt wA v1 f.fs ∧ ∀ g, v1.ownBlock = some g → g ≠ w.heap.size ∧ g < wA.heap.size)) := Lib.hid fun v1 wA hG => by
          rw [Nat.zero_add, List.nil_append] at hG
          have hlt : w.heap.size < w0.heap.size := lt_of_heap H0.out.2
          have hA : wA.heap[w.heap.size]? = some (.cells #[.int .i64 0, .slice none 0 0] 34 (0, 0)) := by
            refine (hG.grown.block _ (by simp; omega) fun e => ?_).trans (((bx _).block _ hlt).trans H0.out.2)
            simp only [Value.ownBlock, Option.some.injEq] at e
            omega
          obtain ⟨a1, c1, rfl, _, _⟩ := own_slice hG.own
          refine ⟨a1, c1, by rw [hm], Lib.hid ⟨(H0.out.1.trans ((bx _).mono H0.out.1.size)).grown hG.grown (by have := H0.out.1.size; simp; omega) (fun g hg => ?_), hA, FldsAt.of_own hG.own, fun g hg => ⟨fun e => ?_, own_lt hG.own hg⟩⟩⟩
          · simp only [Value.ownBlock, Option.some.injEq] at hg; omega
          · obtain ⟨cur, hh⟩ := own_heap hG.own hg
            rw [e, hA] at hh; cases hh
        clear hfm hu hu1 hm hf hid
        go_wp2_with (first
          | (at_builtin; refine wpList_append_flds rfl (.tmp 21) (.tmp 26) rfl w.heap.size (.slice (some ⟨w0.heap.size, 0, none⟩) 0 0) 0 [] rfl HW.out.1 HW.out.2.1 (.slice ua m uc) f.fs rfl HW.out.2.2 (by have := HF.out.2.1; omega) ?_; intro v1 wA hG; obtain ⟨a1, d1, rfl, H2⟩ := HK.out v1 wA hG; clear hG)
          | (refine wpList_store_row rfl 34 _ _ rfl w.heap.size #[.int .i64 id, .slice a1 m d1] rfl rfl 34 _ H2.out.2.1 (infoFmt2.trans rfl) rfl (by simp [Value.oneCell']) ?_))
        refine bodyPost_ret (v := .tuple #[.agg #[.int .i64 id, .slice a1 m d1], .bool true]) (results_ct_fmt (p := 4) (u := 5) rfl _ _ w.heap.size #[.int .i64 id, .slice a1 m d1] rfl (setRow_heap _ _ _ _ _ _ H2.out.2.1) rfl) rfl ?_
        rw [HFO.out]
        have hk2 : ∀ q, q ≠ w.heap.size → (wA.setRow w.heap.size #[.int .i64 id, .slice a1 m d1]).heap[q]? = wA.heap[q]? := fun q hq => by
          simp only [World.setRow, Array.getElem?_modify]
          rw [if_neg (by omega)]
        exact ⟨⟨_, rfl, H2.out.2.2.1.keep (by simp) (fun g hg => hk2 g (H2.out.2.2.2 g hg).1), fun g hg => by have := (H2.out.2.2.2 g hg).2; simpa [World.setRow] using this⟩, H2.out.1.trans ⟨rfl, rfl, rfl, by simp, fun q h => hk2 q (by omega)⟩⟩
      · have HN : Hid (findO l id = findO (l.drop (k + 1)) id) := Lib.hid (by rw [HI.out]; exact findO_step hkl (by rw [← hf]; exact hid))
        clear hfm hu hu1 hm hf
        go_wp2_with fail
        exact ⟨⟨k + 1, by omega, by go_num, HN⟩, by simp [intOf]; omega⟩
    · obtain rfl : k = n := by omega
      have HE : Hid (findO l id = none) := Lib.hid (by rw [HI.out, HV.out.2.1, List.drop_length]; rfl)
      go_wp2_with (first | (refine wpList_store_row rfl 34 _ _ rfl w.heap.size #[.int .i64 0, .slice none 0 0] rfl rfl 34 _ H0.out.2 (infoFmt2.trans rfl) rfl (by simp [Value.oneCell']) ?_))
      refine bodyPost_ret (v := .tuple #[.agg #[.int .i64 0, .slice none 0 0], .bool false]) (results_ct_fmt (p := 4) (u := 5) rfl _ _ w.heap.size #[.int .i64 0, .slice none 0 0] rfl (setRow_heap _ _ _ _ _ _ H0.out.2) rfl) rfl ?_
      rw [HE.out]
      refine ⟨rfl, H0.out.1.trans ⟨rfl, rfl, rfl, by simp, fun q hq => ?_⟩⟩
      simp only [World.setRow, Array.getElem?_modify]
      rw [if_neg (by omega)]
end Go.Proofs.YtcnokccgdiodlaaGreatDoor
