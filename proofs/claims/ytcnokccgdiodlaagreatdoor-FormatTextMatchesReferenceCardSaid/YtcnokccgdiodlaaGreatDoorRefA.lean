/- The reference's ranges, numbers and least lengths. Conditions: the lists are readable; their numbers are ints. -/
import Derived.Test.YtcnokccgdiodlaaGreatDoorFmtZe
import Derived.Test.YtcnokccgdiodlaaGreatDoorRefPlain
namespace Go.Proofs.YtcnokccgdiodlaaGreatDoor
open Go.RowKit Go.Shelf Fx Go.Sort

theorem rwithin_any (n lo hi : Int) (v : Bool) (w : World) (hv : withinB n lo hi = v) :
    Calls Tryz.prog 58 #[.int .i64 n, .int .i64 lo, .int .i64 hi] w fun e w' => e = .returned (.bool v) ∧ w' = w := by
  subst hv
  unfold withinB
  by_cases h1 : lo ≤ n
  · have h2 : decide (lo ≤ n) = true := decide_eq_true h1
    go_enter Tryz.func58, Tryz.ntmps58
    go_wp2_with fail
    go_ret
    exact ⟨by simp [h1], rfl⟩
  · have h2 : decide (lo ≤ n) = false := decide_eq_false h1
    go_enter Tryz.func58, Tryz.ntmps58
    go_wp2_with fail
    go_ret
    exact ⟨by simp, rfl⟩
theorem wrap64_w64 (n : Int) : wrap64 n = w64 n := by rw [← IntWalk.i64_left, IntKind.wrap_i64]; rfl
/-- A row of the call's own ints. -/
abbrev OwnI (w : World) (B : Nat) (v : Value) (l : List Int) : Prop := w.ownsRow B 3 1 v l.length (l.map fun n => Value.int .i64 n)
theorem OwnI.at_ {w : World} {B : Nat} {v : Value} {l : List Int} (h : OwnI w B v l) : ∃ a c, v = .slice a l.length c ∧ (l.length = 0 ∨ ∃ b, a = some ⟨b, 0, none⟩ ∧ B ≤ b ∧ b < w.heap.size ∧ l.length ≤ c ∧ c ≤ maxLen ∧ ∀ j, j < l.length → w.cell? ⟨b, j, none⟩ = some (.int .i64 (l.getD j 0))) := by
  rcases h.2 with ⟨rfl, h0⟩ | ⟨g, cap, cur, rfl, hg, hh, hl, hm, hsz, ht⟩
  · exact ⟨none, 0, by rw [h0], .inl h0⟩
  · refine ⟨_, _, rfl, .inr ⟨g, rfl, hg, lt_of_heap hh, hl, hm, fun j hj => ?_⟩⟩
    rw [cell_of_row w g j cur _ (0, 0) hh]
    have e : (cur.toList.take (l.length * 1))[j]? = (l.map fun n => Value.int .i64 n)[j]? := by rw [ht]
    rw [List.getElem?_take, if_pos (by omega)] at e
    simp only [Array.getElem?_toList] at e
    rw [e]
    simp [List.getElem?_eq_getElem hj, List.getD]
theorem infoInt : (Tryz.prog.info? 3).map (fun i => (i.zero, i.size, i.bytes)) = some (some (.int .i64 0), 1, 8) := by kernel_rfl
theorem run_append_int (w : World) (B : Nat) (ty : TypeId) (v : Value) (n : Nat) (xs : List Value) (hown : w.ownsRow B 3 1 v n xs) (hB : B ≤ w.heap.size) (hn : n ≤ 1000) (g : Nat) (x : Int) (hg : w.heap[g]? = some (.cells #[.int .i64 x] 3 (0, 0))) :
    ∃ v' w', (Builtin.append_ #[31, 31] ty #[v, .slice (some ⟨g, 0, none⟩) 1 1]).run Tryz.prog w = .ok v' w' ∧ Grew w w' B 3 1 v v' (n + 1) (xs ++ [.int .i64 x]) := by
  obtain ⟨i0, hi, hz0, hz1, hz2⟩ := info_parts infoInt
  obtain ⟨v', w', h1, h2, h3, _, h5⟩ := run_append_own_at (P := Tryz.prog) w B 31 ty 3 i0 _ 1 8 Tryz.underlying31 hi hz0 hz1 hz2 rfl (by decide) v n xs hown ⟨g, 0, none⟩ 1 1 [.int .i64 x] rfl
    (fun j y hy => by
      have hadd : (⟨g, 0, none⟩ : Addr).add j = ⟨g, j, none⟩ := by unfold Addr.add; split <;> simp_all
      rw [hadd, cell_of_row w g j _ _ _ hg]; simpa using hy)
    (fun y hy => by simp at hy; subst hy; rfl) (by unfold maxLen; omega) (by omega) hB
  exact ⟨v', w', h1, h2, h3, h5⟩
theorem wpList_append_int {ops : Array Oper} {rest : List Oper} {o : Oper} {a : Act} {w : World} {Q : Exit → Act → World → Prop}
    (hg : o.guard = none) (s x : Operand) (hop : o.op = Op.call { callee := Callee.builtin Builtin.append, args := #[s, x], argTypes := #[31, 31] })
    (B : Nat) (v : Value) (n : Nat) (xs : List Value) (hs : a.eval s = v) (hown : w.ownsRow B 3 1 v n xs) (hB : B ≤ w.heap.size) (hn : n ≤ 1000) (g : Nat) (y : Int) (hx : a.eval x = .slice (some ⟨g, 0, none⟩) 1 1)
    (hb : w.heap[g]? = some (.cells #[.int .i64 y] 3 (0, 0)))
    (hK : ∀ v' w', Grew w w' B 3 1 v v' (n + 1) (xs ++ [.int .i64 y]) → wpList Tryz.prog ops Q rest (a.put o.dst v') w') : wpList Tryz.prog ops Q (o :: rest) a w :=
  wpList_plain hg fun _ hK' => by
    obtain ⟨v', w', hr, h2⟩ := run_append_int w B o.type v n xs hown hB hn g y hb
    unfold Oper.wp
    simp [execOp, hop, resolve, invoke, builtin, hs, hx, hr, Result.andThen]
    exact hK' _ _ (hK _ _ h2)
set_option maxHeartbeats 1000000 in
set_option maxRecDepth 100000 in
theorem leasts_any (v : Value) (l : List Fm) (w : World) (hV : FmsAt (· < w.heap.size) w v l) (hl : l.length ≤ 1000) :
    Calls Tryz.prog 35 #[v] w fun e w' => (∃ u, e = .returned u ∧ OwnI w' w.heap.size u ((rls l []).map (·.2))) ∧ Below w.heap.size w w' := by
  obtain ⟨a, c, rfl, hlc⟩ := hV.slice_
  obtain ⟨n, hn⟩ : ∃ n, n = l.length := ⟨_, rfl⟩
  rw [← hn] at hV hlc hl ⊢
  have HV := Lib.hid (And.intro hV hn)
  clear hV hn
  go_enter Tryz.func35, Tryz.ntmps35
  go_wp2_with fail
  go_loopw [3, 4] (fun o i wr => ∃ k : Nat, k ≤ n ∧ i = .int .i64 k ∧ Hid (Below w.heap.size w wr ∧ OwnI wr w.heap.size o ((rls (l.take k) []).map (·.2)))) (fun _ i _ => n - (intOf i).toNat)
  case atStart => exact ⟨0, Nat.zero_le _, rfl, Lib.hid ⟨Below.refl _ _, World.ownsRow_nil _ _ _ _⟩⟩
  case round =>
    obtain ⟨k, hk, rfl, HI⟩ := hrel
    obtain ⟨wo, rfl⟩ : ∃ wo : World, wo = wr := ⟨_, rfl⟩
    obtain ⟨acc, hacc⟩ : ∃ acc, acc = rls (l.take k) [] := ⟨_, rfl⟩
    rw [← hacc] at HI
    have hacl : acc.length = k := by
      rw [hacc, rls_len, List.length_take]
      have := HV.out.2
      simp; omega
    obtain ⟨oa, oc, ho, hoc⟩ := HI.out.2.at_
    have hl2 : (acc.map (·.2)).length = k := by rw [List.length_map, hacl]
    rw [hl2] at ho
    subst ho
    have HACC := Lib.hid hacc
    clear hacc
    by_cases hlt : k < n
    · have hkl : k < l.length := by have := HV.out.2; omega
      obtain ⟨b, off, rfl, -, hbl, -, m1, m2, hfm⟩ := HV.out.1.at_ (by omega)
      obtain ⟨u, hu⟩ := hfm k hkl
      obtain ⟨f, hf⟩ : ∃ f, f = l.getD k zm := ⟨_, rfl⟩
      rw [← hf] at hu
      obtain ⟨ua, uc, rfl, hucl⟩ := hu.fs.slice_
      obtain ⟨m, hm⟩ : ∃ m, m = f.fs.length := ⟨_, rfl⟩
      rw [← hm] at hucl hu
      have HF := Lib.hid (And.intro hu (And.intro hf (And.intro hm hfm)))
      have hmx : m ≤ 9223372036854775807 := by unfold maxLen at hucl; omega
      have lb := hbl
      unfold maxLen at m2
      clear hf hm hfm hu
      go_wp2_with fail
      go_loopw [5, 6] (fun q i wr => ∃ j : Nat, j ≤ m ∧ i = .int .i64 j ∧ q = .int .i64 (rsum acc (f.fs.take j)) ∧ Hid (Below wo.heap.size wo wr)) (fun _ i _ => m - (intOf i).toNat)
      case atStart => exact ⟨0, Nat.zero_le _, rfl, rfl, Lib.hid (Below.refl _ _)⟩
      case round =>
        obtain ⟨j, hj, rfl, rfl, HJ⟩ := hrel
        obtain ⟨wt, rfl⟩ : ∃ wt : World, wt = wr := ⟨_, rfl⟩
        have hbw : Below w.heap.size w wt := HI.out.1.trans (HJ.out.mono HI.out.1.size)
        have hu' := HF.out.1.kept (Kept.of_below hbw fun _ h => h) hbl
        have c1 := hu'.c1
        have lb2 := World.block_lt_of_cell? (h := c1)
        by_cases hjm : j < m
        · have hjl : j < f.fs.length := by have := HF.out.2.2.1; omega
          obtain ⟨fb, fo, rfl, -, lfb, n1, n2, hfl⟩ := hu'.fs.at_ (by omega)
          obtain ⟨⟨gk, gn, gf, gt⟩, hg⟩ : ∃ g, g = f.fs.getD j zf := ⟨_, rfl⟩
          have hgA := hfl j hjl
          rw [← hg] at hgA
          obtain ⟨g0, g1, g2, g3⟩ := hgA
          have HG : Hid (rsum acc (f.fs.take (j + 1)) = rfield acc (rsum acc (f.fs.take j)) ⟨gk, gn, gf, gt⟩) := Lib.hid (by
            rw [take_succ_getD _ zf j hjl, ← hg, rsum_snoc])
          obtain ⟨N, hN⟩ : ∃ N, N = rsum acc (f.fs.take j) := ⟨_, rfl⟩
          rw [← hN] at HG ⊢
          obtain ⟨wc, hwc⟩ : ∃ wc, wc = wt.alloc (.cells #[.int .i64 gk, .int .i64 gn, .int .i64 gf, .string gt] 56) := ⟨_, rfl⟩
          have hBc : Below wt.heap.size wt wc := by rw [hwc]; exact bx _
          have hc0 : wc.heap[wt.heap.size]? = some (.cells #[.int .i64 gk, .int .i64 gn, .int .i64 gf, .string gt] 56 (0, 0)) := by rw [hwc]; exact heap_alloc_new _ _
          have k0 : wc.cell? ⟨wt.heap.size, 0, none⟩ = some (.int .i64 gk) := cell_of_row _ _ _ _ _ _ hc0
          have k1 : wc.cell? ⟨wt.heap.size, 1, none⟩ = some (.int .i64 gn) := cell_of_row _ _ _ _ _ _ hc0
          have k3 : wc.cell? ⟨wt.heap.size, 3, none⟩ = some (.string gt) := cell_of_row _ _ _ _ _ _ hc0
          have HC := Lib.hid (And.intro (HJ.out.trans (hBc.mono HJ.out.size)) hc0)
          unfold maxLen at n2
          clear hfl hg hu' hbw hBc hc0 HJ hN
          by_cases K1 : gk = 1
          · subst K1
            have e1 : rfield acc N ⟨1, gn, gf, gt⟩ = w64 (N + gt.size) := rfl
            go_wp2_with fail
            refine ⟨⟨j + 1, by omega, by go_num, by rw [HG.out, e1]; simp only [wrap64_w64], Lib.hid (by rw [← hwc]; exact HC.out.1)⟩, by simp [intOf]; omega⟩
          · by_cases K2 : gk = 2
            · subst K2
              have e1 : rfield acc N ⟨2, gn, gf, gt⟩ = w64 (N + gn) := rfl
              go_wp2_with fail
              refine ⟨⟨j + 1, by omega, by go_num, by rw [HG.out, e1]; simp only [wrap64_w64], Lib.hid (by rw [← hwc]; exact HC.out.1)⟩, by simp [intOf]; omega⟩
            · by_cases K6 : gk = 6
              · subst K6
                have e1 : rfield acc N ⟨6, gn, gf, gt⟩ = w64 (N + gn) := rfl
                go_wp2_with fail
                refine ⟨⟨j + 1, by omega, by go_num, by rw [HG.out, e1]; simp only [wrap64_w64], Lib.hid (by rw [← hwc]; exact HC.out.1)⟩, by simp [intOf]; omega⟩
              · by_cases K3 : gk = 3
                · subst K3
                  have e1 : rfield acc N ⟨3, gn, gf, gt⟩ = w64 (N + gn) := rfl
                  go_wp2_with fail
                  refine ⟨⟨j + 1, by omega, by go_num, by rw [HG.out, e1]; simp only [wrap64_w64], Lib.hid (by rw [← hwc]; exact HC.out.1)⟩, by simp [intOf]; omega⟩
                · by_cases K5 : gk = 5
                  · subst K5
                    have HE : Hid (rfield acc N ⟨5, gn, gf, gt⟩ = rin gn acc N) := Lib.hid rfl
                    go_wp2_with fail
                    rw [← hwc]
                    clear hwc
                    go_loopw [5, 8] (fun q i wr => ∃ (t : Nat) (M : Int), t ≤ k ∧ i = .int .i64 t ∧ q = .int .i64 M ∧ Hid (Below wc.heap.size wc wr ∧ rin gn (acc.drop t) M = rin gn acc N)) (fun _ i _ => k - (intOf i).toNat)
                    case atStart => exact ⟨0, N, Nat.zero_le _, rfl, rfl, Lib.hid ⟨Below.refl _ _, rfl⟩⟩
                    case round =>
                      obtain ⟨t, M, ht, rfl, rfl, HT⟩ := hrel
                      by_cases htk : t < k
                      · have htl : t < l.length := by omega
                        have hta : t < acc.length := by omega
                        have bcw : Below w.heap.size w wc := HI.out.1.trans (HC.out.1.mono HI.out.1.size)
                        have btw : Below w.heap.size w wr := bcw.trans (HT.out.1.mono bcw.size)
                        obtain ⟨ut, hut⟩ := HF.out.2.2.2 t htl
                        have hut' := hut.kept (Kept.of_below btw fun _ h => h) hbl
                        have p0 := hut'.c0
                        have lb3 := World.block_lt_of_cell? (h := p0)
                        have hX := (HT.out.1.block _ (lt_of_heap HC.out.2)).trans HC.out.2
                        have p1 : wr.cell? ⟨wt.heap.size, 1, none⟩ = some (.int .i64 gn) := cell_of_row _ _ _ _ _ _ hX
                        have hown : OwnI wr w.heap.size (.slice oa k oc) (acc.map (·.2)) := ownsRow_below (ownsRow_below HI.out.2 HC.out.1) (HT.out.1.mono (Nat.le_refl _))
                        obtain ⟨_, _, he, h0⟩ := hown.at_
                        rw [hl2] at he h0
                        cases he
                        rcases h0 with h0 | ⟨ob, rfl, hob1, hob2, hol, hoc2, hoat⟩
                        · exact absurd h0 (by omega)
                        have p2 := hoat t (by omega)
                        obtain ⟨⟨pi, pv⟩, hp⟩ : ∃ p, p = acc[t] := ⟨_, rfl⟩
                        have hpd : (acc.map (·.2)).getD t 0 = pv := by simp [List.getD, List.getElem?_eq_getElem hta, ← hp]
                        have hpi : (l.getD t zm).id = pi := by
                          have h1 : (acc.map (·.1))[t]? = ((l.take k).map (·.id))[t]? := by rw [HACC.out, rls_map]; rfl
                          rw [List.getElem?_map, List.getElem?_eq_getElem hta, List.getElem?_map, List.getElem?_take, if_pos htk, List.getElem?_eq_getElem htl, ← hp] at h1
                          simp at h1
                          simp [List.getD, List.getElem?_eq_getElem htl, h1]
                        have hdr : acc.drop t = (pi, pv) :: acc.drop (t + 1) := by rw [List.drop_eq_getElem_cons hta, ← hp]
                        rw [hpd] at p2
                        rw [hpi] at p0
                        have hr := HT.out.2
                        rw [hdr, rin] at hr
                        simp only at hr
                        have lla : (acc.map (·.2)).length = acc.length := by simp
                        have HTB := Lib.hid HT.out.1
                        have HR := Lib.hid hr
                        clear hut hut' hX hown hoat hp hpd hpi hdr hr HT bcw btw
                        by_cases hq : pi = gn
                        · have d1 : ((pi : Int) == gn) = true := by rw [beq_iff_eq]; exact hq
                          have HR1 : Hid (rin gn (acc.drop (t + 1)) (w64 (M + pv)) = rin gn acc N) := Lib.hid (by rw [← HR.out, if_pos hq])
                          clear hq HR
                          go_wp2_with fail
                          go_region
                          go_wp2_with fail
                          refine ⟨⟨t + 1, w64 (M + pv), by omega, by go_num, by simp only [wrap64_w64], Lib.hid ⟨HTB.out.drew, HR1.out⟩⟩, by simp [intOf]; omega⟩
                        · have d1 : ((pi : Int) == gn) = false := by rw [beq_eq_false_iff_ne]; exact hq
                          have HR1 : Hid (rin gn (acc.drop (t + 1)) M = rin gn acc N) := Lib.hid (by rw [← HR.out, if_neg hq])
                          clear hq HR
                          go_wp2_with fail
                          go_region
                          go_wp2_with fail
                          refine ⟨⟨t + 1, M, by omega, by go_num, rfl, Lib.hid ⟨HTB.out.drew, HR1.out⟩⟩, by simp [intOf]; omega⟩
                      · obtain rfl : t = k := by omega
                        have HM : Hid (M = rin gn acc N) := Lib.hid (by
                          have h := HT.out.2
                          rw [List.drop_eq_nil_of_le (by omega)] at h
                          exact h)
                        have HB := Lib.hid (HC.out.1.trans (HT.out.1.mono HC.out.1.size))
                        clear HT
                        go_wp2_with fail
                        go_roundw
                        case rel => exact ⟨j + 1, by omega, by go_num, by rw [HG.out, HE.out, HM.out], Lib.hid HB.out⟩
                        case measure => simp [intOf]; omega
                  · have e1 : rfield acc N ⟨gk, gn, gf, gt⟩ = N := by unfold rfield; rw [if_neg K1, if_neg K2, if_neg K6, if_neg K3, if_neg K5]
                    go_wp2_with fail
                    refine ⟨⟨j + 1, by omega, by go_num, by rw [HG.out, e1], Lib.hid (by rw [← hwc]; exact HC.out.1)⟩, by simp [intOf]; omega⟩
        · obtain rfl : j = m := by omega
          have eT : f.fs.take j = f.fs := by rw [HF.out.2.2.1, List.take_length]
          rw [eT]
          have hown : OwnI wt w.heap.size (.slice oa k oc) (acc.map (·.2)) := ownsRow_below HI.out.2 HJ.out
          have eR : rls (l.take (k + 1)) [] = acc ++ [(f.id, rsum acc f.fs)] := by
            rw [take_succ_getD _ zm k hkl, ← HF.out.2.1, rls_snoc, ← HACC.out]
          have HO := Lib.hid (And.intro hown (And.intro hbw eR))
          have HOA : Hid ((wt.alloc (.cells #[.int .i64 (rsum acc f.fs)] 3)).ownsRow w.heap.size 3 1 (.slice oa k oc) k ((acc.map (·.2)).map fun n => Value.int .i64 n)) := Lib.hid (by
            have h : OwnI (wt.alloc (.cells #[.int .i64 (rsum acc f.fs)] 3)) w.heap.size (.slice oa k oc) (acc.map (·.2)) := ownsRow_below hown (bx _)
            unfold OwnI at h
            rwa [hl2] at h)
          have HBA : Hid ((wt.alloc (.cells #[.int .i64 (rsum acc f.fs)] 3)).heap[wt.heap.size]? = some (.cells #[.int .i64 (rsum acc f.fs)] 3 (0, 0)) ∧ w.heap.size ≤ (wt.alloc (.cells #[.int .i64 (rsum acc f.fs)] 3)).heap.size ∧ Below w.heap.size w (wt.alloc (.cells #[.int .i64 (rsum acc f.fs)] 3))) := Lib.hid ⟨heap_alloc_new _ _, by have := hbw.size; simp; omega, hbw.alloc hbw.size _⟩
          have hownlt := hown.lt
          have HLT := Lib.hid hownlt
          clear hown hbw eR HI HJ hu' hoc hownlt
          go_wp2_with (at_builtin; refine wpList_append_int rfl (.tmp 76) (.tmp 78) rfl w.heap.size (.slice oa k oc) k ((acc.map (·.2)).map fun n => Value.int .i64 n) rfl HOA.out HBA.out.2.1 (by omega) wt.heap.size (rsum acc f.fs) rfl HBA.out.1 ?_; intro v1 wA hGr)
          refine ⟨⟨k + 1, by omega, by go_num, Lib.hid ⟨?_, ?_⟩⟩, by simp [intOf]; omega⟩
          · exact HBA.out.2.2.grown hGr.grown HBA.out.2.1 (fun g hg => (HLT.out g hg).1)
          · have h := hGr.own
            rw [HO.out.2.2]
            unfold OwnI
            have e1 : ((acc ++ [(f.id, rsum acc f.fs)]).map (·.2)).length = k + 1 := by simp [hacl]
            rw [e1]
            simpa using h
    · obtain rfl : k = n := by omega
      have HP : Hid (Below w.heap.size w wo ∧ OwnI wo w.heap.size (.slice oa k oc) ((rls l []).map (·.2))) := Lib.hid (by
        have h := HI.out
        have e : l.take k = l := by rw [HV.out.2, List.take_length]
        have ea := HACC.out
        rw [e] at ea
        rw [← ea]
        exact h)
      clear HI hoc
      go_wp2_with fail
      go_ret
      exact ⟨⟨_, rfl, HP.out.2⟩, HP.out.1⟩
end Go.Proofs.YtcnokccgdiodlaaGreatDoor
