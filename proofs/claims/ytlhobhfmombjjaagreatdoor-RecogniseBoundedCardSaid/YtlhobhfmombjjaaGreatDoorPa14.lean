/- The writer's lists. Conditions: the writer and the draft lie in memory, the field is a right one, values are written as the given function tells. The writer's values in a field with a length. Conditions: the writer and the draft lie in memory, the field is a right one, values are written as the given function tells, the number that waits has room. A writer in memory: a checksum to come is put behind the others. No condition of its own. The writer's checksums to come. Conditions: the writer and the draft lie in memory, the width is small. Which recogniser a field's kind has. Conditions: the reader and the value lie in memory, the value's numbers are small, the field is a right one; values of the formats before are recognised. -/
import Derived.Test.YtlhobhfmombjjaaGreatDoorPa13
import Derived.Test.YtlhobhfmombjjaaGreatDoorPa11
namespace Go.Proofs.YtlhobhfmombjjaaGreatDoor
section WrK
open Go.RowKit Fx Rec

/-- What holds while values are written: they are not long, no field leaves more than one checksum, the checksums lie in the stream, one behind the other. -/
structure Tame (σ : Ws) : Prop where
  short : Short σ.vals
  cnt : σ.checks.length ≤ σ.parts
  each : ∀ c, c ∈ σ.checks → c.1 ≤ c.2.1 ∧ 1 ≤ c.2.2 ∧ c.2.2 ≤ 3 ∧ c.2.1 + c.2.2 ≤ σ.st.length
  ord : σ.checks.Pairwise fun a b => a.2.1 ≤ b.2.1
/-- Values are written as sub tells; the stream grows, what holds goes on holding. -/
structure WSubC (o : Wo) (top : Nat) (L : List Fm) (sub : WSub) (id : Int) : Prop where
  run : ∀ w σ, WrAt w o top L σ 0 → Tame σ → Calls Tryz.prog 83 #[ptr o.wb, .int .i64 id] w fun e w' => WPost w o top L 0 (sub id σ) e w'
  grows : ∀ σ σ', sub id σ = some σ' → Tame σ → σ.st.length ≤ σ'.st.length ∧ Tame σ'
section
variable {w w' : World} {o : Wo} {top db : Nat} {fs : List Fld} {u : Value} {j st0 : Nat} {d : Dr} {cs : List Value} {L : List Fm} {σ : Ws} {f : Fld} {r : Option Rec.Left} {sub : WSub}
set_option maxRecDepth 20000 in
set_option maxHeartbeats 600000 in
theorem kw_list (h : WrAt w o top L σ 0) (hd : DrAt w o top db fs u j st0 d cs) (hj : d.counts.length = j) (hf : f = fs.getD j zf) (hk : f.kind = 4) (q : Nat) (hq : f.frm = (q : Int)) (q16 : q < 16) (hc0 : ∀ i, 0 ≤ d.counts.getD i 0 ∧ d.counts.getD i 0 ≤ 16777215) (hsh : Tame σ) (hsub : WSubC o top L sub f.n) :
    Calls Tryz.prog 80 #[ptr o.wb, ptr db, fldV f] w fun e w' => KW w o top L 0 db fs u j st0 d (wlist sub f d σ) e w' := by
  obtain ⟨T, hT⟩ : ∃ T : Nat, T = (d.counts.getD q 0).toNat := ⟨_, rfl⟩
  have hcq := hc0 q
  have hTe : d.counts.getD q 0 = (T : Int) := by omega
  obtain ⟨RR, hRR⟩ : ∃ RR, RR = wlist sub f d σ := ⟨_, rfl⟩
  rw [← hRR]
  have HRR : Hid (RR = (wreps sub f.n T σ).map left0) := Lib.hid (by rw [hRR, wlist, hq, Int.toNat_natCast, ← hT])
  obtain ⟨W1, hW1⟩ : ∃ W1, W1 = w.alloc (.cells #[.int .i64 f.kind, .int .i64 f.n, .int .i64 f.frm, .string f.text] 56) := ⟨_, rfl⟩
  have hb : Below w.heap.size w W1 := by rw [hW1]; exact bx _
  have hsz : w.heap.size < W1.heap.size := by rw [hW1]; simp
  obtain ⟨hs1, hn1, h1⟩ := h.below hb
  have hd1 := hd.step hs1
  have hnk : (fs.getD j zf).kind ≠ 2 := by rw [← hf, hk]; decide
  have hbc := box_cells w f
  rw [← hW1] at hbc
  obtain ⟨y0, y1, y2, y3⟩ := hbc
  rw [hq] at y2
  have z3 : W1.cell? ⟨db, 3 + q, none⟩ = some (.int .i64 (T : Nat)) := by rw [hd1.cell q, hd1.cnt q q16, hTe]
  have hq16 : (q : Int) < 16 := by omega
  have hT9 : T ≤ 16777215 := by omega
  have HS := Lib.hid (And.intro hs1 (And.intro h1 (And.intro (hd1.skip_ hj hnk) (And.intro hsh (hn1 w.heap.size (Nat.le_refl _) hsz)))))
  have HD := Lib.hid hd
  have HY1 := Lib.hid y1
  have HSUB := Lib.hid hsub
  clear h hd hT hTe hRR hb hs1 hn1 h1 hd1 hnk hcq hc0 hj hf hk hq hsh hsub
  go_enter Tryz.func80, Tryz.ntmps80
  go_wp2_with fail
  rw [← hW1]
  clear hW1
  refine wp_region_held_drew (S := (fun W : World => W.cell? ⟨w.heap.size, 2, none⟩ = some (.int .i64 (q : Nat)) ∧ W.cell? ⟨db, 3 + q, none⟩ = some (.int .i64 (T : Nat)))) (by kernel_rfl) ⟨y2, z3⟩ (fun hHeld => ?_)
  refine wpAnyH_take (i := 0) (oi := ?o1) (v := ?v1) ?h1 ?a1 ?b1 ?c1 ?q1 (Or.inl ⟨?g1, ?y1⟩) ?s1 ?r1
  case h1 => (simp only [List.getElem?_toArray, List.getElem?_cons_zero]; rfl)
  case a1 => kernel_rfl
  case b1 => kernel_rfl
  case c1 => kernel_rfl
  case q1 => exact fun _ _ _ h => h
  case g1 => rfl
  case y1 => (intro wS hSw; obtain ⟨s0, s1⟩ := hSw; go_simp; (try with_reducible rfl))
  case s1 => assumption
  (try simp only [Act.put, List.setIfInBounds_toArray, List.set_cons_zero, List.set_cons_succ])
  refine wpAnyH_take (i := 1) (oi := ?o2) (v := ?v2) ?h2 ?a2 ?b2 ?c2 ?q2 (Or.inl ⟨?g2, ?y2⟩) ?s2 ?r2
  case h2 => (simp only [List.getElem?_toArray, List.getElem?_cons_zero, List.getElem?_cons_succ]; rfl)
  case a2 => kernel_rfl
  case b2 => kernel_rfl
  case c2 => kernel_rfl
  case q2 => exact fun _ _ _ h => h
  case g2 => rfl
  case y2 => (intro wS hSw; obtain ⟨s0, s1⟩ := hSw; go_simp; (try with_reducible rfl))
  case s2 => assumption
  (try simp only [Act.put, List.setIfInBounds_toArray, List.set_cons_zero, List.set_cons_succ])
  refine wpAnyH_take (i := 2) (oi := ?o3) (v := ?v3) ?h3 ?a3 ?b3 ?c3 ?q3 (Or.inl ⟨?g3, ?y3⟩) ?s3 ?r3
  case h3 => (simp only [List.getElem?_toArray, List.getElem?_cons_zero, List.getElem?_cons_succ]; rfl)
  case a3 => kernel_rfl
  case b3 => kernel_rfl
  case c3 => kernel_rfl
  case q3 => exact fun _ _ _ h => h
  case g3 => rfl
  case y3 => (intro wS hSw; obtain ⟨s0, s1⟩ := hSw; go_simp; (try with_reducible rfl))
  case s3 => assumption
  (try simp only [Act.put, List.setIfInBounds_toArray, List.set_cons_zero, List.set_cons_succ])
  refine wpAnyH_take (i := 3) (oi := ?o4) (v := ?v4) ?h4 ?a4 ?b4 ?c4 ?q4 (Or.inl ⟨?g4, ?y4⟩) ?s4 ?r4
  case h4 => (simp only [List.getElem?_toArray, List.getElem?_cons_zero, List.getElem?_cons_succ]; rfl)
  case a4 => kernel_rfl
  case b4 => kernel_rfl
  case c4 => kernel_rfl
  case q4 => exact fun _ _ _ h => h
  case g4 => rfl
  case y4 => (intro wS hSw; obtain ⟨s0, s1⟩ := hSw; go_simp; (try with_reducible rfl))
  case s4 => assumption
  (try simp only [Act.put, List.setIfInBounds_toArray, List.set_cons_zero, List.set_cons_succ])
  refine wpAnyH_take (i := 4) (oi := ?o5) (v := ?v5) ?h5 ?a5 ?b5 ?c5 ?q5 (Or.inl ⟨?g5, ?y5⟩) ?s5 ?r5
  case h5 => (simp only [List.getElem?_toArray, List.getElem?_cons_zero, List.getElem?_cons_succ]; rfl)
  case a5 => kernel_rfl
  case b5 => kernel_rfl
  case c5 => kernel_rfl
  case q5 => exact fun _ _ _ h => h
  case g5 => rfl
  case y5 => (intro wS hSw; obtain ⟨s0, s1⟩ := hSw; go_simp; (try with_reducible rfl))
  case s5 => assumption
  (try simp only [Act.put, List.setIfInBounds_toArray, List.set_cons_zero, List.set_cons_succ])
  refine wpAnyH_take (i := 5) (oi := ?o6) (v := ?v6) ?h6 ?a6 ?b6 ?c6 ?q6 (Or.inl ⟨?g6, ?y6⟩) ?s6 ?r6
  case h6 => (simp only [List.getElem?_toArray, List.getElem?_cons_zero, List.getElem?_cons_succ]; rfl)
  case a6 => kernel_rfl
  case b6 => kernel_rfl
  case c6 => kernel_rfl
  case q6 => exact fun _ _ _ h => h
  case g6 => rfl
  case y6 => (intro wS hSw; obtain ⟨s0, s1⟩ := hSw; go_simp; (try with_reducible rfl))
  case s6 => assumption
  (try simp only [Act.put, List.setIfInBounds_toArray, List.set_cons_zero, List.set_cons_succ])
  refine wpAnyH_take (i := 6) (oi := ?o7) (v := ?v7) ?h7 ?a7 ?b7 ?c7 ?q7 (Or.inl ⟨?g7, ?y7⟩) ?s7 ?r7
  case h7 => (simp only [List.getElem?_toArray, List.getElem?_cons_zero, List.getElem?_cons_succ]; rfl)
  case a7 => kernel_rfl
  case b7 => kernel_rfl
  case c7 => kernel_rfl
  case q7 => exact fun _ _ _ h => h
  case g7 => rfl
  case y7 => (intro wS hSw; obtain ⟨s0, s1⟩ := hSw; go_simp; (try with_reducible rfl))
  case s7 => assumption
  (try simp only [Act.put, List.setIfInBounds_toArray, List.set_cons_zero, List.set_cons_succ])
  refine wpAnyH_take (i := 7) (oi := ?o8) (v := ?v8) ?h8 ?a8 ?b8 ?c8 ?q8 (Or.inl ⟨?g8, ?y8⟩) ?s8 ?r8
  case h8 => (simp only [List.getElem?_toArray, List.getElem?_cons_zero, List.getElem?_cons_succ]; rfl)
  case a8 => kernel_rfl
  case b8 => kernel_rfl
  case c8 => kernel_rfl
  case q8 => exact fun _ _ _ h => h
  case g8 => rfl
  case y8 => (intro wS hSw; obtain ⟨s0, s1⟩ := hSw; go_simp; (try with_reducible rfl))
  case s8 => assumption
  (try simp only [Act.put, List.setIfInBounds_toArray, List.set_cons_zero, List.set_cons_succ])
  refine wpAnyH_done (by kernel_rfl) ?_ _
  go_wp2_with fail
  clear y0 y1 y2 y3 z3
  go_loopw [13] (fun i wr => ∃ (n : Nat) (σ1 : Ws), n ≤ T ∧ i = .int .i64 n ∧ Hid (StepW o NoX W1 wr ∧ WrAt wr o top L σ1 0 ∧ Tame σ1 ∧ wreps sub f.n (T - n) σ1 = wreps sub f.n T σ)) (fun i _ => T - (intOf i).toNat)
  case atStart =>
    obtain ⟨t1, -, t3⟩ := HS.out.2.1.below (drewN_below W1 1)
    exact ⟨0, σ, Nat.zero_le _, rfl, Lib.hid ⟨t1, t3, HS.out.2.2.2.1, rfl⟩⟩
  case round =>
    obtain ⟨n, σ1, hn, rfl, HJ⟩ := hrel
    by_cases hlt : n < T
    · have hl2 : (n : Int) < (T : Int) := by omega
      have z1 : wr.cell? ⟨w.heap.size, 1, none⟩ = some (.int .i64 f.n) := by rw [World.cell?_of_block (w := W1) (HJ.out.1.same HS.out.2.2.2.2)]; exact HY1.out
      have hre : wreps sub f.n (T - n) σ1 = (sub f.n σ1).bind fun σ2 => wreps sub f.n (T - (n + 1)) σ2 := by
        obtain ⟨m, hm⟩ : ∃ m, T - n = m + 1 := ⟨T - n - 1, by omega⟩
        rw [hm, show T - (n + 1) = m by omega]; rfl
      have HRE := Lib.hid hre
      clear hre
      go_wp2_with fail
      refine (HSUB.out.run wr σ1 HJ.out.2.1 HJ.out.2.2.1).mono ?_
      rcases hr : sub f.n σ1 with _ | σ2
      · rintro e w5 ⟨hs, rfl⟩
        exact ⟨rfl, KW.stop (by rw [HRR.out, ← HJ.out.2.2.2, HRE.out, hr]; rfl) (HD.out.wide (HS.out.1.trans (HJ.out.1.trans hs)))⟩
      · rintro e w5 ⟨hs, rfl, hw5⟩
        have HK := Lib.hid (And.intro (HJ.out.1.trans hs) (And.intro hw5 (And.intro ((HSUB.out.grows _ _ hr HJ.out.2.2.1).2) (show wreps sub f.n (T - (n + 1)) σ2 = wreps sub f.n T σ by rw [← HJ.out.2.2.2, HRE.out, hr]; rfl))))
        clear hs hw5 hr
        go_wp2_with fail
        exact ⟨⟨n + 1, σ2, by omega, by go_num, HK⟩, by simp [intOf]; omega⟩
    · obtain rfl : n = T := by omega
      have HY : Hid (KW w o top L 0 db fs u j st0 d RR (.returned (.tuple #[])) wr) := Lib.hid (KW.yes (p := left0 σ1) (by rw [HRR.out, ← HJ.out.2.2.2, Nat.sub_self]; rfl) (HD.out.wide (HS.out.1.trans HJ.out.1)) HJ.out.2.1 (HS.out.2.2.1.step HJ.out.1))
      go_wp2_with fail
      first | go_end0 | go_ret
      exact HY.out
end
end WrK
section WrL
open Go.RowKit Fx Rec

section
variable {w w' : World} {o : Wo} {top db : Nat} {fs : List Fld} {u : Value} {j st0 : Nat} {d : Dr} {cs : List Value} {L : List Fm} {σ : Ws} {f : Fld} {r : Option Rec.Left} {sub : WSub} {k : Nat}
theorem WrAt.stream_ (h : WrAt w o top L σ k) : ∃ a c, w.cell? ⟨o.wb, 4, none⟩ = some (.slice a σ.st.length c) ∧ σ.st.length ≤ 65536 := by
  obtain ⟨hf, vv, vst, vch, vs, chs, hm⟩ := h
  obtain ⟨a, c, hvst, _⟩ := hm.slice_
  exact ⟨a, c, by rw [hm.blk.cell, hvst]; rfl, hm.len⟩
set_option maxRecDepth 20000 in
set_option maxHeartbeats 600000 in
theorem kw_inside (h : WrAt w o top L σ 0) (hd : DrAt w o top db fs u j st0 d cs) (hj : d.counts.length = j) (hf : f = fs.getD j zf) (hk : f.kind = 5) (q : Nat) (hq : From fs d f q) (hroom : Room fs d σ.st.length) (hsh : Tame σ) (hsub : WSubC o top L sub f.n) :
    Calls Tryz.prog 81 #[ptr o.wb, ptr db, fldV f] w fun e w' => KW w o top L 0 db fs u j st0 d (winside sub f d σ) e w' := by
  obtain ⟨am, ham⟩ : ∃ am, am = d.lens.getD q (0, 0) := ⟨_, rfl⟩
  have hR := hroom q hq.lt hq.wt hq.k2
  rw [← ham] at hR
  obtain ⟨RR, hRR⟩ : ∃ RR, RR = winside sub f d σ := ⟨_, rfl⟩
  rw [← hRR]
  have HRR : Hid (RR = (sub f.n σ).bind fun σ1 => (fill σ1 am ((σ1.st.length : Int) - σ.st.length)).map left0) := Lib.hid (by rw [hRR, winside, hq.eq, Int.toNat_natCast, ham])
  obtain ⟨W1, hW1⟩ : ∃ W1, W1 = w.alloc (.cells #[.int .i64 f.kind, .int .i64 f.n, .int .i64 f.frm, .string f.text] 56) := ⟨_, rfl⟩
  have hb : Below w.heap.size w W1 := by rw [hW1]; exact bx _
  have hsz : w.heap.size < W1.heap.size := by rw [hW1]; simp
  obtain ⟨hs1, hn1, h1⟩ := h.below hb
  have hd1 := hd.step hs1
  have hnk : (fs.getD j zf).kind ≠ 2 := by rw [← hf, hk]; decide
  have hbc := box_cells w f
  rw [← hW1] at hbc
  obtain ⟨y0, y1, y2, y3⟩ := hbc
  rw [hq.eq] at y2
  obtain ⟨v, hv1, hv2⟩ := hd1.lens q hq.lt hq.wt hq.k2
  rw [← ham] at hv2
  have z3 : W1.cell? ⟨db, 19 + q, none⟩ = some v := by
    have := hd1.cell (16 + q)
    rw [show 3 + (16 + q) = 19 + q by omega] at this
    rw [this]; exact hv1
  obtain ⟨sa, sc, c4, hle⟩ := h1.stream_
  obtain ⟨n0, hn0⟩ : ∃ n0 : Nat, n0 = σ.st.length := ⟨_, rfl⟩
  rw [← hn0] at c4 hle
  have hq16 : (q : Int) < 16 := by have := hq.q16; omega
  have HS := Lib.hid (And.intro hs1 (And.intro h1 (And.intro (hd1.skip_ hj hnk) (And.intro hsh (hn1 w.heap.size (Nat.le_refl _) hsz)))))
  have HS1 := Lib.hid hd1
  have HD := Lib.hid hd
  have HV := Lib.hid (And.intro hv2 (And.intro hR hn0))
  have HY2 := Lib.hid (And.intro y2 z3)
  have HSUB := Lib.hid hsub
  obtain ⟨xa, ya, za, rfl, -⟩ := hv2
  have c4x := c4
  have y1x := y1
  rw [hW1] at c4x y1x
  clear h hd ham hRR hb hs1 hn1 h1 hd1 hnk hj hf hk hq hsh hsub hv1 hR hroom hn0 z3 y2
  go_enter Tryz.func81, Tryz.ntmps81
  go_wp2_with fail
  rw [← hW1]
  clear hW1 c4x y1x
  refine (HSUB.out.run W1 σ HS.out.2.1 HS.out.2.2.2.1).mono ?_
  rcases hr : sub f.n σ with _ | σ1
  · rintro e w5 ⟨hs, rfl⟩
    exact ⟨rfl, KW.stop (by rw [HRR.out, hr]; rfl) (HD.out.wide (HS.out.1.trans hs))⟩
  · rintro e w5 ⟨hs, rfl, hw5⟩
    obtain ⟨sa5, sc5, c5, hle5⟩ := hw5.stream_
    obtain ⟨n5, hn5⟩ : ∃ n5 : Nat, n5 = σ1.st.length := ⟨_, rfl⟩
    rw [← hn5] at c5 hle5
    have hg := HSUB.out.grows _ _ hr HS.out.2.2.2.1
    have z2 : w5.cell? ⟨w.heap.size, 2, none⟩ = some (.int .i64 (q : Nat)) := by rw [World.cell?_of_block (w := W1) (hs.same HS.out.2.2.2.2)]; exact HY2.out.1
    have z3 : w5.cell? ⟨db, 19 + q, none⟩ = some (.func (.func 110) #[] #[ptr xa, ptr ya, ptr za]) := by rw [World.cell?_of_block (w := W1) (hs.same HS1.out.safe)]; exact HY2.out.2
    have hn05 : n0 ≤ n5 := by rw [HV.out.2.2, hn5]; exact hg.1
    have H5 := Lib.hid (And.intro (HS.out.1.trans hs) (And.intro hw5 (And.intro (HS.out.2.2.1.step hs) (And.intro hr (And.intro hn5 (HV.out.1.step hs))))))
    clear hs hw5 hr hg hn5 c4 y0 y1 y3
    go_wp2_with fail
    refine wp_region_T 14 (fun W : World => W.cell? ⟨w.heap.size, 2, none⟩ = some (.int .i64 (q : Nat)) ∧ W.cell? ⟨db, 19 + q, none⟩ = some (.func (.func 110) #[] #[ptr xa, ptr ya, ptr za]) ∧ W.cell? ⟨o.wb, 4, none⟩ = some (.slice sa5 n5 sc5)) (by kernel_rfl) ⟨z2, z3, c5⟩ (fun hHeld => ?_)
    refine wpAnyT_any (i := 0) (oi := ?o2) (v := ?v2) ?h2 ?a2 ?b2 ?c2 ?d2 ?e2 ?j2 ?q2 (Or.inl ⟨?g2, ?y2⟩) ?s2 ?r2
    case h2 => (simp only [List.getElem?_toArray, List.getElem?_cons_zero]; rfl)
    case a2 => kernel_rfl
    case b2 => kernel_rfl
    case c2 => kernel_rfl
    case d2 => kernel_rfl
    case e2 => kernel_rfl
    case j2 => kernel_rfl
    case q2 => exact fun _ _ _ h => h
    case g2 => rfl
    case y2 => (intro wS _; go_simp; (try with_reducible rfl))
    case s2 => exact fun _ => by assumption
    (try simp only [Act.put, List.setIfInBounds_toArray, List.set_cons_zero, List.set_cons_succ])
    refine wpAnyT_any (i := 1) (oi := ?o4) (v := ?v4) ?h4 ?a4 ?b4 ?c4 ?d4 ?e4 ?j4 ?q4 (Or.inl ⟨?g4, ?y4⟩) ?s4 ?r4
    case h4 => (simp only [List.getElem?_toArray, List.getElem?_cons_zero, List.getElem?_cons_succ]; rfl)
    case a4 => kernel_rfl
    case b4 => kernel_rfl
    case c4 => kernel_rfl
    case d4 => kernel_rfl
    case e4 => kernel_rfl
    case j4 => kernel_rfl
    case q4 => exact fun _ _ _ h => h
    case g4 => rfl
    case y4 => (intro wS _; go_simp; (try with_reducible rfl))
    case s4 => exact fun _ => by assumption
    (try simp only [Act.put, List.setIfInBounds_toArray, List.set_cons_zero, List.set_cons_succ])
    refine wpAnyT_take (i := 2) (oi := ?o5) (v := ?v5) ?h5 ?a5 ?b5 ?c5 ?d5 ?e5 ?f5 ?j5 ?q5 (Or.inl ⟨?g5, ?y5⟩) ?s5 ?r5
    case h5 => (simp only [List.getElem?_toArray, List.getElem?_cons_zero, List.getElem?_cons_succ]; rfl)
    case a5 => kernel_rfl
    case b5 => kernel_rfl
    case c5 => kernel_rfl
    case d5 => kernel_rfl
    case e5 => kernel_rfl
    case f5 => kernel_rfl
    case j5 => kernel_rfl
    case q5 => exact fun _ _ _ h => h
    case g5 => rfl
    case y5 => (intro wS hSw; obtain ⟨s0, s1, s2⟩ := hSw; go_simp; (try with_reducible rfl))
    case s5 => assumption
    (try simp only [Act.put, List.setIfInBounds_toArray, List.set_cons_zero, List.set_cons_succ])
    refine wpAnyT_any (i := 3) (oi := ?o7) (v := ?v7) ?h7 ?a7 ?b7 ?c7 ?d7 ?e7 ?j7 ?q7 (Or.inl ⟨?g7, ?y7⟩) ?s7 ?r7
    case h7 => (simp only [List.getElem?_toArray, List.getElem?_cons_zero, List.getElem?_cons_succ]; rfl)
    case a7 => kernel_rfl
    case b7 => kernel_rfl
    case c7 => kernel_rfl
    case d7 => kernel_rfl
    case e7 => kernel_rfl
    case j7 => kernel_rfl
    case q7 => exact fun _ _ _ h => h
    case g7 => rfl
    case y7 => (intro wS _; go_simp; (try with_reducible rfl))
    case s7 => exact fun _ => by assumption
    (try simp only [Act.put, List.setIfInBounds_toArray, List.set_cons_zero, List.set_cons_succ])
    refine wpAnyT_any (i := 4) (oi := ?o9) (v := ?v9) ?h9 ?a9 ?b9 ?c9 ?d9 ?e9 ?j9 ?q9 (Or.inl ⟨?g9, ?y9⟩) ?s9 ?r9
    case h9 => (simp only [List.getElem?_toArray, List.getElem?_cons_zero, List.getElem?_cons_succ]; rfl)
    case a9 => kernel_rfl
    case b9 => kernel_rfl
    case c9 => kernel_rfl
    case d9 => kernel_rfl
    case e9 => kernel_rfl
    case j9 => kernel_rfl
    case q9 => exact fun _ _ _ h => h
    case g9 => rfl
    case y9 => (intro wS _; go_simp; (try with_reducible rfl))
    case s9 => exact fun _ => by assumption
    (try simp only [Act.put, List.setIfInBounds_toArray, List.set_cons_zero, List.set_cons_succ])
    refine wpAnyT_take (i := 5) (oi := ?o10) (v := ?v10) ?h10 ?a10 ?b10 ?c10 ?d10 ?e10 ?f10 ?j10 ?q10 (Or.inl ⟨?g10, ?y10⟩) ?s10 ?r10
    case h10 => (simp only [List.getElem?_toArray, List.getElem?_cons_zero, List.getElem?_cons_succ]; rfl)
    case a10 => kernel_rfl
    case b10 => kernel_rfl
    case c10 => kernel_rfl
    case d10 => kernel_rfl
    case e10 => kernel_rfl
    case f10 => kernel_rfl
    case j10 => kernel_rfl
    case q10 => exact fun _ _ _ h => h
    case g10 => rfl
    case y10 => (intro wS hSw; obtain ⟨s0, s1, s2⟩ := hSw; go_simp; (try with_reducible rfl))
    case s10 => assumption
    (try simp only [Act.put, List.setIfInBounds_toArray, List.set_cons_zero, List.set_cons_succ])
    refine wpAnyT_take (i := 6) (oi := ?o11) (v := ?v11) ?h11 ?a11 ?b11 ?c11 ?d11 ?e11 ?f11 ?j11 ?q11 (Or.inl ⟨?g11, ?y11⟩) ?s11 ?r11
    case h11 => (simp only [List.getElem?_toArray, List.getElem?_cons_zero, List.getElem?_cons_succ]; rfl)
    case a11 => kernel_rfl
    case b11 => kernel_rfl
    case c11 => kernel_rfl
    case d11 => kernel_rfl
    case e11 => kernel_rfl
    case f11 => kernel_rfl
    case j11 => kernel_rfl
    case q11 => exact fun _ _ _ h => h
    case g11 => rfl
    case y11 => (intro wS hSw; obtain ⟨s0, s1, s2⟩ := hSw; go_simp; (try with_reducible rfl))
    case s11 => assumption
    (try simp only [Act.put, List.setIfInBounds_toArray, List.set_cons_zero, List.set_cons_succ])
    refine wpAnyT_any (i := 7) (oi := ?o13) (v := ?v13) ?h13 ?a13 ?b13 ?c13 ?d13 ?e13 ?j13 ?q13 (Or.inl ⟨?g13, ?y13⟩) ?s13 ?r13
    case h13 => (simp only [List.getElem?_toArray, List.getElem?_cons_zero, List.getElem?_cons_succ]; rfl)
    case a13 => kernel_rfl
    case b13 => kernel_rfl
    case c13 => kernel_rfl
    case d13 => kernel_rfl
    case e13 => kernel_rfl
    case j13 => kernel_rfl
    case q13 => exact fun _ _ _ h => h
    case g13 => rfl
    case y13 => (intro wS _; go_simp; (try with_reducible rfl))
    case s13 => exact fun _ => by assumption
    (try simp only [Act.put, List.setIfInBounds_toArray, List.set_cons_zero, List.set_cons_succ])
    refine wpAnyT_any (i := 8) (oi := ?o15) (v := ?v15) ?h15 ?a15 ?b15 ?c15 ?d15 ?e15 ?j15 ?q15 (Or.inl ⟨?g15, ?y15⟩) ?s15 ?r15
    case h15 => (simp only [List.getElem?_toArray, List.getElem?_cons_zero, List.getElem?_cons_succ]; rfl)
    case a15 => kernel_rfl
    case b15 => kernel_rfl
    case c15 => kernel_rfl
    case d15 => kernel_rfl
    case e15 => kernel_rfl
    case j15 => kernel_rfl
    case q15 => exact fun _ _ _ h => h
    case g15 => rfl
    case y15 => (intro wS _; go_simp; (try with_reducible rfl))
    case s15 => exact fun _ => by assumption
    (try simp only [Act.put, List.setIfInBounds_toArray, List.set_cons_zero, List.set_cons_succ])
    refine wpAnyT_any (i := 9) (oi := ?o17) (v := ?v17) ?h17 ?a17 ?b17 ?c17 ?d17 ?e17 ?j17 ?q17 (Or.inl ⟨?g17, ?y17⟩) ?s17 ?r17
    case h17 => (simp only [List.getElem?_toArray, List.getElem?_cons_zero, List.getElem?_cons_succ]; rfl)
    case a17 => kernel_rfl
    case b17 => kernel_rfl
    case c17 => kernel_rfl
    case d17 => kernel_rfl
    case e17 => kernel_rfl
    case j17 => kernel_rfl
    case q17 => exact fun _ _ _ h => h
    case g17 => rfl
    case y17 => (intro wS _; go_simp; (try with_reducible rfl))
    case s17 => exact fun _ => by assumption
    (try simp only [Act.put, List.setIfInBounds_toArray, List.set_cons_zero, List.set_cons_succ])
    refine wpAnyT_take (i := 10) (oi := ?o18) (v := ?v18) ?h18 ?a18 ?b18 ?c18 ?d18 ?e18 ?f18 ?j18 ?q18 (Or.inl ⟨?g18, ?y18⟩) ?s18 ?r18
    case h18 => (simp only [List.getElem?_toArray, List.getElem?_cons_zero, List.getElem?_cons_succ]; rfl)
    case a18 => kernel_rfl
    case b18 => kernel_rfl
    case c18 => kernel_rfl
    case d18 => kernel_rfl
    case e18 => kernel_rfl
    case f18 => kernel_rfl
    case j18 => kernel_rfl
    case q18 => exact fun _ _ _ h => h
    case g18 => rfl
    case y18 => (intro wS hSw; obtain ⟨s0, s1, s2⟩ := hSw; go_simp; (try with_reducible rfl))
    case s18 => assumption
    (try simp only [Act.put, List.setIfInBounds_toArray, List.set_cons_zero, List.set_cons_succ])
    refine wpAnyT_take (i := 11) (oi := ?o19) (v := ?v19) ?h19 ?a19 ?b19 ?c19 ?d19 ?e19 ?f19 ?j19 ?q19 (Or.inl ⟨?g19, ?y19⟩) ?s19 ?r19
    case h19 => (simp only [List.getElem?_toArray, List.getElem?_cons_zero, List.getElem?_cons_succ]; rfl)
    case a19 => kernel_rfl
    case b19 => kernel_rfl
    case c19 => kernel_rfl
    case d19 => kernel_rfl
    case e19 => kernel_rfl
    case f19 => kernel_rfl
    case j19 => kernel_rfl
    case q19 => exact fun _ _ _ h => h
    case g19 => rfl
    case y19 => (intro wS hSw; obtain ⟨s0, s1, s2⟩ := hSw; go_simp; (try with_reducible rfl))
    case s19 => assumption
    (try simp only [Act.put, List.setIfInBounds_toArray, List.set_cons_zero, List.set_cons_succ])
    refine wpAnyT_any (i := 12) (oi := ?o21) (v := ?v21) ?h21 ?a21 ?b21 ?c21 ?d21 ?e21 ?j21 ?q21 (Or.inl ⟨?g21, ?y21⟩) ?s21 ?r21
    case h21 => (simp only [List.getElem?_toArray, List.getElem?_cons_zero, List.getElem?_cons_succ]; rfl)
    case a21 => kernel_rfl
    case b21 => kernel_rfl
    case c21 => kernel_rfl
    case d21 => kernel_rfl
    case e21 => kernel_rfl
    case j21 => kernel_rfl
    case q21 => exact fun _ _ _ h => h
    case g21 => rfl
    case y21 => (intro wS _; go_simp; (try with_reducible rfl))
    case s21 => exact fun _ => by assumption
    (try simp only [Act.put, List.setIfInBounds_toArray, List.set_cons_zero, List.set_cons_succ])
    refine wpAnyT_take (i := 13) (oi := ?o22) (v := ?v22) ?h22 ?a22 ?b22 ?c22 ?d22 ?e22 ?f22 ?j22 ?q22 (Or.inl ⟨?g22, ?y22⟩) ?s22 ?r22
    case h22 => (simp only [List.getElem?_toArray, List.getElem?_cons_zero, List.getElem?_cons_succ]; rfl)
    case a22 => kernel_rfl
    case b22 => kernel_rfl
    case c22 => kernel_rfl
    case d22 => kernel_rfl
    case e22 => kernel_rfl
    case f22 => kernel_rfl
    case j22 => kernel_rfl
    case q22 => exact fun _ _ _ h => h
    case g22 => rfl
    case y22 => (intro wS hSw; obtain ⟨s0, s1, s2⟩ := hSw; go_simp; (try with_reducible rfl))
    case s22 => assumption
    (try simp only [Act.put, List.setIfInBounds_toArray, List.set_cons_zero, List.set_cons_succ])
    refine wpAnyT_ready (rs := [14]) (by kernel_rfl) (by simp) ?_
    refine AllReadyT.cons (o := ?oB23) ?hB23 ?kB23 AllReadyT.nil
    case hB23 => (simp only [List.getElem?_toArray, List.getElem?_cons_zero, List.getElem?_cons_succ]; rfl)
    case kB23 =>
      intro K hK
      go_simp
      obtain ⟨t1, -, t3⟩ := H5.out.2.1.below (drewN_below w5 1)
      have e5 : IntKind.i64.wrap ((n5 : Int) - (n0 : Int)) = (n5 : Int) - (n0 : Int) := wr64 (by omega) (by omega)
      rw [e5]
      have hA := HV.out.2.1
      have hB := H5.out.2.2.2.2.1
      have hC := HV.out.2.2
      refine (laid_any (a := am.1) (m := am.2) t3 (H5.out.2.2.2.2.2.step t1) hA.1 hA.2.1 (by omega) (Nat.zero_le _) ((n5 : Int) - (n0 : Int)) (by omega) (by omega)).mono ?_
      rcases hr : fill σ1 (am.1, am.2) ((n5 : Int) - (n0 : Int)) with _ | σ3
      · rintro e w6 ⟨hs, rfl⟩
        exact ⟨rfl, KW.stop (by rw [HRR.out, H5.out.2.2.2.1]; show (fill σ1 am ((σ1.st.length : Int) - σ.st.length)).map left0 = none; rw [← hB, ← hC, show fill σ1 am ((n5 : Int) - (n0 : Int)) = none from hr]; rfl) (HD.out.wide (H5.out.1.trans (t1.trans hs)))⟩
      · rintro e w6 ⟨hs, rfl, hw6⟩
        have HY : Hid (KW w o top L 0 db fs u j st0 d RR (.returned (.tuple #[])) w6) := Lib.hid (KW.yes (p := left0 σ3) (by rw [HRR.out, H5.out.2.2.2.1]; show (fill σ1 am ((σ1.st.length : Int) - σ.st.length)).map left0 = _; rw [← hB, ← hC, show fill σ1 am ((n5 : Int) - (n0 : Int)) = some σ3 from hr]; rfl) (HD.out.wide (H5.out.1.trans (t1.trans hs))) hw6 ((H5.out.2.2.1.step t1).step hs))
        refine hK.out _ _ (no_more (by kernel_rfl)) ?_
        clear hK K hs hw6 hr t1 t3 hA hB hC
        (try simp only [Act.put, List.setIfInBounds_toArray, List.set_cons_zero, List.set_cons_succ])
        refine wpAnyT_done (by kernel_rfl) ?_ _
        go_wp2_with fail
        first | go_end0 | go_ret
        exact HY.out
end
end WrL
section WrM
open Go.RowKit Fx Rec

theorem infoFn : (Tryz.prog.info? 1).map (fun i => (i.zero, i.size, i.bytes)) = some (some .nilFunc, 1, 8) := by kernel_rfl
theorem run_append_fn (w : World) (ty : TypeId) (v : Value) (n : Nat) (xs : List Value) (hown : w.ownsRow 0 1 1 v n xs) (hn : n ≤ 1000000) (g : Nat) (fn : Fn) (ra ca : Array Value) (hg : w.heap[g]? = some (.cells #[.func fn ra ca] 1 (0, 0))) :
    ∃ v' w', (Builtin.append_ #[120, 120] ty #[v, .slice (some ⟨g, 0, none⟩) 1 1]).run Tryz.prog w = .ok v' w' ∧ Grew w w' 0 1 1 v v' (n + 1) (xs ++ [.func fn ra ca]) := by
  obtain ⟨i0, hi, hz0, hz1, hz2⟩ := info_parts infoFn
  obtain ⟨v', w', h1, h2, h3, _, h5⟩ := run_append_own_at (P := Tryz.prog) w 0 120 ty 1 i0 _ 1 8 Tryz.underlying120 hi hz0 hz1 hz2 rfl (by decide) v n xs hown ⟨g, 0, none⟩ 1 1 [.func fn ra ca] rfl
    (fun j u hu => by
      have hadd : (⟨g, 0, none⟩ : Addr).add j = ⟨g, j, none⟩ := by unfold Addr.add; split <;> simp_all
      rw [hadd, cell_of_row w g j _ _ _ hg]; simpa using hu)
    (fun u hu => by simp at hu; subst hu; rfl) (by unfold maxLen; omega) (by omega) (Nat.zero_le _)
  exact ⟨v', w', h1, h2, h3, h5⟩
section
variable {o : Wo} {w W w1 : World} {top : Nat} {L : List Fm} {σ : Ws} {k : Nat} {vv vst vch vs : Value} {chs : List Value}
/-- A checksum to come has been put behind the others. -/
theorem WrMut.checked (hm : WrMut w o top σ k vv vst vch vs chs) (hb : Below w.heap.size w W) {v1 fv : Value} {c : Nat × Nat × Nat} (hc : ChkAt W o fv c)
    (hG : Grew W w1 0 1 1 vch v1 (σ.checks.length + 1) (chs ++ [fv])) :
    (w1.cell? ⟨o.wb, 6, none⟩ = some vch ∧ w1.frozen? ⟨o.wb, 6, none⟩ = false) ∧ StepW o NoX w (w1.setCell ⟨o.wb, 6, none⟩ v1) ∧ WrMut (w1.setCell ⟨o.wb, 6, none⟩ v1) o top { σ with checks := σ.checks ++ [c] } k vv vst v1 vs (chs ++ [fv]) := by
  obtain ⟨hs0, -, hW⟩ := hm.below hb
  have hg := hG.grown
  have G : ∀ q, q < W.heap.size → vch.ownBlock ≠ some q → w1.heap[q]? = W.heap[q]? := fun q hq hne => hg.block q hq (fun e => hne e.symm)
  have hblk1 : Blk w1 o.wb 122 _ := (G _ hW.blk.lt hW.ch_wb).trans hW.blk
  have hsb1 : Blk w1 o.sb 24 _ := (G _ hW.sums.sb.lt (own_blk_ne hW.ch hW.sums.sb (by decide))).trans hW.sums.sb
  have E : ∀ q, q ≠ o.wb → (w1.setCell ⟨o.wb, 6, none⟩ v1).heap[q]? = w1.heap[q]? := fun q hq => Below.heap_setCell _ _ _ _ hq
  have hblk2 : Blk (w1.setCell ⟨o.wb, 6, none⟩ v1) o.wb 122 #[.map (some o.fb), .map (some o.kb), vv, .int .i64 (σ.parts : Nat), vst, sumW o, v1] := hblk1.set_ 6 v1
  have sums : SumsAt (w1.setCell ⟨o.wb, 6, none⟩ v1) o.sb o.ab (atW o.xb) (sumTo (bytesOf σ.st)) k vs :=
    hW.sums.keep ((E _ hW.sb_wb).trans (G _ hW.sums.sb.lt (own_blk_ne hW.ch hW.sums.sb (by decide)))) ((E _ hW.ab_wb).trans (G _ hW.sums.ab.lt (own_blk_ne hW.ch hW.sums.ab (by decide))))
      fun g hgg => (E g fun e => hW.vs_wb (e ▸ hgg)).trans (G g (own_lt hW.sums.row hgg) fun e => own_own_ne hW.ch hW.sums.row (by decide) e hgg rfl)
  have hk : Kept (Safe W o) W (w1.setCell ⟨o.wb, 6, none⟩ v1) :=
    ((Kept.refl _ _).grown hg (fun q hq => hq.lt) (fun q hq hS => hS.no ((hW.own_ q).2 (.inr (.inr (.inr (.inl hq))))))).setCell hW.safe_wb _
  have hs1 : StepW o NoX W (w1.setCell ⟨o.wb, 6, none⟩ v1) := StepW.make hk fun q h => by
    rcases (own_iff hblk2 sums.sb q).1 h with h | h | h | h | h
    · exact .inl ((hW.own_ q).2 (.inl h))
    · exact .inl ((hW.own_ q).2 (.inr (.inl h)))
    · exact .inl ((hW.own_ q).2 (.inr (.inr (.inl h))))
    · rcases hG.blk with hb' | hb'
      · exact .inl ((hW.own_ q).2 (.inr (.inr (.inr (.inl (hb' ▸ h))))))
      · rw [hb'] at h
        cases h
        exact .inr (Nat.le_refl _)
    · exact .inl ((hW.own_ q).2 (.inr (.inr (.inr (.inr h)))))
  refine ⟨⟨by rw [hblk1.cell]; rfl, hblk1.frozen 6⟩, hs0.trans hs1, { hW with blk := hblk2, vals := hW.vals.step fun b h1 h2 => hs1.same (hW.sv b h1 h2).1, sv := fun b h1 h2 => ⟨hs1.safe _ (hW.sv b h1 h2).1, (hW.sv b h1 h2).2⟩, st := ?_, sums := sums, ch := ?_, chks := ?_ }⟩
  · exact own_keep hW.st fun g cur hgg hh => (E g fun e => hW.st_wb (e ▸ hgg)).trans (G g (lt_of_heap hh) fun e => own_own_ne hW.ch hW.st (by decide) e hgg rfl)
  · rw [List.length_append, List.length_singleton]
    exact own_keep hG.own fun g cur _ hh => E g (Blk.ne_ (t := 1) hh hblk1 (by decide))
  · have hcl : chs.length = σ.checks.length := by simpa using hW.ch.1
    intro i hi
    by_cases e : i < σ.checks.length
    · have h1 := (hW.chks i e).step hs1
      simp only [List.getD, List.getElem?_append_left e, List.getElem?_append_left (show i < chs.length by omega)]
      exact h1
    · have e2 : i = σ.checks.length := by
        have : (σ.checks ++ [c]).length = σ.checks.length + 1 := by simp
        have h9 : i < (σ.checks ++ [c]).length := hi
        omega
      subst e2
      have h1 := hc.step hs1
      simp only [List.getD, List.getElem?_concat_length, Option.getD_some]
      rw [← hcl, List.getElem?_concat_length]
      exact h1
end
end WrM
section WrN
open Go.RowKit Fx Rec

theorem step_append_fn {ops : Array Oper} {o : Oper} {a : Act} {w : World} {K : Act → World → Prop} {Q : Exit → Act → World → Prop} {E : Prop}
    (hg : o.guard = none) (s x : Operand) (hop : o.op = Op.call { callee := Callee.builtin Builtin.append, args := #[s, x], argTypes := #[120, 120] })
    (v : Value) (n : Nat) (xs : List Value) (hs : a.eval s = v) (hown : w.ownsRow 0 1 1 v n xs) (hn : n ≤ 1000000) (g : Nat) (fn : Fn) (ra ca : Array Value) (hx : a.eval x = .slice (some ⟨g, 0, none⟩) 1 1)
    (hb : w.heap[g]? = some (.cells #[.func fn ra ca] 1 (0, 0)))
    (hK : ∀ v' w', Grew w w' 0 1 1 v v' (n + 1) (xs ++ [.func fn ra ca]) → K (a.put o.dst v') w') :
    if Region.wanted o (yielded ops a.tmps) = true then Oper.wp Tryz.prog o a w K Q else E := by
  have hw : Region.wanted o (yielded ops a.tmps) = true := by simp [Region.wanted, hg]
  rw [if_pos hw]
  obtain ⟨v', w', hr, h2⟩ := run_append_fn w o.type v n xs hown hn g fn ra ca hb
  unfold Oper.wp
  simp [execOp, hop, resolve, invoke, builtin, hs, hx, hr, Result.andThen]
  exact hK _ _ h2
section
variable {w w' : World} {o : Wo} {top db : Nat} {fs : List Fld} {u : Value} {j st0 : Nat} {d : Dr} {cs : List Value} {L : List Fm} {σ : Ws} {f : Fld} {r : Option Rec.Left} {k : Nat}
set_option maxRecDepth 20000 in
set_option maxHeartbeats 600000 in
theorem kw_check (h : WrAt w o top L σ k) (hd : DrAt w o top db fs u j st0 d cs) (hj : d.counts.length = j) (hf : f = fs.getD j zf) (hk : f.kind = 6) (f1 : 1 ≤ f.n) (f3 : f.n ≤ 3) (hcn : σ.checks.length ≤ 5000) :
    Calls Tryz.prog 82 #[ptr o.wb, ptr db, fldV f] w fun e w' => KW w o top L k db fs u j st0 d (wcheck f st0 σ) e w' := by
  obtain ⟨RR, hRR⟩ : ∃ RR, RR = wcheck f st0 σ := ⟨_, rfl⟩
  rw [← hRR]
  have HRR := Lib.hid hRR
  obtain ⟨sa, sc, c4, hle⟩ := h.stream_
  obtain ⟨n, hn⟩ : ∃ n : Nat, n = σ.st.length := ⟨_, rfl⟩
  rw [← hn] at c4 hle
  obtain ⟨W1, hW1⟩ : ∃ W1, W1 = ((w.alloc (.cells #[ptr o.wb] 90)).alloc (.cells #[ptr db] 147)).alloc (.cells #[.int .i64 f.kind, .int .i64 f.n, .int .i64 f.frm, .string f.text] 56) := ⟨_, rfl⟩
  have hlw : o.wb < w.heap.size := by
    obtain ⟨_, _, _, _, _, _, hm⟩ := h
    exact hm.blk.lt
  have hb1 : Below w.heap.size w W1 := by
    rw [hW1]
    exact ((bx _).trans ((bx _).mono (by simp))).trans ((bx _).mono (by simp; omega))
  have hs3 : W1.heap.size = w.heap.size + 3 := by rw [hW1]; simp
  have q0 : Blk W1 w.heap.size 90 #[ptr o.wb] := by
    rw [hW1]
    exact (heap_alloc_old _ _ (by simp; omega)).trans ((heap_alloc_old _ _ (by simp)).trans (Blk.new w _ _))
  have q1 : Blk W1 (w.heap.size + 1) 147 #[ptr db] := by
    rw [hW1]
    have := Blk.new (w.alloc (.cells #[ptr o.wb] 90)) 147 #[ptr db]
    simp only [World.size_alloc] at this
    exact (heap_alloc_old _ _ (by simp)).trans this
  have q2 : Blk W1 (w.heap.size + 1 + 1) 56 (fldC f).toArray := by
    rw [hW1]
    have := Blk.new ((w.alloc (.cells #[ptr o.wb] 90)).alloc (.cells #[ptr db] 147)) 56 (fldC f).toArray
    simpa [fldC] using this
  have c4x : W1.cell? ⟨o.wb, 4, none⟩ = some (.slice sa n sc) := by rw [World.cell?_of_block (w := w) (hb1.block _ hlw)]; exact c4
  rw [hW1] at c4x
  have HQ := Lib.hid (And.intro hb1 (And.intro hs3 (And.intro q0 (And.intro q1 q2))))
  clear hb1 hs3 q0 q1 q2
  have HH := Lib.hid (And.intro h (And.intro hd (And.intro hj (And.intro hf (And.intro hk (And.intro hn hcn))))))
  clear h hd hj hf hk hn hRR hcn
  go_enter Tryz.func82, Tryz.ntmps82
  go_wp2_with fail
  rw [← hW1]
  clear hW1 c4x
  obtain ⟨W2, hW2⟩ : ∃ W2, W2 = W1.alloc (.cells #[.int .i64 (n : Nat)] 3) := ⟨_, rfl⟩
  rw [← hW2]
  have hb2 : Below W1.heap.size W1 W2 := by rw [hW2]; exact bx _
  have q3 : Blk W2 (w.heap.size + 1 + 1 + 1) 3 #[.int .i64 (n : Nat)] := by
    have := Blk.new W1 3 #[.int .i64 (n : Nat)]
    rw [HQ.out.2.1] at this
    rw [hW2]; exact this
  have hs4 : W2.heap.size = w.heap.size + 4 := by rw [hW2]; simp [HQ.out.2.1]
  have hbw : Below w.heap.size w W2 := HQ.out.1.trans (hb2.mono (by rw [HQ.out.2.1]; omega))
  obtain ⟨t1, t2, t3⟩ := HH.out.1.below hbw
  have H2 := Lib.hid (And.intro t1 (And.intro t2 (And.intro t3 (And.intro hb2 (And.intro q3 hs4)))))
  clear t1 t2 t3 hb2 q3 hbw hW2
  refine (leave_any H2.out.2.2.1 f.n f.n.toNat (by omega) (by omega)).mono ?_
  rcases hr : addW σ (List.replicate f.n.toNat 0) with _ | σ1
  · rintro e w5 ⟨hs, rfl⟩
    exact ⟨rfl, KW.stop (by rw [HRR.out, wcheck, hr]; rfl) (HH.out.2.1.wide (H2.out.1.trans hs))⟩
  · rintro e w5 ⟨hs, hw5, v, rfl, hl5⟩
    have HL := Lib.hid hl5
    obtain ⟨xa, ya, za, rfl, -⟩ := hl5
    have k0 := H2.out.2.1 w.heap.size (Nat.le_refl _) (by omega)
    have k1 := H2.out.2.1 (w.heap.size + 1) (by omega) (by omega)
    have k2 := H2.out.2.1 (w.heap.size + 1 + 1) (by omega) (by omega)
    have k3 := H2.out.2.1 (w.heap.size + 1 + 1 + 1) (by omega) (by omega)
    have p0 : Blk w5 w.heap.size 90 #[ptr o.wb] := (hs.same k0).trans ((H2.out.2.2.2.1.block _ HQ.out.2.2.1.lt).trans HQ.out.2.2.1)
    have p1 : Blk w5 (w.heap.size + 1) 147 #[ptr db] := (hs.same k1).trans ((H2.out.2.2.2.1.block _ HQ.out.2.2.2.1.lt).trans HQ.out.2.2.2.1)
    have p2 : Blk w5 (w.heap.size + 1 + 1) 56 (fldC f).toArray := (hs.same k2).trans ((H2.out.2.2.2.1.block _ HQ.out.2.2.2.2.lt).trans HQ.out.2.2.2.2)
    have p3 : Blk w5 (w.heap.size + 1 + 1 + 1) 3 #[.int .i64 (n : Nat)] := (hs.same k3).trans H2.out.2.2.2.2.1
    have hd5 := (HH.out.2.1.step H2.out.1).step hs
    have hsk := hd5.skip_ HH.out.2.2.1 (by rw [← HH.out.2.2.2.1, HH.out.2.2.2.2.1]; decide)
    have hch1 := (addW_st hr).1
    obtain ⟨hf5, vv, vst, vch, vs, chs, hm5⟩ := hw5
    obtain ⟨ca, cc, hvch⟩ : ∃ ca cc, vch = .slice ca σ1.checks.length cc := by
      rcases hm5.ch.2 with ⟨rfl, h0⟩ | ⟨g, cap, cur, rfl, _⟩
      · exact ⟨none, 0, by rw [h0]⟩
      · exact ⟨_, _, rfl⟩
    obtain ⟨m, hm⟩ : ∃ m, m = σ1.checks.length := ⟨_, rfl⟩
    have hm9 : m ≤ 5000 := by rw [hm, hch1]; exact HH.out.2.2.2.2.2.2
    rw [← hm] at hvch
    subst hvch
    -- every world with new blocks behind w5
    have HN : Hid (∀ W, Below w5.heap.size w5 W → w5.heap.size < W.heap.size → Blk W w5.heap.size 124 #[.func (.func 110) #[] #[ptr xa, ptr ya, ptr za]] →
        ChkAt W o (.func (.func 102) #[] #[ptr w5.heap.size, ptr w.heap.size, ptr (w.heap.size + 1 + 1 + 1), ptr (w.heap.size + 1), ptr (w.heap.size + 1 + 1)]) (st0, σ.st.length, f.n.toNat)) := Lib.hid fun W hb hl hB => by
      obtain ⟨r1, r2, -⟩ := hm5.below hb
      have hnn : f.n = ((f.n.toNat : Nat) : Int) := by omega
      refine ⟨_, _, _, _, _, db, _, f, rfl, HL.out.step r1, ⟨hB, r2 _ (Nat.le_refl _) hl⟩, ⟨(r1.same (hs.safe _ k0)).trans p0, r1.safe _ (hs.safe _ k0)⟩, ⟨(r1.same (hs.safe _ k3)).trans (by have := p3; rw [HH.out.2.2.2.2.2.1] at this; exact this), r1.safe _ (hs.safe _ k3)⟩,
        ⟨(r1.same (hs.safe _ k1)).trans p1, r1.safe _ (hs.safe _ k1)⟩, ⟨(r1.same (hs.safe _ k2)).trans p2, hnn, r1.safe _ (hs.safe _ k2)⟩, ?_, r1.safe _ hd5.safe⟩
      rw [World.cell?_of_block (w := w5) (r1.same hd5.safe), hd5.blk.cell]; rfl
    go_wp2_with fail
    obtain ⟨W3, hW3⟩ : ∃ W3, W3 = w5.alloc (.cells #[.func (.func 110) #[] #[ptr xa, ptr ya, ptr za]] 124) := ⟨_, rfl⟩
    rw [← hW3]
    have hb3 : Below w5.heap.size w5 W3 := by rw [hW3]; exact bx _
    have hB3 : Blk W3 w5.heap.size 124 #[.func (.func 110) #[] #[ptr xa, ptr ya, ptr za]] := by rw [hW3]; exact Blk.new w5 _ _
    have hs6 : W3.heap.size = w5.heap.size + 1 := by rw [hW3]; simp
    have HF : Hid (∀ W, Below w5.heap.size w5 W → W.cell? ⟨w.heap.size, 0, none⟩ = some (ptr o.wb) ∧ W.cell? ⟨o.wb, 6, none⟩ = some (.slice ca m cc)) := Lib.hid fun W hb =>
      ⟨by rw [World.cell?_of_block (w := w5) (hb.block _ p0.lt), p0.cell]; rfl, by rw [World.cell?_of_block (w := w5) (hb.block _ hm5.blk.lt), hm5.blk.cell]; rfl⟩
    have H5 := Lib.hid (And.intro (H2.out.1.trans hs) (And.intro hf5 (And.intro hm5 (And.intro hsk (And.intro hr (And.intro hm (And.intro hb3 (And.intro hB3 hs6))))))))
    have HP0 := Lib.hid p0
    clear hs hf5 hm5 hsk hr hm hb3 hB3 hd5 hch1 k0 k1 k2 k3 p0 p1 p2 p3 hW3
    refine wp_region_T 10 (fun W : World => W.cell? ⟨w.heap.size, 0, none⟩ = some (ptr o.wb) ∧ W.cell? ⟨o.wb, 6, none⟩ = some (.slice ca m cc)) (by kernel_rfl) (HF.out _ H5.out.2.2.2.2.2.2.1.drew) (fun hHeld => ?_)
    refine wpAnyT_take (i := 0) (oi := ?o1) (v := ?v1) ?h1 ?a1 ?b1 ?c1 ?d1 ?e1 ?f1 ?j1 ?q1 (Or.inl ⟨?g1, ?y1⟩) ?s1 ?r1
    case h1 => (simp only [List.getElem?_toArray, List.getElem?_cons_zero]; rfl)
    case a1 => kernel_rfl
    case b1 => kernel_rfl
    case c1 => kernel_rfl
    case d1 => kernel_rfl
    case e1 => kernel_rfl
    case f1 => kernel_rfl
    case j1 => kernel_rfl
    case q1 => exact fun _ _ _ h => h
    case g1 => rfl
    case y1 => (intro wS hSw; obtain ⟨s0, s1⟩ := hSw; go_simp; (try with_reducible rfl))
    case s1 => assumption
    (try simp only [Act.put, List.setIfInBounds_toArray, List.set_cons_zero, List.set_cons_succ])
    refine wpAnyT_take (i := 1) (oi := ?o2) (v := ?v2) ?h2 ?a2 ?b2 ?c2 ?d2 ?e2 ?f2 ?j2 ?q2 (Or.inl ⟨?g2, ?y2⟩) ?s2 ?r2
    case h2 => (simp only [List.getElem?_toArray, List.getElem?_cons_zero, List.getElem?_cons_succ]; rfl)
    case a2 => kernel_rfl
    case b2 => kernel_rfl
    case c2 => kernel_rfl
    case d2 => kernel_rfl
    case e2 => kernel_rfl
    case f2 => kernel_rfl
    case j2 => kernel_rfl
    case q2 => exact fun _ _ _ h => h
    case g2 => rfl
    case y2 => (intro wS hSw; obtain ⟨s0, s1⟩ := hSw; go_simp; (try with_reducible rfl))
    case s2 => assumption
    (try simp only [Act.put, List.setIfInBounds_toArray, List.set_cons_zero, List.set_cons_succ])
    refine wpAnyT_any (i := 2) (oi := ?o4) (v := ?v4) ?h4 ?a4 ?b4 ?c4 ?d4 ?e4 ?j4 ?q4 (Or.inl ⟨?g4, ?y4⟩) ?s4 ?r4
    case h4 => (simp only [List.getElem?_toArray, List.getElem?_cons_zero, List.getElem?_cons_succ]; rfl)
    case a4 => kernel_rfl
    case b4 => kernel_rfl
    case c4 => kernel_rfl
    case d4 => kernel_rfl
    case e4 => kernel_rfl
    case j4 => kernel_rfl
    case q4 => exact fun _ _ _ h => h
    case g4 => rfl
    case y4 => (intro wS _; go_simp; (try with_reducible rfl))
    case s4 => exact fun _ => by assumption
    (try simp only [Act.put, List.setIfInBounds_toArray, List.set_cons_zero, List.set_cons_succ])
    refine wpAnyT_any (i := 3) (oi := ?o6) (v := ?v6) ?h6 ?a6 ?b6 ?c6 ?d6 ?e6 ?j6 ?q6 (Or.inl ⟨?g6, ?y6⟩) ?s6 ?r6
    case h6 => (simp only [List.getElem?_toArray, List.getElem?_cons_zero, List.getElem?_cons_succ]; rfl)
    case a6 => kernel_rfl
    case b6 => kernel_rfl
    case c6 => kernel_rfl
    case d6 => kernel_rfl
    case e6 => kernel_rfl
    case j6 => kernel_rfl
    case q6 => exact fun _ _ _ h => h
    case g6 => rfl
    case y6 => (intro wS _; go_simp; (try with_reducible rfl))
    case s6 => exact fun _ => by assumption
    (try simp only [Act.put, List.setIfInBounds_toArray, List.set_cons_zero, List.set_cons_succ])
    refine wpAnyT_take (i := 4) (oi := ?o7) (v := ?v7) ?h7 ?a7 ?b7 ?c7 ?d7 ?e7 ?f7 ?j7 ?q7 (Or.inl ⟨?g7, ?y7⟩) ?s7 ?r7
    case h7 => (simp only [List.getElem?_toArray, List.getElem?_cons_zero, List.getElem?_cons_succ]; rfl)
    case a7 => kernel_rfl
    case b7 => kernel_rfl
    case c7 => kernel_rfl
    case d7 => kernel_rfl
    case e7 => kernel_rfl
    case f7 => kernel_rfl
    case j7 => kernel_rfl
    case q7 => exact fun _ _ _ h => h
    case g7 => rfl
    case y7 => (intro wS hSw; obtain ⟨s0, s1⟩ := hSw; go_simp; (try with_reducible rfl))
    case s7 => assumption
    (try simp only [Act.put, List.setIfInBounds_toArray, List.set_cons_zero, List.set_cons_succ])
    refine wpAnyT_take (i := 5) (oi := ?o8) (v := ?v8) ?h8 ?a8 ?b8 ?c8 ?d8 ?e8 ?f8 ?j8 ?q8 (Or.inl ⟨?g8, ?y8⟩) ?s8 ?r8
    case h8 => (simp only [List.getElem?_toArray, List.getElem?_cons_zero, List.getElem?_cons_succ]; rfl)
    case a8 => kernel_rfl
    case b8 => kernel_rfl
    case c8 => kernel_rfl
    case d8 => kernel_rfl
    case e8 => kernel_rfl
    case f8 => kernel_rfl
    case j8 => kernel_rfl
    case q8 => exact fun _ _ _ h => h
    case g8 => rfl
    case y8 => (intro wS hSw; obtain ⟨s0, s1⟩ := hSw; go_simp; (try with_reducible rfl))
    case s8 => assumption
    (try simp only [Act.put, List.setIfInBounds_toArray, List.set_cons_zero, List.set_cons_succ])
    refine wpAnyT_ready (rs := [6]) (by kernel_rfl) (by simp) ?_
    refine AllReadyT.cons (o := ?oB9) ?hB9 ?kB9 AllReadyT.nil
    case hB9 => (simp only [List.getElem?_toArray, List.getElem?_cons_zero, List.getElem?_cons_succ]; rfl)
    case kB9 =>
      intro K hK
      go_simp
      refine hK.out _ _ (fun _ => HF.out _ ((H5.out.2.2.2.2.2.2.1.alloc (by have := H5.out.2.2.2.2.2.2.2.2; omega) _).drew)) ?_
      clear hK K
      (try simp only [Act.put, List.setIfInBounds_toArray, List.set_cons_zero, List.set_cons_succ])
      have hb1 : (W3.alloc (.cells #[(.func (.func 102) #[] #[ptr w5.heap.size, ptr w.heap.size, ptr (w.heap.size + 1 + 1 + 1), ptr (w.heap.size + 1), ptr (w.heap.size + 1 + 1)])] 1)).drew.heap[W3.heap.size]? = some (.cells #[(.func (.func 102) #[] #[ptr w5.heap.size, ptr w.heap.size, ptr (w.heap.size + 1 + 1 + 1), ptr (w.heap.size + 1), ptr (w.heap.size + 1 + 1)])] 1 (0, 0)) := heap_alloc_new W3 _
      have HB1 : Hid (Below w5.heap.size w5 (W3.alloc (.cells #[(.func (.func 102) #[] #[ptr w5.heap.size, ptr w.heap.size, ptr (w.heap.size + 1 + 1 + 1), ptr (w.heap.size + 1), ptr (w.heap.size + 1 + 1)])] 1)).drew) := Lib.hid ((H5.out.2.2.2.2.2.2.1.alloc (by have := H5.out.2.2.2.2.2.2.2.2; omega) _).drew)
      have HCK : Hid (ChkAt (W3.alloc (.cells #[(.func (.func 102) #[] #[ptr w5.heap.size, ptr w.heap.size, ptr (w.heap.size + 1 + 1 + 1), ptr (w.heap.size + 1), ptr (w.heap.size + 1 + 1)])] 1)).drew o (.func (.func 102) #[] #[ptr w5.heap.size, ptr w.heap.size, ptr (w.heap.size + 1 + 1 + 1), ptr (w.heap.size + 1), ptr (w.heap.size + 1 + 1)]) (st0, σ.st.length, f.n.toNat)) := Lib.hid (HN.out _ HB1.out (by have := H5.out.2.2.2.2.2.2.2.2; show w5.heap.size < (W3.alloc _).heap.size; simp; omega) ((heap_alloc_old _ _ (by have := H5.out.2.2.2.2.2.2.2.2; omega)).trans H5.out.2.2.2.2.2.2.2.1))
      generalize hW4 : (W3.alloc (.cells #[(.func (.func 102) #[] #[ptr w5.heap.size, ptr w.heap.size, ptr (w.heap.size + 1 + 1 + 1), ptr (w.heap.size + 1), ptr (w.heap.size + 1 + 1)])] 1)).drew = W4 at *
      rw [hs6] at hb1
      have hrow : W4.ownsRow 0 1 1 (.slice ca m cc) m chs := by
        have h9 := (H5.out.2.2.1.below HB1.out).2.2.ch
        rw [← H5.out.2.2.2.2.2.1] at h9
        exact h9
      refine wpAnyT_ready (rs := [7]) (by kernel_rfl) (by simp) ?_
      refine AllReadyT.cons (o := ?oB10) ?hB10 ?kB10 AllReadyT.nil
      case hB10 => (simp only [List.getElem?_toArray, List.getElem?_cons_zero, List.getElem?_cons_succ]; rfl)
      case kB10 =>
        intro K hK
        refine step_append_fn rfl (.tmp 21) (.tmp 23) rfl _ m chs rfl hrow (by omega) (w5.heap.size + 1) _ _ _ rfl hb1 (fun v1 w1 hG => ?_)
        have hG2 : Grew W4 w1 0 1 1 (.slice ca m cc) v1 (m + 1) (chs ++ [(.func (.func 102) #[] #[ptr w5.heap.size, ptr w.heap.size, ptr (w.heap.size + 1 + 1 + 1), ptr (w.heap.size + 1), ptr (w.heap.size + 1 + 1)])]) := hG
        have hC := H5.out.2.2.1.checked HB1.out HCK.out (by rw [← H5.out.2.2.2.2.2.1]; exact hG)
        obtain ⟨g1, cp1, rfl⟩ : ∃ g1 cp1, v1 = .slice (some ⟨g1, 0, none⟩) (m + 1) cp1 := by
          rcases hG.own.2 with ⟨_, h0⟩ | ⟨g, cap, cur, rfl, _⟩
          · omega
          · exact ⟨g, cap, rfl⟩
        have y0 := hC.1.1
        have y1 := hC.1.2
        have z0 : w1.cell? ⟨w.heap.size, 0, none⟩ = some (ptr o.wb) := by
          have pb : Blk W4 w.heap.size 90 #[ptr o.wb] := (HB1.out.block _ HP0.out.lt).trans HP0.out
          rw [World.cell?_of_block (w := W4) (a := ⟨w.heap.size, 0, none⟩) (hG2.grown.block _ pb.lt (fun e => own_blk_ne hrow pb (by decide) e.symm)), pb.cell]; rfl
        have hF1 := And.intro z0 y0
        refine hK.out _ _ (fun _ => hF1) ?_
        clear hK K
        (try simp only [Act.put, List.setIfInBounds_toArray, List.set_cons_zero, List.set_cons_succ])
        have HY : Hid (KW w o top L k db fs u j st0 d RR (.returned (.tuple #[])) (w1.setCell ⟨o.wb, 6, none⟩ (.slice (some ⟨g1, 0, none⟩) (m + 1) cp1))) := Lib.hid (KW.yes (p := left0 { σ1 with checks := σ1.checks ++ [(st0, σ.st.length, f.n.toNat)] }) (by rw [HRR.out, wcheck, H5.out.2.2.2.2.1]; rfl) (HH.out.2.1.wide (H5.out.1.trans hC.2.1)) ⟨H5.out.2.1.step hC.2.1 (fun _ h => h.elim), _, _, _, _, _, hC.2.2⟩ (H5.out.2.2.2.1.step hC.2.1))
        clear hC hG hG2 hb1 hW4 hHeld hrow z0
        refine wpAnyT_any (i := 8) (oi := ?o11) (v := ?v11) ?h11 ?a11 ?b11 ?c11 ?d11 ?e11 ?j11 ?q11 (Or.inl ⟨?g11, ?y11⟩) ?s11 ?r11
        case h11 => (simp only [List.getElem?_toArray, List.getElem?_cons_zero, List.getElem?_cons_succ]; rfl)
        case a11 => kernel_rfl
        case b11 => kernel_rfl
        case c11 => kernel_rfl
        case d11 => kernel_rfl
        case e11 => kernel_rfl
        case j11 => kernel_rfl
        case q11 => exact fun _ _ _ h => h
        case g11 => rfl
        case y11 => (intro wS _; go_simp; (try with_reducible rfl))
        case s11 => exact fun _ => by assumption
        (try simp only [Act.put, List.setIfInBounds_toArray, List.set_cons_zero, List.set_cons_succ])
        refine wpAnyT_any (i := 9) (oi := ?o12) (v := ?v12) ?h12 ?a12 ?b12 ?c12 ?d12 ?e12 ?j12 ?q12 (Or.inl ⟨?g12, ?y12⟩) ?s12 ?r12
        case h12 => (simp only [List.getElem?_toArray, List.getElem?_cons_zero, List.getElem?_cons_succ]; rfl)
        case a12 => kernel_rfl
        case b12 => kernel_rfl
        case c12 => kernel_rfl
        case d12 => kernel_rfl
        case e12 => kernel_rfl
        case j12 => kernel_rfl
        case q12 => exact fun _ _ _ h => h
        case g12 => rfl
        case y12 => (intro wS _; go_simp; (try with_reducible rfl))
        case s12 => exact fun _ => by assumption
        (try simp only [Act.put, List.setIfInBounds_toArray, List.set_cons_zero, List.set_cons_succ])
        refine wpAnyT_ready (rs := [10]) (by kernel_rfl) (by simp) ?_
        refine AllReadyT.cons (o := ?oB13) ?hB13 ?kB13 AllReadyT.nil
        case hB13 => (simp only [List.getElem?_toArray, List.getElem?_cons_zero, List.getElem?_cons_succ]; rfl)
        case kB13 =>
          intro K hK
          go_simp
          refine hK.out _ _ (no_more (by kernel_rfl)) ?_
          clear hK K
          (try simp only [Act.put, List.setIfInBounds_toArray, List.set_cons_zero, List.set_cons_succ])
          refine wpAnyT_done (by kernel_rfl) ?_ _
          go_wp2_with fail
          first | go_end0 | go_ret
          exact HY.out
end
end WrN
section RecM
open Go.RowKit Fx Rec

/-- A field that a valid table may have. -/
structure FOk (L : List Fm) (N : Nat) (f : Fld) : Prop where
  lo : 1 ≤ f.kind
  hi : f.kind ≤ 6
  k1 : f.kind = 1 → f.text.size ≤ 16
  k2 : f.kind = 2 ∨ f.kind = 6 → 1 ≤ f.n ∧ f.n ≤ 3
  k3 : f.kind = 3 → (f.frm = -1 ∧ 0 ≤ f.n ∧ f.n ≤ 4096) ∨ ∃ q : Nat, f.frm = q ∧ q < 16
  k4 : f.kind = 4 ∨ f.kind = 5 → (∃ q : Nat, f.frm = q ∧ q < 16) ∧ ∃ i, At L f.n i ∧ i < N
theorem enters_67 : Enters 67 := fun args w => by simp [callFunc, Tryz.func67, Tryz.f67]
theorem enters_68 : Enters 68 := fun args w => by simp [callFunc, Tryz.func68, Tryz.f68]
theorem enters_69 : Enters 69 := fun args w => by simp [callFunc, Tryz.func69, Tryz.f69]
theorem enters_70 : Enters 70 := fun args w => by simp [callFunc, Tryz.func70, Tryz.f70]
theorem enters_71 : Enters 71 := fun args w => by simp [callFunc, Tryz.func71, Tryz.f71]
theorem enters_72 : Enters 72 := fun args w => by simp [callFunc, Tryz.func72, Tryz.f72]
theorem kind_any {o : Ro} {rb vb : Nat} {L : List Fm} {s : ByteArray} {v : Vl} {f : Fld} {a l st k N : Nat} (ok : VOk v) (hN : VNat v a l st k) (hl : l ≤ s.size) (hf : FOk L N f) (hC : ValC o rb L s N) (hdp : v.depth + 1 + N ≤ 100) :
    ∃ fn, lkV (kindsR rb) f.kind = some (.func (.func fn) #[ptr rb] #[]) ∧ Enters fn ∧ ∀ (W : World) (P : Nat → Prop) (ps : List Pt), Rd W P o rb L s ps → VAt W vb v → P vb →
      Calls Tryz.prog fn #[ptr rb, ptr vb, fldV f] W fun e w' => KPost W P o rb L s ps (kind s (val L s N) v.format v.depth st l k f v.nums a ps.length) e w' := by
  have h1 := hf.lo
  have h2 := hf.hi
  obtain h | h | h | h | h | h : f.kind = 1 ∨ f.kind = 2 ∨ f.kind = 3 ∨ f.kind = 4 ∨ f.kind = 5 ∨ f.kind = 6 := by omega
  · refine ⟨_, by rw [h]; rfl, enters_67, fun W P ps hr hv pv => ?_⟩
    have := rd_literal (f := f) hr hv ok hN hl (hf.k1 h)
    unfold kind; rw [if_pos h]; exact this
  · refine ⟨_, by rw [h]; rfl, enters_68, fun W P ps hr hv pv => ?_⟩
    have := rd_number (f := f) hr hv ok hN hl (hf.k2 (.inl h)).1 (hf.k2 (.inl h)).2
    unfold kind; rw [if_neg (by omega), if_pos h]; exact this
  · refine ⟨_, by rw [h]; rfl, enters_69, fun W P ps hr hv pv => ?_⟩
    unfold kind; rw [if_neg (by omega), if_neg (by omega), if_pos h]
    rcases hf.k3 h with ⟨e, e1, e2⟩ | ⟨q, e, hq⟩
    · rw [if_pos e]; exact rd_bytes_n (f := f) hr hv ok hN e e1 e2
    · rw [if_neg (by omega)]; exact rd_bytes_from (f := f) hr hv ok hN q e hq
  · refine ⟨_, by rw [h]; rfl, enters_70, fun W P ps hr hv pv => ?_⟩
    obtain ⟨⟨q, e, hq⟩, i, hi, hiN⟩ := hf.k4 (.inl h)
    unfold kind; rw [if_neg (by omega), if_neg (by omega), if_neg (by omega), if_pos h]
    exact rd_list (f := f) hr hv pv ok hN hl q e hq N hC i hi hiN hdp
  · refine ⟨_, by rw [h]; rfl, enters_71, fun W P ps hr hv pv => ?_⟩
    obtain ⟨⟨q, e, hq⟩, i, hi, hiN⟩ := hf.k4 (.inr h)
    unfold kind; rw [if_neg (by omega), if_neg (by omega), if_neg (by omega), if_neg (by omega), if_pos h]
    exact rd_inside (f := f) hr hv pv ok hN hl q e hq N hC i hi hiN hdp
  · refine ⟨_, by rw [h]; rfl, enters_72, fun W P ps hr hv pv => ?_⟩
    unfold kind; rw [if_neg (by omega), if_neg (by omega), if_neg (by omega), if_neg (by omega), if_neg (by omega)]
    exact rd_check (f := f) hr hv pv ok hN hl (hf.k2 (.inr h)).1 (hf.k2 (.inr h)).2
end RecM
end Go.Proofs.YtlhobhfmombjjaaGreatDoor
