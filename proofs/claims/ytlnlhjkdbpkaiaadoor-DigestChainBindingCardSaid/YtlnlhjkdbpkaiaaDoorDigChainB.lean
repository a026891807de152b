/- The law DigestChainBinding returns true and leaves what lay before the call as it was. Conditions: the arguments are readable; the tables digest.initial and digest.constants hold their numbers. -/
import Derived.Test.YtlnlhjkdbpkaiaaDoorDigHeads
import Derived.Test.YtlnlhjkdbpkaiaaDoorDigSame
import Derived.Test.YtlnlhjkdbpkaiaaDoorDigColm
import Derived.Deep.RegionHeld3
import Derived.Deep.RegionWith
namespace Go.Proofs.YtlnlhjkdbpkaiaaDoor
open Go.RowKit

/-- A stronger condition serves. -/
theorem wpAnyH_weaken {P : Program} {ops : Array Oper} {Q : Exit → Act → World → Prop} {md : Region.Mode} {S S' : World → Prop} (hS : ∀ w, S' w → S w) : ∀ (fuel : Nat) (listed : Array Bool) (a : Act) (w : World), wpAnyH P md ops Q S' fuel listed a w → wpAnyH P md ops Q S fuel listed a w
  | 0, _, _, _, h => h
  | fuel + 1, _, _, _, h => ⟨h.1, fun i hi => wpOp_mono (fun a' w' h' => ⟨hS w' h'.1, wpAnyH_weaken hS fuel _ a' w' h'.2⟩) (h.2 i hi)⟩
/-- The string that an index of a readable list names. -/
theorem ListAt.at {W : World} {a : Option Addr} {n c : Nat} {l : List ByteArray} (h : ListAt W (.slice a n c) l) {i : Nat} (hn : n = l.length) (hi : i < l.length) :
    ∃ b off, a = some ⟨b, off, none⟩ ∧ ∀ W', Below W.heap.size W W' → W'.cell? ⟨b, off + i, none⟩ = some (.string (l.getD i ByteArray.empty)) := by
  obtain ⟨_, ⟨a', c', h3, rfl⟩ | ⟨b, off, cap, h3, h4, h5, h6, h7, h8⟩⟩ := h
  · simp at hi
  · injection h3 with e1 e2 e3
    exact ⟨b, off, e1, fun W' hW => (h7.below hW h8) i hi⟩

/-- What the end of the law has to show, once the heads are equal and the lists are not: x and y lie in the slots, up is true. -/
theorem zeros_beq (d : ByteArray) : (d.toList == Dt.zeros.toList) = decide (d = Dt.zeros) := str_beq d Dt.zeros

set_option maxRecDepth 100000 in
set_option maxHeartbeats 16000000 in
theorem chainBinding_any (v0 v1 : Value) (L0 L1 : List ByteArray) (w : World) (hA0 : ArgAt w v0 L0) (hA1 : ArgAt w v1 L1) (hT : Tabs w) :
    Calls Tryd.prog 8 #[v0, v1] w fun e w' => e = .returned (.bool true) ∧ Below w.heap.size w w' := by
  have HA0 := Lib.hid hA0
  have HA1 := Lib.hid hA1
  have HT := Lib.hid hT
  clear hA0 hA1 hT
  go_enter Tryd.func8, Tryd.ntmps8
  go_wp2_with fail
  refine (sane_any _ HT.out).mono ?_
  rintro e w1 ⟨rfl, hB1⟩
  have HB1 := Lib.hid hB1
  clear hB1
  go_wp2_with fail
  refine (few_any _ L0 20 _ (HA0.out.below HB1.out) (by decide)).mono ?_
  rintro e w2 ⟨u, rfl, hu, hB2⟩
  obtain ⟨p, hp⟩ : ∃ L, L = fewL L0 20 := ⟨_, rfl⟩
  have hpl : p.length ≤ 20 := by rw [hp]; exact fewL_len L0 20
  have HPZ : Hid (∀ x ∈ p, x.size ≤ 500) := Lib.hid (by rw [hp]; intro x hx; obtain ⟨y, _, rfl⟩ := List.mem_map.1 hx; have := cut60_le y; omega)
  have hls := few_list hu
  rw [← hp] at hls
  obtain ⟨ua, uc, rfl⟩ := hls.form
  have HB2 := Lib.hid (HB1.out.trans (hB2.mono HB1.out.size))
  have HU := Lib.hid hls
  clear hu hB2 hp hls
  go_wp2_with fail
  refine (few_any _ L1 20 _ (HA1.out.below HB2.out) (by decide)).mono ?_
  rintro e w3 ⟨v, rfl, hv, hB3⟩
  obtain ⟨q, hq⟩ : ∃ L, L = fewL L1 20 := ⟨_, rfl⟩
  have hql : q.length ≤ 20 := by rw [hq]; exact fewL_len L1 20
  have HQZ : Hid (∀ x ∈ q, x.size ≤ 500) := Lib.hid (by rw [hq]; intro x hx; obtain ⟨y, _, rfl⟩ := List.mem_map.1 hx; have := cut60_le y; omega)
  have hls := few_list hv
  rw [← hq] at hls
  have HU3 := Lib.hid (HU.out.below hB3)
  have HB3 := Lib.hid (HB2.out.trans (hB3.mono HB2.out.size))
  have HV3 := Lib.hid hls
  clear hv hB3 hq hls
  go_wp2_with fail
  refine (heads_any _ p _ HPZ.out (by omega) HU3.out (HT.out.below HB3.out)).mono ?_
  rintro e w4 ⟨x, rfl, hx, hB4⟩
  have hsx := headsR_short p.reverse (fun y hy => HPZ.out y (by simpa using hy))
  have hlx := hx.list hsx
  obtain ⟨xa, xc, rfl⟩ := hlx.form
  have HU4 := Lib.hid (HU3.out.below hB4)
  have HV4 := Lib.hid (HV3.out.below hB4)
  have HX4 := Lib.hid hlx
  have HB4 := Lib.hid (HB3.out.trans (hB4.mono HB3.out.size))
  clear hx hB4 hsx hlx
  go_wp2_with fail
  refine (heads_any _ q _ HQZ.out (by omega) HV4.out (HT.out.below HB4.out)).mono ?_
  rintro e w5 ⟨y, rfl, hy, hB5⟩
  have hsy := headsR_short q.reverse (fun y hy => HQZ.out y (by simpa using hy))
  have hly := hy.list hsy
  obtain ⟨ya, yc, rfl⟩ := hly.form
  have HU5 := Lib.hid (HU4.out.below hB5)
  have HV5 := Lib.hid (HV4.out.below hB5)
  have HX5 := Lib.hid (HX4.out.below hB5)
  have HY5 := Lib.hid hly
  have HB5 := Lib.hid (HB4.out.trans (hB5.mono HB4.out.size))
  clear hy hB5 hsy hly
  go_wp2_with fail
  refine (same_any _ _ p q _ HU5.out HV5.out).mono ?_
  rintro e w6 ⟨rfl, hB6⟩
  have HX6 := Lib.hid (HX5.out.below hB6)
  have HY6 := Lib.hid (HY5.out.below hB6)
  have HB6 := Lib.hid (HB5.out.trans (hB6.mono HB5.out.size))
  clear hB6
  have hh1 := headR_sz p.reverse
  have hbind := Dt.heads_bind shaB shaB_size p.reverse q.reverse
  have hxl := Dt.headsR_len shaB p.reverse
  have hyl := Dt.headsR_len shaB q.reverse
  rw [List.length_reverse] at hxl hyl
  rw [List.length_reverse, List.length_reverse] at hbind
  have HSM : Hid (p.reverse = q.reverse → p = q) := Lib.hid (fun h => by have := congrArg List.reverse h; simpa using this)
  obtain ⟨h, hh⟩ : ∃ h, h = Dt.headR shaB p.reverse := ⟨_, rfl⟩
  obtain ⟨k, hk⟩ : ∃ k, k = Dt.headR shaB q.reverse := ⟨_, rfl⟩
  obtain ⟨X, hX⟩ : ∃ X, X = Dt.headsR shaB p.reverse := ⟨_, rfl⟩
  obtain ⟨Y, hY⟩ : ∃ Y, Y = Dt.headsR shaB q.reverse := ⟨_, rfl⟩
  have HPQ : Hid (p = q → h = k) := Lib.hid (fun e => by rw [hh, hk, e])
  rw [← hX] at HX6 hxl hbind ⊢
  rw [← hY] at HY6 hyl hbind ⊢
  rw [← hh] at hh1 hbind ⊢
  rw [← hk] at hbind ⊢
  rw [← hxl, ← hyl] at hbind
  have HBIND := Lib.hid hbind
  have hXle : X.length ≤ 20 := by omega
  have hYle : Y.length ≤ 20 := by omega
  have g1 : ((h.size : Int) != 32) = false := by simp [hh1]
  clear hh hk hX hY hbind hh1 HX5 HY5 HX4 HU3 HU4 HU5 HV3 HV4 HV5 HU
  by_cases hpq : p = q
  · have hhk : h = k := HPQ.out hpq
    subst hhk
    have t1 : (h.toList == h.toList) = true := by rw [str_beq]; simp
    rw [show decide (p = q) = true by simpa using hpq]
    clear hpq
    go_wp2_with fail
    go_ret
    exact ⟨rfl, HB6.out⟩
  · rw [show decide (p = q) = false by simpa using hpq]
    by_cases hhk : h = k
    · have t1 : (h.toList == k.toList) = true := by rw [str_beq]; simpa using hhk
      have hcase := HBIND.out (fun e => hpq (HSM.out e)) hhk
      obtain ⟨nx, hnx⟩ : ∃ n, n = X.length := ⟨_, rfl⟩
      obtain ⟨ny, hny⟩ : ∃ n, n = Y.length := ⟨_, rfl⟩
      have HNX := Lib.hid hnx
      have HNY := Lib.hid hny
      have HCASE := Lib.hid hcase
      rw [← hnx] at hXle HX6 ⊢
      rw [← hny] at hYle HY6 ⊢
      clear hcase hpq hhk hnx hny hxl hyl
      have HBQ : Hid (∀ n, Below w6.heap.size w6 (w6.drewN n)) := Lib.hid (fun n => ⟨rfl, rfl, rfl, Nat.le_refl _, fun _ _ => rfl⟩)
      by_cases hlen : nx = ny
      · have hC : Dt.Coll shaB X Y := by
          rcases HCASE.out with h | h
          · exact h
          · exact absurd (by rw [← HNX.out, ← HNY.out]; exact hlen) h.1
        have HC := Lib.hid hC
        clear hC
        subst hlen
        have l2 : ¬ (nx : Int) < (nx : Int) := by omega
        have l3 : ((nx : Int) != (nx : Int)) = false := by simp
        go_wp2_with fail
        go_quiet (fail)
        go_wp2_with fail
        refine (collide_any _ _ X Y _ (HX6.out.below (HBQ.out _)) (HY6.out.below (HBQ.out _)) ((HT.out.below HB6.out).below (HBQ.out _)) HC.out).mono ?_
        rintro e w8 ⟨rfl, hB8⟩
        have HB8 := Lib.hid hB8
        clear hB8
        go_wp2_with fail
        go_ret
        exact ⟨rfl, HB6.out.trans ((Below.trans (HBQ.out _) HB8.out).mono HB6.out.size)⟩
      · by_cases hlt : nx < ny
        · obtain ⟨b, off, hya, hcell⟩ := HY6.out.at (i := nx) (by first | exact HNY.out | rfl) (by rw [← HNY.out]; omega)
          subst hya
          have HCELL := Lib.hid hcell
          obtain ⟨s, hs⟩ : ∃ s, s = Y.getD nx ByteArray.empty := ⟨_, rfl⟩
          have hss : s.size ≤ 1000 := by rw [hs]; exact HY6.out.1.get _
          have HZZ : Hid (¬ Dt.Coll shaB X Y → shaB s = Dt.zeros) := Lib.hid (fun hno => by
            rcases HCASE.out with h | h
            · exact absurd h hno
            · have h2 := h.2
              unfold Dt.longer at h2
              rw [if_pos (by rw [← HNX.out, ← HNY.out]; omega), show min X.length Y.length = nx by rw [← HNX.out, ← HNY.out]; omega, ← hs] at h2
              exact h2)
          rw [← hs] at HCELL
          obtain ⟨d, hd⟩ : ∃ d, d = shaB s := ⟨_, rfl⟩
          have HSUM : Hid (∀ W, Below w6.heap.size w6 W → Calls Tryd.prog 12 #[.string s] W fun e w' => e = .returned (.string d) ∧ w'.cell? ⟨b, off + nx, none⟩ = some (.string s) ∧ Below w6.heap.size w6 w' ∧ (∀ g, W.heap[g]? = some (Obj.cells z32 5 (0, 0)) → w'.heap[g]? = some (Obj.cells z32 5 (0, 0)))) := Lib.hid (fun W hW => by
            rw [hd]
            exact (Sum_any s W ((HT.out.below HB6.out).below hW) (by omega)).mono fun e w' h => ⟨h.1, HCELL.out _ (hW.trans (h.2.mono hW.size)), hW.trans (h.2.mono hW.size), fun g hg => (h.2.block g (Array.getElem?_eq_some_iff.1 hg).1).trans hg⟩)
          rw [← hd] at HZZ
          have HCB : Hid (∀ W, Below w6.heap.size w6 W → W.cell? ⟨b, off + nx, none⟩ = some (.string s) ∧ Below w6.heap.size w6 W) := Lib.hid (fun W hW => ⟨HCELL.out W hW, hW⟩)
          have HA6 : Hid (∀ W o, Below w6.heap.size w6 W → Below w6.heap.size w6 (W.alloc o)) := Lib.hid (fun W o h => h.alloc h.size o)
          have hmin : ∀ (ts : Array TypeId) (t : TypeId) (W : World), (Builtin.min_ ts t #[.int .i64 (nx : Int), .int .i64 (ny : Int)]).run Tryd.prog W = .ok (.int .i64 (nx : Int)) W := by
            intro ts t W
            rw [run_min2]
            congr 2
            split <;> omega
          have l1 : ((nx : Int) == (ny : Int)) = false := by simp; omega
          have l1' : ((nx : Int) != (ny : Int)) = true := by simp; omega
          have l2 : (nx : Int) < (ny : Int) := by omega
          have l3 : ¬ (nx : Int) = (ny : Int) := by omega
          have l4 : (nx : Int) < (ny : Int) := by omega
          have l5 : 0 ≤ (nx : Int) := by omega
          have hmk := make_z32
          have hcv1 := fun (W0 : World) => str_z32 (W0.alloc (.cells z32 5)) W0.heap.size (heap_alloc_new W0 _)
          clear hcell hs hd hlen hlt
          obtain ⟨zb, hzb⟩ : ∃ z, z = decide (d = Dt.zeros) := ⟨_, rfl⟩
          have tz : (d.toList == Dt.zeros.toList) = zb := by rw [str_beq, hzb]
          have HC : Hid (zb = true ∨ Dt.Coll shaB X Y) := Lib.hid (by
            by_cases hno : Dt.Coll shaB X Y
            · exact .inr hno
            · exact .inl (by rw [hzb]; simpa using HZZ.out hno))
          clear HZZ hzb
          have hc6 := (HCB.out _ (Below.refl _ w6)).1
          have hne6 := World.new_ne _ _ hc6
          go_wp2_with fail
          refine wp_region_held_drew (S := fun w' => w'.cell? ⟨b, off + nx, none⟩ = some (.string s) ∧ Below w6.heap.size w6 w') (by kernel_rfl) (HCB.out _ (Below.refl _ w6).drew) (fun hHeld => ?_)
          refine wpAnyH_take (i := 0) (oi := ?o1) (v := ?v1) ?h1 ?a1 ?b1 ?c1 ?q1 (Or.inl ⟨?g1, ?y1⟩) ?s1 ?r1
          case h1 => (simp only [List.getElem?_toArray, List.getElem?_cons_zero]; rfl)
          case a1 => kernel_rfl
          case b1 => kernel_rfl
          case c1 => kernel_rfl
          case q1 => exact fun _ _ _ h => h
          case g1 => rfl
          case y1 => (intro wS hSw; (try dsimp only at hSw); go_simp; (try with_reducible rfl))
          case s1 => assumption
          (try simp only [Act.put, List.setIfInBounds_toArray, List.set_cons_zero, List.set_cons_succ])
          refine wpAnyH_take (i := 1) (oi := ?o2) (v := ?v2) ?h2 ?a2 ?b2 ?c2 ?q2 (Or.inl ⟨?g2, ?y2⟩) ?s2 ?r2
          case h2 => (simp only [List.getElem?_toArray, List.getElem?_cons_zero, List.getElem?_cons_succ]; rfl)
          case a2 => kernel_rfl
          case b2 => kernel_rfl
          case c2 => kernel_rfl
          case q2 => exact fun _ _ _ h => h
          case g2 => rfl
          case y2 => (intro wS hSw; (try dsimp only at hSw); go_simp; (try with_reducible rfl))
          case s2 => assumption
          (try simp only [Act.put, List.setIfInBounds_toArray, List.set_cons_zero, List.set_cons_succ])
          refine wpAnyH_take (i := 2) (oi := ?o3) (v := ?v3) ?h3 ?a3 ?b3 ?c3 ?q3 (Or.inl ⟨?g3, ?y3⟩) ?s3 ?r3
          case h3 => (simp only [List.getElem?_toArray, List.getElem?_cons_zero, List.getElem?_cons_succ]; rfl)
          case a3 => kernel_rfl
          case b3 => kernel_rfl
          case c3 => kernel_rfl
          case q3 => exact fun _ _ _ h => h
          case g3 => rfl
          case y3 => (intro wS hSw; (try dsimp only at hSw); go_simp; (try with_reducible rfl))
          case s3 => assumption
          (try simp only [Act.put, List.setIfInBounds_toArray, List.set_cons_zero, List.set_cons_succ])
          refine wpAnyH_take (i := 3) (oi := ?o4) (v := ?v4) ?h4 ?a4 ?b4 ?c4 ?q4 (Or.inl ⟨?g4, ?y4⟩) ?s4 ?r4
          case h4 => (simp only [List.getElem?_toArray, List.getElem?_cons_zero, List.getElem?_cons_succ]; rfl)
          case a4 => kernel_rfl
          case b4 => kernel_rfl
          case c4 => kernel_rfl
          case q4 => exact fun _ _ _ h => h
          case g4 => rfl
          case y4 => (intro wS hSw; (try dsimp only at hSw); go_simp; (try with_reducible rfl))
          case s4 => assumption
          (try simp only [Act.put, List.setIfInBounds_toArray, List.set_cons_zero, List.set_cons_succ])
          refine wpAnyH_take (i := 4) (oi := ?o5) (v := ?v5) ?h5 ?a5 ?b5 ?c5 ?q5 (Or.inl ⟨?g5, ?y5⟩) ?s5 ?r5
          case h5 => (simp only [List.getElem?_toArray, List.getElem?_cons_zero, List.getElem?_cons_succ]; rfl)
          case a5 => kernel_rfl
          case b5 => kernel_rfl
          case c5 => kernel_rfl
          case q5 => exact fun _ _ _ h => h
          case g5 => rfl
          case y5 => (intro wS hSw; (try dsimp only at hSw); go_simp; (try with_reducible rfl))
          case s5 => assumption
          (try simp only [Act.put, List.setIfInBounds_toArray, List.set_cons_zero, List.set_cons_succ])
          refine wpAnyH_take (i := 5) (oi := ?o6) (v := ?v6) ?h6 ?a6 ?b6 ?c6 ?q6 (Or.inl ⟨?g6, ?y6⟩) ?s6 ?r6
          case h6 => (simp only [List.getElem?_toArray, List.getElem?_cons_zero, List.getElem?_cons_succ]; rfl)
          case a6 => kernel_rfl
          case b6 => kernel_rfl
          case c6 => kernel_rfl
          case q6 => exact fun _ _ _ h => h
          case g6 => rfl
          case y6 => (intro wS hSw; (try dsimp only at hSw); go_simp; (try with_reducible rfl))
          case s6 => assumption
          (try simp only [Act.put, List.setIfInBounds_toArray, List.set_cons_zero, List.set_cons_succ])
          refine wpAnyH_take (i := 6) (oi := ?o7) (v := ?v7) ?h7 ?a7 ?b7 ?c7 ?q7 (Or.inl ⟨?g7, ?y7⟩) ?s7 ?r7
          case h7 => (simp only [List.getElem?_toArray, List.getElem?_cons_zero, List.getElem?_cons_succ]; rfl)
          case a7 => kernel_rfl
          case b7 => kernel_rfl
          case c7 => kernel_rfl
          case q7 => exact fun _ _ _ h => h
          case g7 => rfl
          case y7 => (intro wS hSw; (try dsimp only at hSw); go_simp; (try with_reducible rfl))
          case s7 => assumption
          (try simp only [Act.put, List.setIfInBounds_toArray, List.set_cons_zero, List.set_cons_succ])
          refine wpAnyH_take (i := 7) (oi := ?o8) (v := ?v8) ?h8 ?a8 ?b8 ?c8 ?q8 (Or.inl ⟨?g8, ?y8⟩) ?s8 ?r8
          case h8 => (simp only [List.getElem?_toArray, List.getElem?_cons_zero, List.getElem?_cons_succ]; rfl)
          case a8 => kernel_rfl
          case b8 => kernel_rfl
          case c8 => kernel_rfl
          case q8 => exact fun _ _ _ h => h
          case g8 => rfl
          case y8 => (intro wS hSw; (try dsimp only at hSw); go_simp; (try with_reducible rfl))
          case s8 => assumption
          (try simp only [Act.put, List.setIfInBounds_toArray, List.set_cons_zero, List.set_cons_succ])
          refine wpAnyH_take (i := 8) (oi := ?o9) (v := ?v9) ?h9 ?a9 ?b9 ?c9 ?q9 (Or.inl ⟨?g9, ?y9⟩) ?s9 ?r9
          case h9 => (simp only [List.getElem?_toArray, List.getElem?_cons_zero, List.getElem?_cons_succ]; rfl)
          case a9 => kernel_rfl
          case b9 => kernel_rfl
          case c9 => kernel_rfl
          case q9 => exact fun _ _ _ h => h
          case g9 => rfl
          case y9 => (intro wS hSw; (try dsimp only at hSw); go_simp; (try with_reducible rfl))
          case s9 => assumption
          (try simp only [Act.put, List.setIfInBounds_toArray, List.set_cons_zero, List.set_cons_succ])
          refine wpAnyH_take (i := 9) (oi := ?o10) (v := ?v10) ?h10 ?a10 ?b10 ?c10 ?q10 (Or.inl ⟨?g10, ?y10⟩) ?s10 ?r10
          case h10 => (simp only [List.getElem?_toArray, List.getElem?_cons_zero, List.getElem?_cons_succ]; rfl)
          case a10 => kernel_rfl
          case b10 => kernel_rfl
          case c10 => kernel_rfl
          case q10 => exact fun _ _ _ h => h
          case g10 => rfl
          case y10 => (intro wS hSw; (try dsimp only at hSw); go_simp; (try with_reducible rfl))
          case s10 => assumption
          (try simp only [Act.put, List.setIfInBounds_toArray, List.set_cons_zero, List.set_cons_succ])
          refine wpAnyH_take (i := 10) (oi := ?o11) (v := ?v11) ?h11 ?a11 ?b11 ?c11 ?q11 (Or.inl ⟨?g11, ?y11⟩) ?s11 ?r11
          case h11 => (simp only [List.getElem?_toArray, List.getElem?_cons_zero, List.getElem?_cons_succ]; rfl)
          case a11 => kernel_rfl
          case b11 => kernel_rfl
          case c11 => kernel_rfl
          case q11 => exact fun _ _ _ h => h
          case g11 => rfl
          case y11 => (intro wS hSw; (try dsimp only at hSw); go_simp; (try with_reducible rfl))
          case s11 => assumption
          (try simp only [Act.put, List.setIfInBounds_toArray, List.set_cons_zero, List.set_cons_succ])
          refine wpAnyH_take (i := 11) (oi := ?o12) (v := ?v12) ?h12 ?a12 ?b12 ?c12 ?q12 (Or.inl ⟨?g12, ?y12⟩) ?s12 ?r12
          case h12 => (simp only [List.getElem?_toArray, List.getElem?_cons_zero, List.getElem?_cons_succ]; rfl)
          case a12 => kernel_rfl
          case b12 => kernel_rfl
          case c12 => kernel_rfl
          case q12 => exact fun _ _ _ h => h
          case g12 => rfl
          case y12 => (intro wS hSw; (try dsimp only at hSw); go_simp; (try with_reducible rfl))
          case s12 => assumption
          (try simp only [Act.put, List.setIfInBounds_toArray, List.set_cons_zero, List.set_cons_succ])
          refine wpAnyH_take (i := 12) (oi := ?o13) (v := ?v13) ?h13 ?a13 ?b13 ?c13 ?q13 (Or.inl ⟨?g13, ?y13⟩) ?s13 ?r13
          case h13 => (simp only [List.getElem?_toArray, List.getElem?_cons_zero, List.getElem?_cons_succ]; rfl)
          case a13 => kernel_rfl
          case b13 => kernel_rfl
          case c13 => kernel_rfl
          case q13 => exact fun _ _ _ h => h
          case g13 => rfl
          case y13 => (intro wS hSw; (try dsimp only at hSw); go_simp; (try with_reducible rfl))
          case s13 => assumption
          (try simp only [Act.put, List.setIfInBounds_toArray, List.set_cons_zero, List.set_cons_succ])
          refine wpAnyH_take (i := 13) (oi := ?o14) (v := ?v14) ?h14 ?a14 ?b14 ?c14 ?q14 (Or.inl ⟨?g14, ?y14⟩) ?s14 ?r14
          case h14 => (simp only [List.getElem?_toArray, List.getElem?_cons_zero, List.getElem?_cons_succ]; rfl)
          case a14 => kernel_rfl
          case b14 => kernel_rfl
          case c14 => kernel_rfl
          case q14 => exact fun _ _ _ h => h
          case g14 => rfl
          case y14 => (intro wS hSw; (try dsimp only at hSw); go_simp; (try with_reducible rfl))
          case s14 => assumption
          (try simp only [Act.put, List.setIfInBounds_toArray, List.set_cons_zero, List.set_cons_succ])
          refine wpAnyH_ready (rs := [14, 15]) (by kernel_rfl) (by simp) ?_
          refine AllReadyH.cons (o := ?o15) ?h15 ?k15 ?m15
          case h15 => (simp only [List.getElem?_toArray, List.getElem?_cons_zero, List.getElem?_cons_succ]; rfl)
          case k15 =>
            intro K hK
            go_simp
            go_at_call 12
            refine (HSUM.out _ ?_).mono ?_
            · (repeat (first | assumption | exact Below.refl _ _ | (with_reducible refine Below.drew ?_) | (with_reducible refine HA6.out _ _ ?_)))
            rintro e w7 ⟨rfl, hc7, hb7, hk7⟩
            go_wp2_with fail
            refine hK.out _ _ ⟨hc7, hb7⟩ (fun hHeld2 => ?_)
            clear hK K
            (try simp only [Act.put, List.setIfInBounds_toArray, List.set_cons_zero, List.set_cons_succ])
            refine wpAnyH_ready (rs := [15]) (by kernel_rfl) (by simp) ?_
            refine AllReadyH.cons (o := ?o16) ?h16 ?k16 ?m16
            case h16 => (simp only [List.getElem?_toArray, List.getElem?_cons_zero, List.getElem?_cons_succ]; rfl)
            case m16 => exact AllReadyH.nil
            case k16 =>
              intro K hK
              go_simp
              have hbW := HA6.out _ (Obj.cells z32 5) hb7
              refine hK.out _ _ (HCB.out _ hbW) (fun hHeld3 => ?_)
              clear hK K
              (try simp only [Act.put, List.setIfInBounds_toArray, List.set_cons_zero, List.set_cons_succ])
              refine wpAnyH_weaken (S' := fun w' => (w'.cell? ⟨b, off + nx, none⟩ = some (.string s) ∧ Below w6.heap.size w6 w') ∧ w'.heap[w7.heap.size]? = some (Obj.cells z32 5 (0, 0))) (fun _ h => h.1) _ _ _ _ ?_
              have hS3 : (fun w' : World => (w'.cell? ⟨b, off + nx, none⟩ = some (.string s) ∧ Below w6.heap.size w6 w') ∧ w'.heap[w7.heap.size]? = some (Obj.cells z32 5 (0, 0))) (w7.alloc (Obj.cells z32 5)) := ⟨HCB.out _ hbW, heap_alloc_new w7 _⟩
              clear hHeld hHeld2 hHeld3
              refine wpAnyH_take (i := 16) (oi := ?o17) (v := ?v17) ?h17 ?a17 ?b17 ?c17 ?q17 (Or.inl ⟨?g17, ?y17⟩) ?s17 ?r17
              case h17 => (simp only [List.getElem?_toArray, List.getElem?_cons_zero, List.getElem?_cons_succ]; rfl)
              case a17 => kernel_rfl
              case b17 => kernel_rfl
              case c17 => kernel_rfl
              case q17 => exact fun _ _ _ h => h
              case g17 => rfl
              case y17 => (intro wS hSw; have hcv := str_z32 wS _ hSw.2; (try dsimp only at hSw); go_simp; (try with_reducible rfl))
              case s17 => assumption
              (try simp only [Act.put, List.setIfInBounds_toArray, List.set_cons_zero, List.set_cons_succ])
              refine wpAnyH_take (i := 17) (oi := ?o18) (v := ?v18) ?h18 ?a18 ?b18 ?c18 ?q18 (Or.inl ⟨?g18, ?y18⟩) ?s18 ?r18
              case h18 => (simp only [List.getElem?_toArray, List.getElem?_cons_zero, List.getElem?_cons_succ]; rfl)
              case a18 => kernel_rfl
              case b18 => kernel_rfl
              case c18 => kernel_rfl
              case q18 => exact fun _ _ _ h => h
              case g18 => rfl
              case y18 => (intro wS hSw; (try dsimp only at hSw); go_simp; (try with_reducible rfl))
              case s18 => assumption
              (try simp only [Act.put, List.setIfInBounds_toArray, List.set_cons_zero, List.set_cons_succ])
              refine wpAnyH_take (i := 18) (oi := ?o19) (v := ?v19) ?h19 ?a19 ?b19 ?c19 ?q19 (Or.inl ⟨?g19, ?y19⟩) ?s19 ?r19
              case h19 => (simp only [List.getElem?_toArray, List.getElem?_cons_zero, List.getElem?_cons_succ]; rfl)
              case a19 => kernel_rfl
              case b19 => kernel_rfl
              case c19 => kernel_rfl
              case q19 => exact fun _ _ _ h => h
              case g19 => rfl
              case y19 => (intro wS hSw; (try dsimp only at hSw); go_simp; (try with_reducible rfl))
              case s19 => assumption
              (try simp only [Act.put, List.setIfInBounds_toArray, List.set_cons_zero, List.set_cons_succ])
              refine wpAnyH_take (i := 19) (oi := ?o20) (v := ?v20) ?h20 ?a20 ?b20 ?c20 ?q20 (Or.inl ⟨?g20, ?y20⟩) ?s20 ?r20
              case h20 => (simp only [List.getElem?_toArray, List.getElem?_cons_zero, List.getElem?_cons_succ]; rfl)
              case a20 => kernel_rfl
              case b20 => kernel_rfl
              case c20 => kernel_rfl
              case q20 => exact fun _ _ _ h => h
              case g20 => rfl
              case y20 => (intro wS hSw; (try dsimp only at hSw); go_simp; (try with_reducible rfl))
              case s20 => assumption
              (try simp only [Act.put, List.setIfInBounds_toArray, List.set_cons_zero, List.set_cons_succ])
              refine wpAnyH_done (by kernel_rfl) ?_ _
              go_wp2_with fail
              refine (collide_all _ _ X Y _ (HX6.out.below hbW) (HY6.out.below hbW) ((HT.out.below HB6.out).below hbW)).mono ?_
              rintro e w8 ⟨cb, rfl, hcb, hB8⟩
              have HB8 := Lib.hid hB8
              have HCB2 := Lib.hid hcb
              clear hcb hB8
              cases cb with
              | true =>
                go_wp2_with fail
                go_ret
                exact ⟨rfl, HB6.out.trans ((hbW.trans (HB8.out.mono hbW.size)).mono HB6.out.size)⟩
              | false =>
                obtain rfl : zb = true := by
                  rcases HC.out with h | h
                  · exact h
                  · exact absurd (HCB2.out h) (by decide)
                go_wp2_with fail
                go_ret
                exact ⟨rfl, HB6.out.trans ((hbW.trans (HB8.out.mono hbW.size)).mono HB6.out.size)⟩
          case m15 =>
            refine AllReadyH.cons (o := ?o21) ?h21 ?k21 ?m21
            case h21 => (simp only [List.getElem?_toArray, List.getElem?_cons_zero, List.getElem?_cons_succ]; rfl)
            case m21 => exact AllReadyH.nil
            case k21 =>
              intro K hK
              go_simp
              have hbA := HA6.out _ (Obj.cells z32 5) (Below.refl _ w6)
              refine hK.out _ _ (HCB.out _ hbA.drew) (fun hHeld2 => ?_)
              clear hK K
              (try simp only [Act.put, List.setIfInBounds_toArray, List.set_cons_zero, List.set_cons_succ])
              refine wpAnyH_weaken (S' := fun w' => (w'.cell? ⟨b, off + nx, none⟩ = some (.string s) ∧ Below w6.heap.size w6 w') ∧ w'.heap[w6.heap.size]? = some (Obj.cells z32 5 (0, 0))) (fun _ h => h.1) _ _ _ _ ?_
              have hS3 : (fun w' : World => (w'.cell? ⟨b, off + nx, none⟩ = some (.string s) ∧ Below w6.heap.size w6 w') ∧ w'.heap[w6.heap.size]? = some (Obj.cells z32 5 (0, 0))) ((w6.alloc (Obj.cells z32 5)).drew) := ⟨HCB.out _ hbA.drew, heap_alloc_new w6 _⟩
              clear hHeld hHeld2
              refine wpAnyH_take (i := 16) (oi := ?o22) (v := ?v22) ?h22 ?a22 ?b22 ?c22 ?q22 (Or.inl ⟨?g22, ?y22⟩) ?s22 ?r22
              case h22 => (simp only [List.getElem?_toArray, List.getElem?_cons_zero, List.getElem?_cons_succ]; rfl)
              case a22 => kernel_rfl
              case b22 => kernel_rfl
              case c22 => kernel_rfl
              case q22 => exact fun _ _ _ h => h
              case g22 => rfl
              case y22 => (intro wS hSw; have hcv := str_z32 wS _ hSw.2; (try dsimp only at hSw); go_simp; (try with_reducible rfl))
              case s22 => assumption
              (try simp only [Act.put, List.setIfInBounds_toArray, List.set_cons_zero, List.set_cons_succ])
              refine wpAnyH_ready (rs := [14]) (by kernel_rfl) (by simp) ?_
              refine AllReadyH.cons (o := ?o23) ?h23 ?k23 ?m23
              case h23 => (simp only [List.getElem?_toArray, List.getElem?_cons_zero, List.getElem?_cons_succ]; rfl)
              case m23 => exact AllReadyH.nil
              case k23 =>
                intro K hK
                go_simp
                go_at_call 12
                refine (HSUM.out _ ?_).mono ?_
                · (repeat (first | assumption | exact Below.refl _ _ | (with_reducible refine Below.drew ?_) | (with_reducible refine HA6.out _ _ ?_)))
                rintro e w7 ⟨rfl, hc7, hb7, hk7⟩
                go_wp2_with fail
                have hbW := hb7
                refine hK.out _ _ ⟨⟨hc7, hb7⟩, hk7 _ hS3.2⟩ (fun hHeld4 => ?_)
                clear hK K hS3
                (try simp only [Act.put, List.setIfInBounds_toArray, List.set_cons_zero, List.set_cons_succ])
                refine wpAnyH_take (i := 17) (oi := ?o24) (v := ?v24) ?h24 ?a24 ?b24 ?c24 ?q24 (Or.inl ⟨?g24, ?y24⟩) ?s24 ?r24
                case h24 => (simp only [List.getElem?_toArray, List.getElem?_cons_zero, List.getElem?_cons_succ]; rfl)
                case a24 => kernel_rfl
                case b24 => kernel_rfl
                case c24 => kernel_rfl
                case q24 => exact fun _ _ _ h => h
                case g24 => rfl
                case y24 => (intro wS hSw; (try dsimp only at hSw); go_simp; (try with_reducible rfl))
                case s24 => assumption
                (try simp only [Act.put, List.setIfInBounds_toArray, List.set_cons_zero, List.set_cons_succ])
                refine wpAnyH_take (i := 18) (oi := ?o25) (v := ?v25) ?h25 ?a25 ?b25 ?c25 ?q25 (Or.inl ⟨?g25, ?y25⟩) ?s25 ?r25
                case h25 => (simp only [List.getElem?_toArray, List.getElem?_cons_zero, List.getElem?_cons_succ]; rfl)
                case a25 => kernel_rfl
                case b25 => kernel_rfl
                case c25 => kernel_rfl
                case q25 => exact fun _ _ _ h => h
                case g25 => rfl
                case y25 => (intro wS hSw; (try dsimp only at hSw); go_simp; (try with_reducible rfl))
                case s25 => assumption
                (try simp only [Act.put, List.setIfInBounds_toArray, List.set_cons_zero, List.set_cons_succ])
                refine wpAnyH_take (i := 19) (oi := ?o26) (v := ?v26) ?h26 ?a26 ?b26 ?c26 ?q26 (Or.inl ⟨?g26, ?y26⟩) ?s26 ?r26
                case h26 => (simp only [List.getElem?_toArray, List.getElem?_cons_zero, List.getElem?_cons_succ]; rfl)
                case a26 => kernel_rfl
                case b26 => kernel_rfl
                case c26 => kernel_rfl
                case q26 => exact fun _ _ _ h => h
                case g26 => rfl
                case y26 => (intro wS hSw; (try dsimp only at hSw); go_simp; (try with_reducible rfl))
                case s26 => assumption
                (try simp only [Act.put, List.setIfInBounds_toArray, List.set_cons_zero, List.set_cons_succ])
                refine wpAnyH_done (by kernel_rfl) ?_ _
                go_wp2_with fail
                refine (collide_all _ _ X Y _ (HX6.out.below hbW) (HY6.out.below hbW) ((HT.out.below HB6.out).below hbW)).mono ?_
                rintro e w8 ⟨cb, rfl, hcb, hB8⟩
                have HB8 := Lib.hid hB8
                have HCB2 := Lib.hid hcb
                clear hcb hB8
                cases cb with
                | true =>
                  go_wp2_with fail
                  go_ret
                  exact ⟨rfl, HB6.out.trans ((hbW.trans (HB8.out.mono hbW.size)).mono HB6.out.size)⟩
                | false =>
                  obtain rfl : zb = true := by
                    rcases HC.out with h | h
                    · exact h
                    · exact absurd (HCB2.out h) (by decide)
                  go_wp2_with fail
                  go_ret
                  exact ⟨rfl, HB6.out.trans ((hbW.trans (HB8.out.mono hbW.size)).mono HB6.out.size)⟩
        · obtain ⟨b, off, hya, hcell⟩ := HX6.out.at (i := ny) (by first | exact HNX.out | rfl) (by rw [← HNX.out]; omega)
          subst hya
          have HCELL := Lib.hid hcell
          obtain ⟨s, hs⟩ : ∃ s, s = X.getD ny ByteArray.empty := ⟨_, rfl⟩
          have hss : s.size ≤ 1000 := by rw [hs]; exact HX6.out.1.get _
          have HZZ : Hid (¬ Dt.Coll shaB X Y → shaB s = Dt.zeros) := Lib.hid (fun hno => by
            rcases HCASE.out with h | h
            · exact absurd h hno
            · have h2 := h.2
              unfold Dt.longer at h2
              rw [if_neg (by rw [← HNX.out, ← HNY.out]; omega), show min X.length Y.length = ny by rw [← HNX.out, ← HNY.out]; omega, ← hs] at h2
              exact h2)
          rw [← hs] at HCELL
          obtain ⟨d, hd⟩ : ∃ d, d = shaB s := ⟨_, rfl⟩
          have HSUM : Hid (∀ W, Below w6.heap.size w6 W → Calls Tryd.prog 12 #[.string s] W fun e w' => e = .returned (.string d) ∧ w'.cell? ⟨b, off + ny, none⟩ = some (.string s) ∧ Below w6.heap.size w6 w' ∧ (∀ g, W.heap[g]? = some (Obj.cells z32 5 (0, 0)) → w'.heap[g]? = some (Obj.cells z32 5 (0, 0)))) := Lib.hid (fun W hW => by
            rw [hd]
            exact (Sum_any s W ((HT.out.below HB6.out).below hW) (by omega)).mono fun e w' h => ⟨h.1, HCELL.out _ (hW.trans (h.2.mono hW.size)), hW.trans (h.2.mono hW.size), fun g hg => (h.2.block g (Array.getElem?_eq_some_iff.1 hg).1).trans hg⟩)
          rw [← hd] at HZZ
          have HCB : Hid (∀ W, Below w6.heap.size w6 W → W.cell? ⟨b, off + ny, none⟩ = some (.string s) ∧ Below w6.heap.size w6 W) := Lib.hid (fun W hW => ⟨HCELL.out W hW, hW⟩)
          have HA6 : Hid (∀ W o, Below w6.heap.size w6 W → Below w6.heap.size w6 (W.alloc o)) := Lib.hid (fun W o h => h.alloc h.size o)
          have hmin : ∀ (ts : Array TypeId) (t : TypeId) (W : World), (Builtin.min_ ts t #[.int .i64 (nx : Int), .int .i64 (ny : Int)]).run Tryd.prog W = .ok (.int .i64 (ny : Int)) W := by
            intro ts t W
            rw [run_min2]
            congr 2
            split <;> omega
          have l1 : ((nx : Int) == (ny : Int)) = false := by simp; omega
          have l1' : ((nx : Int) != (ny : Int)) = true := by simp; omega
          have l2 : ¬ (nx : Int) < (ny : Int) := by omega
          have l3 : ¬ (nx : Int) = (ny : Int) := by omega
          have l4 : (ny : Int) < (nx : Int) := by omega
          have l5 : 0 ≤ (ny : Int) := by omega
          have hmk := make_z32
          have hcv1 := fun (W0 : World) => str_z32 (W0.alloc (.cells z32 5)) W0.heap.size (heap_alloc_new W0 _)
          clear hcell hs hd hlen hlt
          obtain ⟨zb, hzb⟩ : ∃ z, z = decide (d = Dt.zeros) := ⟨_, rfl⟩
          have tz : (d.toList == Dt.zeros.toList) = zb := by rw [str_beq, hzb]
          have HC : Hid (zb = true ∨ Dt.Coll shaB X Y) := Lib.hid (by
            by_cases hno : Dt.Coll shaB X Y
            · exact .inr hno
            · exact .inl (by rw [hzb]; simpa using HZZ.out hno))
          clear HZZ hzb
          have hc6 := (HCB.out _ (Below.refl _ w6)).1
          have hne6 := World.new_ne _ _ hc6
          go_wp2_with fail
          refine wp_region_held_drew (S := fun w' => w'.cell? ⟨b, off + ny, none⟩ = some (.string s) ∧ Below w6.heap.size w6 w') (by kernel_rfl) (HCB.out _ (Below.refl _ w6).drew) (fun hHeld => ?_)
          refine wpAnyH_take (i := 0) (oi := ?o27) (v := ?v27) ?h27 ?a27 ?b27 ?c27 ?q27 (Or.inl ⟨?g27, ?y27⟩) ?s27 ?r27
          case h27 => (simp only [List.getElem?_toArray, List.getElem?_cons_zero]; rfl)
          case a27 => kernel_rfl
          case b27 => kernel_rfl
          case c27 => kernel_rfl
          case q27 => exact fun _ _ _ h => h
          case g27 => rfl
          case y27 => (intro wS hSw; (try dsimp only at hSw); go_simp; (try with_reducible rfl))
          case s27 => assumption
          (try simp only [Act.put, List.setIfInBounds_toArray, List.set_cons_zero, List.set_cons_succ])
          refine wpAnyH_take (i := 1) (oi := ?o28) (v := ?v28) ?h28 ?a28 ?b28 ?c28 ?q28 (Or.inl ⟨?g28, ?y28⟩) ?s28 ?r28
          case h28 => (simp only [List.getElem?_toArray, List.getElem?_cons_zero, List.getElem?_cons_succ]; rfl)
          case a28 => kernel_rfl
          case b28 => kernel_rfl
          case c28 => kernel_rfl
          case q28 => exact fun _ _ _ h => h
          case g28 => rfl
          case y28 => (intro wS hSw; (try dsimp only at hSw); go_simp; (try with_reducible rfl))
          case s28 => assumption
          (try simp only [Act.put, List.setIfInBounds_toArray, List.set_cons_zero, List.set_cons_succ])
          refine wpAnyH_take (i := 2) (oi := ?o29) (v := ?v29) ?h29 ?a29 ?b29 ?c29 ?q29 (Or.inl ⟨?g29, ?y29⟩) ?s29 ?r29
          case h29 => (simp only [List.getElem?_toArray, List.getElem?_cons_zero, List.getElem?_cons_succ]; rfl)
          case a29 => kernel_rfl
          case b29 => kernel_rfl
          case c29 => kernel_rfl
          case q29 => exact fun _ _ _ h => h
          case g29 => rfl
          case y29 => (intro wS hSw; (try dsimp only at hSw); go_simp; (try with_reducible rfl))
          case s29 => assumption
          (try simp only [Act.put, List.setIfInBounds_toArray, List.set_cons_zero, List.set_cons_succ])
          refine wpAnyH_take (i := 3) (oi := ?o30) (v := ?v30) ?h30 ?a30 ?b30 ?c30 ?q30 (Or.inl ⟨?g30, ?y30⟩) ?s30 ?r30
          case h30 => (simp only [List.getElem?_toArray, List.getElem?_cons_zero, List.getElem?_cons_succ]; rfl)
          case a30 => kernel_rfl
          case b30 => kernel_rfl
          case c30 => kernel_rfl
          case q30 => exact fun _ _ _ h => h
          case g30 => rfl
          case y30 => (intro wS hSw; (try dsimp only at hSw); go_simp; (try with_reducible rfl))
          case s30 => assumption
          (try simp only [Act.put, List.setIfInBounds_toArray, List.set_cons_zero, List.set_cons_succ])
          refine wpAnyH_take (i := 4) (oi := ?o31) (v := ?v31) ?h31 ?a31 ?b31 ?c31 ?q31 (Or.inl ⟨?g31, ?y31⟩) ?s31 ?r31
          case h31 => (simp only [List.getElem?_toArray, List.getElem?_cons_zero, List.getElem?_cons_succ]; rfl)
          case a31 => kernel_rfl
          case b31 => kernel_rfl
          case c31 => kernel_rfl
          case q31 => exact fun _ _ _ h => h
          case g31 => rfl
          case y31 => (intro wS hSw; (try dsimp only at hSw); go_simp; (try with_reducible rfl))
          case s31 => assumption
          (try simp only [Act.put, List.setIfInBounds_toArray, List.set_cons_zero, List.set_cons_succ])
          refine wpAnyH_take (i := 5) (oi := ?o32) (v := ?v32) ?h32 ?a32 ?b32 ?c32 ?q32 (Or.inl ⟨?g32, ?y32⟩) ?s32 ?r32
          case h32 => (simp only [List.getElem?_toArray, List.getElem?_cons_zero, List.getElem?_cons_succ]; rfl)
          case a32 => kernel_rfl
          case b32 => kernel_rfl
          case c32 => kernel_rfl
          case q32 => exact fun _ _ _ h => h
          case g32 => rfl
          case y32 => (intro wS hSw; (try dsimp only at hSw); go_simp; (try with_reducible rfl))
          case s32 => assumption
          (try simp only [Act.put, List.setIfInBounds_toArray, List.set_cons_zero, List.set_cons_succ])
          refine wpAnyH_take (i := 6) (oi := ?o33) (v := ?v33) ?h33 ?a33 ?b33 ?c33 ?q33 (Or.inl ⟨?g33, ?y33⟩) ?s33 ?r33
          case h33 => (simp only [List.getElem?_toArray, List.getElem?_cons_zero, List.getElem?_cons_succ]; rfl)
          case a33 => kernel_rfl
          case b33 => kernel_rfl
          case c33 => kernel_rfl
          case q33 => exact fun _ _ _ h => h
          case g33 => rfl
          case y33 => (intro wS hSw; (try dsimp only at hSw); go_simp; (try with_reducible rfl))
          case s33 => assumption
          (try simp only [Act.put, List.setIfInBounds_toArray, List.set_cons_zero, List.set_cons_succ])
          refine wpAnyH_take (i := 7) (oi := ?o34) (v := ?v34) ?h34 ?a34 ?b34 ?c34 ?q34 (Or.inl ⟨?g34, ?y34⟩) ?s34 ?r34
          case h34 => (simp only [List.getElem?_toArray, List.getElem?_cons_zero, List.getElem?_cons_succ]; rfl)
          case a34 => kernel_rfl
          case b34 => kernel_rfl
          case c34 => kernel_rfl
          case q34 => exact fun _ _ _ h => h
          case g34 => rfl
          case y34 => (intro wS hSw; (try dsimp only at hSw); go_simp; (try with_reducible rfl))
          case s34 => assumption
          (try simp only [Act.put, List.setIfInBounds_toArray, List.set_cons_zero, List.set_cons_succ])
          refine wpAnyH_take (i := 8) (oi := ?o35) (v := ?v35) ?h35 ?a35 ?b35 ?c35 ?q35 (Or.inl ⟨?g35, ?y35⟩) ?s35 ?r35
          case h35 => (simp only [List.getElem?_toArray, List.getElem?_cons_zero, List.getElem?_cons_succ]; rfl)
          case a35 => kernel_rfl
          case b35 => kernel_rfl
          case c35 => kernel_rfl
          case q35 => exact fun _ _ _ h => h
          case g35 => rfl
          case y35 => (intro wS hSw; (try dsimp only at hSw); go_simp; (try with_reducible rfl))
          case s35 => assumption
          (try simp only [Act.put, List.setIfInBounds_toArray, List.set_cons_zero, List.set_cons_succ])
          refine wpAnyH_take (i := 9) (oi := ?o36) (v := ?v36) ?h36 ?a36 ?b36 ?c36 ?q36 (Or.inl ⟨?g36, ?y36⟩) ?s36 ?r36
          case h36 => (simp only [List.getElem?_toArray, List.getElem?_cons_zero, List.getElem?_cons_succ]; rfl)
          case a36 => kernel_rfl
          case b36 => kernel_rfl
          case c36 => kernel_rfl
          case q36 => exact fun _ _ _ h => h
          case g36 => rfl
          case y36 => (intro wS hSw; (try dsimp only at hSw); go_simp; (try with_reducible rfl))
          case s36 => assumption
          (try simp only [Act.put, List.setIfInBounds_toArray, List.set_cons_zero, List.set_cons_succ])
          refine wpAnyH_take (i := 10) (oi := ?o37) (v := ?v37) ?h37 ?a37 ?b37 ?c37 ?q37 (Or.inl ⟨?g37, ?y37⟩) ?s37 ?r37
          case h37 => (simp only [List.getElem?_toArray, List.getElem?_cons_zero, List.getElem?_cons_succ]; rfl)
          case a37 => kernel_rfl
          case b37 => kernel_rfl
          case c37 => kernel_rfl
          case q37 => exact fun _ _ _ h => h
          case g37 => rfl
          case y37 => (intro wS hSw; (try dsimp only at hSw); go_simp; (try with_reducible rfl))
          case s37 => assumption
          (try simp only [Act.put, List.setIfInBounds_toArray, List.set_cons_zero, List.set_cons_succ])
          refine wpAnyH_take (i := 11) (oi := ?o38) (v := ?v38) ?h38 ?a38 ?b38 ?c38 ?q38 (Or.inl ⟨?g38, ?y38⟩) ?s38 ?r38
          case h38 => (simp only [List.getElem?_toArray, List.getElem?_cons_zero, List.getElem?_cons_succ]; rfl)
          case a38 => kernel_rfl
          case b38 => kernel_rfl
          case c38 => kernel_rfl
          case q38 => exact fun _ _ _ h => h
          case g38 => rfl
          case y38 => (intro wS hSw; (try dsimp only at hSw); go_simp; (try with_reducible rfl))
          case s38 => assumption
          (try simp only [Act.put, List.setIfInBounds_toArray, List.set_cons_zero, List.set_cons_succ])
          refine wpAnyH_take (i := 12) (oi := ?o39) (v := ?v39) ?h39 ?a39 ?b39 ?c39 ?q39 (Or.inl ⟨?g39, ?y39⟩) ?s39 ?r39
          case h39 => (simp only [List.getElem?_toArray, List.getElem?_cons_zero, List.getElem?_cons_succ]; rfl)
          case a39 => kernel_rfl
          case b39 => kernel_rfl
          case c39 => kernel_rfl
          case q39 => exact fun _ _ _ h => h
          case g39 => rfl
          case y39 => (intro wS hSw; (try dsimp only at hSw); go_simp; (try with_reducible rfl))
          case s39 => assumption
          (try simp only [Act.put, List.setIfInBounds_toArray, List.set_cons_zero, List.set_cons_succ])
          refine wpAnyH_take (i := 13) (oi := ?o40) (v := ?v40) ?h40 ?a40 ?b40 ?c40 ?q40 (Or.inl ⟨?g40, ?y40⟩) ?s40 ?r40
          case h40 => (simp only [List.getElem?_toArray, List.getElem?_cons_zero, List.getElem?_cons_succ]; rfl)
          case a40 => kernel_rfl
          case b40 => kernel_rfl
          case c40 => kernel_rfl
          case q40 => exact fun _ _ _ h => h
          case g40 => rfl
          case y40 => (intro wS hSw; (try dsimp only at hSw); go_simp; (try with_reducible rfl))
          case s40 => assumption
          (try simp only [Act.put, List.setIfInBounds_toArray, List.set_cons_zero, List.set_cons_succ])
          refine wpAnyH_ready (rs := [14, 15]) (by kernel_rfl) (by simp) ?_
          refine AllReadyH.cons (o := ?o41) ?h41 ?k41 ?m41
          case h41 => (simp only [List.getElem?_toArray, List.getElem?_cons_zero, List.getElem?_cons_succ]; rfl)
          case k41 =>
            intro K hK
            go_simp
            go_at_call 12
            refine (HSUM.out _ ?_).mono ?_
            · (repeat (first | assumption | exact Below.refl _ _ | (with_reducible refine Below.drew ?_) | (with_reducible refine HA6.out _ _ ?_)))
            rintro e w7 ⟨rfl, hc7, hb7, hk7⟩
            go_wp2_with fail
            refine hK.out _ _ ⟨hc7, hb7⟩ (fun hHeld2 => ?_)
            clear hK K
            (try simp only [Act.put, List.setIfInBounds_toArray, List.set_cons_zero, List.set_cons_succ])
            refine wpAnyH_ready (rs := [15]) (by kernel_rfl) (by simp) ?_
            refine AllReadyH.cons (o := ?o42) ?h42 ?k42 ?m42
            case h42 => (simp only [List.getElem?_toArray, List.getElem?_cons_zero, List.getElem?_cons_succ]; rfl)
            case m42 => exact AllReadyH.nil
            case k42 =>
              intro K hK
              go_simp
              have hbW := HA6.out _ (Obj.cells z32 5) hb7
              refine hK.out _ _ (HCB.out _ hbW) (fun hHeld3 => ?_)
              clear hK K
              (try simp only [Act.put, List.setIfInBounds_toArray, List.set_cons_zero, List.set_cons_succ])
              refine wpAnyH_weaken (S' := fun w' => (w'.cell? ⟨b, off + ny, none⟩ = some (.string s) ∧ Below w6.heap.size w6 w') ∧ w'.heap[w7.heap.size]? = some (Obj.cells z32 5 (0, 0))) (fun _ h => h.1) _ _ _ _ ?_
              have hS3 : (fun w' : World => (w'.cell? ⟨b, off + ny, none⟩ = some (.string s) ∧ Below w6.heap.size w6 w') ∧ w'.heap[w7.heap.size]? = some (Obj.cells z32 5 (0, 0))) (w7.alloc (Obj.cells z32 5)) := ⟨HCB.out _ hbW, heap_alloc_new w7 _⟩
              clear hHeld hHeld2 hHeld3
              refine wpAnyH_take (i := 16) (oi := ?o43) (v := ?v43) ?h43 ?a43 ?b43 ?c43 ?q43 (Or.inl ⟨?g43, ?y43⟩) ?s43 ?r43
              case h43 => (simp only [List.getElem?_toArray, List.getElem?_cons_zero, List.getElem?_cons_succ]; rfl)
              case a43 => kernel_rfl
              case b43 => kernel_rfl
              case c43 => kernel_rfl
              case q43 => exact fun _ _ _ h => h
              case g43 => rfl
              case y43 => (intro wS hSw; have hcv := str_z32 wS _ hSw.2; (try dsimp only at hSw); go_simp; (try with_reducible rfl))
              case s43 => assumption
              (try simp only [Act.put, List.setIfInBounds_toArray, List.set_cons_zero, List.set_cons_succ])
              refine wpAnyH_take (i := 17) (oi := ?o44) (v := ?v44) ?h44 ?a44 ?b44 ?c44 ?q44 (Or.inl ⟨?g44, ?y44⟩) ?s44 ?r44
              case h44 => (simp only [List.getElem?_toArray, List.getElem?_cons_zero, List.getElem?_cons_succ]; rfl)
              case a44 => kernel_rfl
              case b44 => kernel_rfl
              case c44 => kernel_rfl
              case q44 => exact fun _ _ _ h => h
              case g44 => rfl
              case y44 => (intro wS hSw; (try dsimp only at hSw); go_simp; (try with_reducible rfl))
              case s44 => assumption
              (try simp only [Act.put, List.setIfInBounds_toArray, List.set_cons_zero, List.set_cons_succ])
              refine wpAnyH_take (i := 18) (oi := ?o45) (v := ?v45) ?h45 ?a45 ?b45 ?c45 ?q45 (Or.inl ⟨?g45, ?y45⟩) ?s45 ?r45
              case h45 => (simp only [List.getElem?_toArray, List.getElem?_cons_zero, List.getElem?_cons_succ]; rfl)
              case a45 => kernel_rfl
              case b45 => kernel_rfl
              case c45 => kernel_rfl
              case q45 => exact fun _ _ _ h => h
              case g45 => rfl
              case y45 => (intro wS hSw; (try dsimp only at hSw); go_simp; (try with_reducible rfl))
              case s45 => assumption
              (try simp only [Act.put, List.setIfInBounds_toArray, List.set_cons_zero, List.set_cons_succ])
              refine wpAnyH_take (i := 19) (oi := ?o46) (v := ?v46) ?h46 ?a46 ?b46 ?c46 ?q46 (Or.inl ⟨?g46, ?y46⟩) ?s46 ?r46
              case h46 => (simp only [List.getElem?_toArray, List.getElem?_cons_zero, List.getElem?_cons_succ]; rfl)
              case a46 => kernel_rfl
              case b46 => kernel_rfl
              case c46 => kernel_rfl
              case q46 => exact fun _ _ _ h => h
              case g46 => rfl
              case y46 => (intro wS hSw; (try dsimp only at hSw); go_simp; (try with_reducible rfl))
              case s46 => assumption
              (try simp only [Act.put, List.setIfInBounds_toArray, List.set_cons_zero, List.set_cons_succ])
              refine wpAnyH_done (by kernel_rfl) ?_ _
              go_wp2_with fail
              refine (collide_all _ _ X Y _ (HX6.out.below hbW) (HY6.out.below hbW) ((HT.out.below HB6.out).below hbW)).mono ?_
              rintro e w8 ⟨cb, rfl, hcb, hB8⟩
              have HB8 := Lib.hid hB8
              have HCB2 := Lib.hid hcb
              clear hcb hB8
              cases cb with
              | true =>
                go_wp2_with fail
                go_ret
                exact ⟨rfl, HB6.out.trans ((hbW.trans (HB8.out.mono hbW.size)).mono HB6.out.size)⟩
              | false =>
                obtain rfl : zb = true := by
                  rcases HC.out with h | h
                  · exact h
                  · exact absurd (HCB2.out h) (by decide)
                go_wp2_with fail
                go_ret
                exact ⟨rfl, HB6.out.trans ((hbW.trans (HB8.out.mono hbW.size)).mono HB6.out.size)⟩
          case m41 =>
            refine AllReadyH.cons (o := ?o47) ?h47 ?k47 ?m47
            case h47 => (simp only [List.getElem?_toArray, List.getElem?_cons_zero, List.getElem?_cons_succ]; rfl)
            case m47 => exact AllReadyH.nil
            case k47 =>
              intro K hK
              go_simp
              have hbA := HA6.out _ (Obj.cells z32 5) (Below.refl _ w6)
              refine hK.out _ _ (HCB.out _ hbA.drew) (fun hHeld2 => ?_)
              clear hK K
              (try simp only [Act.put, List.setIfInBounds_toArray, List.set_cons_zero, List.set_cons_succ])
              refine wpAnyH_weaken (S' := fun w' => (w'.cell? ⟨b, off + ny, none⟩ = some (.string s) ∧ Below w6.heap.size w6 w') ∧ w'.heap[w6.heap.size]? = some (Obj.cells z32 5 (0, 0))) (fun _ h => h.1) _ _ _ _ ?_
              have hS3 : (fun w' : World => (w'.cell? ⟨b, off + ny, none⟩ = some (.string s) ∧ Below w6.heap.size w6 w') ∧ w'.heap[w6.heap.size]? = some (Obj.cells z32 5 (0, 0))) ((w6.alloc (Obj.cells z32 5)).drew) := ⟨HCB.out _ hbA.drew, heap_alloc_new w6 _⟩
              clear hHeld hHeld2
              refine wpAnyH_take (i := 16) (oi := ?o48) (v := ?v48) ?h48 ?a48 ?b48 ?c48 ?q48 (Or.inl ⟨?g48, ?y48⟩) ?s48 ?r48
              case h48 => (simp only [List.getElem?_toArray, List.getElem?_cons_zero, List.getElem?_cons_succ]; rfl)
              case a48 => kernel_rfl
              case b48 => kernel_rfl
              case c48 => kernel_rfl
              case q48 => exact fun _ _ _ h => h
              case g48 => rfl
              case y48 => (intro wS hSw; have hcv := str_z32 wS _ hSw.2; (try dsimp only at hSw); go_simp; (try with_reducible rfl))
              case s48 => assumption
              (try simp only [Act.put, List.setIfInBounds_toArray, List.set_cons_zero, List.set_cons_succ])
              refine wpAnyH_ready (rs := [14]) (by kernel_rfl) (by simp) ?_
              refine AllReadyH.cons (o := ?o49) ?h49 ?k49 ?m49
              case h49 => (simp only [List.getElem?_toArray, List.getElem?_cons_zero, List.getElem?_cons_succ]; rfl)
              case m49 => exact AllReadyH.nil
              case k49 =>
                intro K hK
                go_simp
                go_at_call 12
                refine (HSUM.out _ ?_).mono ?_
                · (repeat (first | assumption | exact Below.refl _ _ | (with_reducible refine Below.drew ?_) | (with_reducible refine HA6.out _ _ ?_)))
                rintro e w7 ⟨rfl, hc7, hb7, hk7⟩
                go_wp2_with fail
                have hbW := hb7
                refine hK.out _ _ ⟨⟨hc7, hb7⟩, hk7 _ hS3.2⟩ (fun hHeld4 => ?_)
                clear hK K hS3
                (try simp only [Act.put, List.setIfInBounds_toArray, List.set_cons_zero, List.set_cons_succ])
                refine wpAnyH_take (i := 17) (oi := ?o50) (v := ?v50) ?h50 ?a50 ?b50 ?c50 ?q50 (Or.inl ⟨?g50, ?y50⟩) ?s50 ?r50
                case h50 => (simp only [List.getElem?_toArray, List.getElem?_cons_zero, List.getElem?_cons_succ]; rfl)
                case a50 => kernel_rfl
                case b50 => kernel_rfl
                case c50 => kernel_rfl
                case q50 => exact fun _ _ _ h => h
                case g50 => rfl
                case y50 => (intro wS hSw; (try dsimp only at hSw); go_simp; (try with_reducible rfl))
                case s50 => assumption
                (try simp only [Act.put, List.setIfInBounds_toArray, List.set_cons_zero, List.set_cons_succ])
                refine wpAnyH_take (i := 18) (oi := ?o51) (v := ?v51) ?h51 ?a51 ?b51 ?c51 ?q51 (Or.inl ⟨?g51, ?y51⟩) ?s51 ?r51
                case h51 => (simp only [List.getElem?_toArray, List.getElem?_cons_zero, List.getElem?_cons_succ]; rfl)
                case a51 => kernel_rfl
                case b51 => kernel_rfl
                case c51 => kernel_rfl
                case q51 => exact fun _ _ _ h => h
                case g51 => rfl
                case y51 => (intro wS hSw; (try dsimp only at hSw); go_simp; (try with_reducible rfl))
                case s51 => assumption
                (try simp only [Act.put, List.setIfInBounds_toArray, List.set_cons_zero, List.set_cons_succ])
                refine wpAnyH_take (i := 19) (oi := ?o52) (v := ?v52) ?h52 ?a52 ?b52 ?c52 ?q52 (Or.inl ⟨?g52, ?y52⟩) ?s52 ?r52
                case h52 => (simp only [List.getElem?_toArray, List.getElem?_cons_zero, List.getElem?_cons_succ]; rfl)
                case a52 => kernel_rfl
                case b52 => kernel_rfl
                case c52 => kernel_rfl
                case q52 => exact fun _ _ _ h => h
                case g52 => rfl
                case y52 => (intro wS hSw; (try dsimp only at hSw); go_simp; (try with_reducible rfl))
                case s52 => assumption
                (try simp only [Act.put, List.setIfInBounds_toArray, List.set_cons_zero, List.set_cons_succ])
                refine wpAnyH_done (by kernel_rfl) ?_ _
                go_wp2_with fail
                refine (collide_all _ _ X Y _ (HX6.out.below hbW) (HY6.out.below hbW) ((HT.out.below HB6.out).below hbW)).mono ?_
                rintro e w8 ⟨cb, rfl, hcb, hB8⟩
                have HB8 := Lib.hid hB8
                have HCB2 := Lib.hid hcb
                clear hcb hB8
                cases cb with
                | true =>
                  go_wp2_with fail
                  go_ret
                  exact ⟨rfl, HB6.out.trans ((hbW.trans (HB8.out.mono hbW.size)).mono HB6.out.size)⟩
                | false =>
                  obtain rfl : zb = true := by
                    rcases HC.out with h | h
                    · exact h
                    · exact absurd (HCB2.out h) (by decide)
                  go_wp2_with fail
                  go_ret
                  exact ⟨rfl, HB6.out.trans ((hbW.trans (HB8.out.mono hbW.size)).mono HB6.out.size)⟩
    · have t1 : (h.toList == k.toList) = false := by rw [str_beq]; simpa using hhk
      clear hhk hpq
      go_wp2_with fail
      go_ret
      exact ⟨rfl, HB6.out⟩
end Go.Proofs.YtlnlhjkdbpkaiaaDoor
