/- The law's tables: those that integers determine, or the chapter's; one of its formats. Conditions: rows of four numbers that can be read; an int. What the calls of a law come to, said for use: one outcome for both ways. Conditions: the table lies in memory, its numbers are ints; the variables of the errors are laid. What each proof of this seat needs around its walk: the variables as the row lists them, slices that came in, a start that fits, and the step from a world that has kept what lay below to the row's own words. No condition of its own. (Written by gen_frame.py; the lemma post_of_below is one that the guide gives for copying.) Slices of numbers that came in. No condition of its own. The law's examples: sane returns true. Conditions: the variables of the errors are laid. -/
import Derived.Test.YtdndmhlmbpgdeaaGreatDoorPb01
import Derived.Test.YtdndmhlmbpgdeaaGreatDoorPb17
import Derived.Test.YtdndmhlmbpgdeaaGreatDoorPb19
import Derived.Test.YtdndmhlmbpgdeaaGreatDoorPb15
import Derived.Test.YtdndmhlmbpgdeaaGreatDoorPb14
import Derived.Test.YtdndmhlmbpgdeaaGreatDoorCards
import Derived.Test.YtdndmhlmbpgdeaaGreatDoorTie
import Derived.WalkKit
import Derived.ProofKit
import Derived.OpenShut
import Derived.Below
import Derived.ChangeSame
import Derived.Deep.DeepHandedRow
import Derived.Lib.LaidTab
import Derived.LaidSub
import Derived.Stop.LaidErr
import Derived.LaidHandle
import Derived.SliceStrings
import Derived.WideKeyArgs
import Derived.DataReads
import Derived.ChangeArms
namespace Go.Proofs.YtdndmhlmbpgdeaaGreatDoor
section FormA
open Go.RowKit Fx Rec

set_option maxRecDepth 20000 in
theorem fpick_any (c n r : Int) (w : World) (c1 : -9223372036854775808 ≤ c) (c2 : c ≤ 9223372036854775807) (n1 : 1 ≤ n) (n2 : n ≤ 9223372036854775807) (hr : pickI c n = r) :
    Calls Tryz.prog 18 #[.int .i64 c, .int .i64 n] w fun e w' => e = .returned (.int .i64 r) ∧ w' = w := by
  subst hr
  unfold pickI
  by_cases h : c < 0
  · rw [if_pos h]
    have e1 : (-(c + 1)).tmod n = (-(c + 1)) % n := Int.tmod_eq_emod_of_nonneg (by omega)
    go_enter Tryz.func18, Tryz.ntmps18
    go_wp2_with fail
    go_ret
    exact ⟨rfl, rfl⟩
  · rw [if_neg h]
    have e1 : c.tmod n = c % n := Int.tmod_eq_emod_of_nonneg (by omega)
    go_enter Tryz.func18, Tryz.ntmps18
    go_wp2_with fail
    go_ret
    exact ⟨rfl, rfl⟩
theorem Mk.nice {L : List Fm} (h : Mk L) : Nice L := ⟨h.ok, h.few, h.fs, fun j hj k hk => (h.each j hj k hk).n, h.ints⟩
theorem nice_tab0 : Nice tab0 := by
  refine ⟨vd_iff.1 (by decide), by decide, fun j hj => ?_, fun j hj k hk h3 => ?_, ints_tab0⟩
  · have h2 : j < 2 := hj
    obtain rfl | rfl : j = 0 ∨ j = 1 := by omega
    all_goals decide
  · have h2 : j < 2 := hj
    obtain rfl | rfl : j = 0 ∨ j = 1 := by omega
    · have h4 : k < 3 := hk
      obtain rfl | rfl | rfl : k = 0 ∨ k = 1 ∨ k = 2 := by omega
      all_goals exact ⟨by decide, by decide⟩
    · have h4 : k < 3 := hk
      obtain rfl | rfl | rfl : k = 0 ∨ k = 1 ∨ k = 2 := by omega
      all_goals exact ⟨by decide, by decide⟩
/-- The law's table and one of its formats. -/
structure Formed (w w' : World) (v : Value) (L : List Fm) (id : Int) (i : Nat) : Prop where
  b : Below w.heap.size w w'
  nice : Nice L
  tab : TabW w' v L
  at_ : At L id i
  sl : ∃ b off c, v = .slice (some ⟨b, off, none⟩) L.length c
set_option maxRecDepth 20000 in
set_option maxHeartbeats 4000000 in
theorem formats_any (v : Value) (n : Nat) (a : Int) (w : World) (hQ : QsAt w v n) (a1 : -9223372036854775808 ≤ a) (a2 : a ≤ 9223372036854775807) :
    Calls Tryz.prog 14 #[v, .int .i64 a] w fun e w' => ∃ u L id i, e = .returned (.tuple #[u, .int .i64 id]) ∧ Formed w w' u L id i := by
  have HQ := Lib.hid (And.intro hQ (And.intro a1 a2))
  obtain ⟨va, vc, rfl, -⟩ := hQ.slice_
  clear hQ a1 a2
  go_enter Tryz.func14, Tryz.ntmps14
  go_wp2_with fail
  refine (rMake_any _ n w HQ.out.1).mono ?_
  rintro e w5 ⟨⟨u, L, rfl, hM, vs, hO⟩, hB⟩
  by_cases h0 : L.length = 0
  · have hu : ∃ x c, u = .slice x 0 c := by
      rcases hO.row.2 with ⟨rfl, _⟩ | ⟨g, cap, cur, rfl, _⟩
      · exact ⟨_, _, rfl⟩
      · exact ⟨_, _, by rw [h0]⟩
    obtain ⟨x, c, rfl⟩ := hu
    have HB := Lib.hid hB
    clear hO hM h0 hB
    go_wp2_with fail
    refine (table_any w5).mono ?_
    rintro e w6 ⟨b, rfl, hB6, hT6⟩
    obtain ⟨off, hoff⟩ : ∃ off : Nat, off = 0 := ⟨_, rfl⟩
    obtain ⟨m, hm⟩ : ∃ m, m = tab0.length := ⟨_, rfl⟩
    obtain ⟨L, hLL⟩ : ∃ L, L = tab0 := ⟨_, rfl⟩
    have hm1 : 1 ≤ m := by rw [hm]; decide
    have hm2 : m = 2 := by rw [hm]; rfl
    have hmm : m ≤ 9223372036854775807 := by omega
    have h2v : (Value.slice (some ⟨b, 0, none⟩) 2 2) = Value.slice (some ⟨b, off, none⟩) m 2 := by rw [hoff, hm2]
    rw [h2v] at hT6 ⊢
    have HT := Lib.hid (And.intro (HB.out.trans (hB6.mono HB.out.size)) (And.intro (show TabW w6 (.slice (some ⟨b, off, none⟩) m 2) L from hLL ▸ hT6) (And.intro (show Nice L from hLL ▸ nice_tab0) (show m = L.length from hLL ▸ hm))))
    have hmc : m ≤ 2 := by omega
    clear hB6 hT6 h2v hoff hm hLL hm2
    obtain ⟨k, hk, hkm⟩ := cpick_nat a m hm1
    have HK := Lib.hid hk
    have hki : (0 : Int) ≤ (k : Int) ∧ (k : Int) < (m : Int) := by omega
    clear hk
    obtain ⟨idk, hidk⟩ : ∃ idk, idk = (L.getD k zm).id := ⟨_, rfl⟩
    have hck : w6.cell? ⟨b, off + k * 2, none⟩ = some (.int .i64 idk) := by
      rcases HT.out.2.1.at_ with ⟨_, _, e, h0⟩ | ⟨b', off', cap', e, _, _, _, _, _, hfm⟩
      · have := HT.out.2.2.2; rw [h0] at this; simp at this; omega
      · cases e
        obtain ⟨y, hy⟩ := hfm k (by rw [← HT.out.2.2.2]; exact hkm)
        rw [hidk]; exact hy.c0
    have HI := Lib.hid hidk
    have lb := World.block_lt_of_cell? (h := hck)
    clear hidk
    go_upto_region 4 with fail
    refine wp_region_held_drew (S := (fun W : World => W.cell? ⟨b, off + k * 2, none⟩ = some (.int .i64 idk))) (by kernel_rfl) hck (fun hHeld => ?_)
    refine takeH 0 (y := by intro wS hSw; have s0 := hSw; go_simp; (try with_reducible rfl)) (h := ?_)
    (try simp only [pA, pB, pC, pD])
    refine takeH 1 (y := by intro wS hSw; have s0 := hSw; go_simp; (try with_reducible rfl)) (h := ?_)
    (try simp only [pA, pB, pC, pD])
    refine takeH 2 (y := by intro wS hSw; have s0 := hSw; go_simp; (try with_reducible rfl)) (h := ?_)
    (try simp only [pA, pB, pC, pD])
    refine takeH 3 (y := by intro wS hSw; have s0 := hSw; go_simp; (try with_reducible rfl)) (h := ?_)
    (try simp only [pA, pB, pC, pD])
    refine takeH 4 (y := by intro wS hSw; have s0 := hSw; go_simp; (try with_reducible rfl)) (h := ?_)
    (try simp only [pA, pB, pC, pD])
    refine wpAnyH_ready (rs := [5]) (by kernel_rfl) (by simp) ?_
    refine AllReadyH.cons (o := ?oB6) ?hB6 ?kB6 AllReadyH.nil
    case hB6 => (simp only [List.getElem?_toArray, List.getElem?_cons_zero, List.getElem?_cons_succ]; rfl)
    case kB6 =>
      intro K hK
      go_simp
      refine (fpick_any a m k w6.drew HQ.out.2.1 HQ.out.2.2 (by omega) (by omega) HK.out).mono ?_
      rintro e w6 ⟨rfl, rfl⟩
      refine hK.out _ _ hck (fun _ => ?_)
      clear hK K
      (try simp only [pA, pB, pC, pD])
      refine takeH 6 (y := by intro wS hSw; have s0 := hSw; go_simp; (try with_reducible rfl)) (h := ?_)
      (try simp only [pA, pB, pC, pD])
      refine takeH 7 (y := by intro wS hSw; have s0 := hSw; go_simp; (try with_reducible rfl)) (h := ?_)
      (try simp only [pA, pB, pC, pD])
      refine takeH 8 (y := by intro wS hSw; have s0 := hSw; go_simp; (try with_reducible rfl)) (h := ?_)
      (try simp only [pA, pB, pC, pD])
      refine takeH 9 (y := by intro wS hSw; have s0 := hSw; go_simp; (try with_reducible rfl)) (h := ?_)
      (try simp only [pA, pB, pC, pD])
      refine takeH 10 (y := by intro wS hSw; have s0 := hSw; go_simp; (try with_reducible rfl)) (h := ?_)
      (try simp only [pA, pB, pC, pD])
      refine wpAnyH_done (by kernel_rfl) ?_ _
      go_wp2
      go_ret2
      exact ⟨_, L, idk, k, rfl, HT.out.1.trans ((drewN_below w6 1).mono HT.out.1.size), HT.out.2.2.1, HT.out.2.1.below (drewN_below w6 1), ⟨by rw [← HT.out.2.2.2]; exact hkm, HI.out.symm⟩, _, _, _, by rw [← HT.out.2.2.2]; rfl⟩
  · obtain ⟨m, hm⟩ : ∃ m, m = L.length := ⟨_, rfl⟩
    have hm1 : 1 ≤ m := by omega
    have hu : ∃ b off c, u = .slice (some ⟨b, off, none⟩) m c ∧ m ≤ c ∧ c ≤ 9223372036854775807 := by
      rcases hO.row.2 with ⟨_, h⟩ | ⟨g, cap, cur, rfl, _, _, hl, hx, _⟩
      · omega
      · exact ⟨g, 0, cap, by rw [hm], by omega, by unfold maxLen at hx; omega⟩
    obtain ⟨b, off, c, rfl, hmc, hc9⟩ := hu
    have HT := Lib.hid (And.intro hB (And.intro (TabW.mk hO.fms hM.nice.ints) (And.intro hM.nice hm)))
    have hmm : m ≤ 9223372036854775807 := by omega
    clear hO hM h0 hB hm
    obtain ⟨k, hk, hkm⟩ := cpick_nat a m hm1
    have HK := Lib.hid hk
    have hki : (0 : Int) ≤ (k : Int) ∧ (k : Int) < (m : Int) := by omega
    clear hk
    obtain ⟨idk, hidk⟩ : ∃ idk, idk = (L.getD k zm).id := ⟨_, rfl⟩
    have hck : w5.cell? ⟨b, off + k * 2, none⟩ = some (.int .i64 idk) := by
      rcases HT.out.2.1.at_ with ⟨_, _, e, h0⟩ | ⟨b', off', cap', e, _, _, _, _, _, hfm⟩
      · have := HT.out.2.2.2; rw [h0] at this; simp at this; omega
      · cases e
        obtain ⟨y, hy⟩ := hfm k (by rw [← HT.out.2.2.2]; exact hkm)
        rw [hidk]; exact hy.c0
    have HI := Lib.hid hidk
    have lb := World.block_lt_of_cell? (h := hck)
    clear hidk
    go_upto_region 4 with fail
    refine wp_region_held_drew (S := (fun W : World => W.cell? ⟨b, off + k * 2, none⟩ = some (.int .i64 idk))) (by kernel_rfl) hck (fun hHeld => ?_)
    refine takeH 0 (y := by intro wS hSw; have s0 := hSw; go_simp; (try with_reducible rfl)) (h := ?_)
    (try simp only [pA, pB, pC, pD])
    refine takeH 1 (y := by intro wS hSw; have s0 := hSw; go_simp; (try with_reducible rfl)) (h := ?_)
    (try simp only [pA, pB, pC, pD])
    refine takeH 2 (y := by intro wS hSw; have s0 := hSw; go_simp; (try with_reducible rfl)) (h := ?_)
    (try simp only [pA, pB, pC, pD])
    refine takeH 3 (y := by intro wS hSw; have s0 := hSw; go_simp; (try with_reducible rfl)) (h := ?_)
    (try simp only [pA, pB, pC, pD])
    refine takeH 4 (y := by intro wS hSw; have s0 := hSw; go_simp; (try with_reducible rfl)) (h := ?_)
    (try simp only [pA, pB, pC, pD])
    refine wpAnyH_ready (rs := [5]) (by kernel_rfl) (by simp) ?_
    refine AllReadyH.cons (o := ?oB17) ?hB17 ?kB17 AllReadyH.nil
    case hB17 => (simp only [List.getElem?_toArray, List.getElem?_cons_zero, List.getElem?_cons_succ]; rfl)
    case kB17 =>
      intro K hK
      go_simp
      refine (fpick_any a m k w5.drew HQ.out.2.1 HQ.out.2.2 (by omega) (by omega) HK.out).mono ?_
      rintro e w6 ⟨rfl, rfl⟩
      refine hK.out _ _ hck (fun _ => ?_)
      clear hK K
      (try simp only [pA, pB, pC, pD])
      refine takeH 6 (y := by intro wS hSw; have s0 := hSw; go_simp; (try with_reducible rfl)) (h := ?_)
      (try simp only [pA, pB, pC, pD])
      refine takeH 7 (y := by intro wS hSw; have s0 := hSw; go_simp; (try with_reducible rfl)) (h := ?_)
      (try simp only [pA, pB, pC, pD])
      refine takeH 8 (y := by intro wS hSw; have s0 := hSw; go_simp; (try with_reducible rfl)) (h := ?_)
      (try simp only [pA, pB, pC, pD])
      refine takeH 9 (y := by intro wS hSw; have s0 := hSw; go_simp; (try with_reducible rfl)) (h := ?_)
      (try simp only [pA, pB, pC, pD])
      refine takeH 10 (y := by intro wS hSw; have s0 := hSw; go_simp; (try with_reducible rfl)) (h := ?_)
      (try simp only [pA, pB, pC, pD])
      refine wpAnyH_done (by kernel_rfl) ?_ _
      go_wp2
      go_ret2
      exact ⟨_, L, idk, k, rfl, HT.out.1.trans ((drewN_below w5 1).mono HT.out.1.size), HT.out.2.2.1, HT.out.2.1.below (drewN_below w5 1), ⟨by rw [← HT.out.2.2.2]; exact hkm, HI.out.symm⟩, _, _, _, by rw [← HT.out.2.2.2]; rfl⟩
end FormA
section LawU
open Go.RowKit Fx Rec

/-- What Match returns. -/
def mres (r : Except Rf (List Pt)) : List Pt × Rf × Int :=
  match r with
  | .ok ps => (ps, zRf, 0)
  | .error r => ([], r, 50)
/-- What Write returns. -/
def wres (r : Option ByteArray) : ByteArray × Int :=
  match r with
  | some s => (s, 0)
  | none => (ByteArray.empty, 50)
theorem mres_ok {r : Except Rf (List Pt)} {ps : List Pt} {x : Rf} (h : mres r = (ps, x, 0)) : r = .ok ps ∧ x = zRf := by
  cases r with
  | ok q => simp only [mres, Prod.mk.injEq] at h; exact ⟨by rw [h.1], h.2.1.symm⟩
  | error q => simp [mres] at h
theorem mres_code {r : Except Rf (List Pt)} {ps : List Pt} {x : Rf} {E : Int} (h : mres r = (ps, x, E)) : E = 0 ∨ E = 50 ∧ ps = [] ∧ r = .error x := by
  cases r with
  | ok q => simp only [mres, Prod.mk.injEq] at h; exact .inl h.2.2.symm
  | error q => simp only [mres, Prod.mk.injEq] at h; exact .inr ⟨h.2.2.symm, h.1.symm, by rw [h.2.1]⟩
theorem wres_ok {r : Option ByteArray} {s : ByteArray} (h : wres r = (s, 0)) : r = some s := by
  cases r with
  | some q => simp only [wres, Prod.mk.injEq] at h; rw [h.1]
  | none => simp [wres] at h
theorem wres_code {r : Option ByteArray} {s : ByteArray} {E : Int} (h : wres r = (s, E)) : E = 0 ∨ E = 50 ∧ s = ByteArray.empty ∧ r = none := by
  cases r with
  | some q => simp only [wres, Prod.mk.injEq] at h; exact .inl h.2.symm
  | none => simp only [wres, Prod.mk.injEq] at h; exact .inr ⟨h.2.symm, h.1.symm, rfl⟩
abbrev ptsG (ps : List Pt) : Nat → Option Value := fun j => (flatP ps)[j]?
abbrev strG (l : List ByteArray) : Nat → Option Value := fun j => (strsV l)[j]?
abbrev idsG (l : List Int) : Nat → Option Value := fun j => (idsV l)[j]?
theorem RowA.nil (w : World) (K : Nat) (g : Nat → Option Value) : RowA w K (.slice none 0 0) 0 g := ⟨none, 0, rfl, Nat.le_refl _, by unfold maxLen; omega, .inl rfl⟩
theorem RowA.slice_ {w : World} {K : Nat} {v : Value} {n : Nat} {g : Nat → Option Value} (h : RowA w K v n g) : ∃ a c, v = .slice a n c ∧ n ≤ c ∧ c ≤ 9223372036854775807 := by
  obtain ⟨a, c, rfl, h1, h2, _⟩ := h
  exact ⟨a, c, rfl, h1, by unfold maxLen at h2; omega⟩
section
variable {w : World} {v : Value} {L : List Fm} {id : Int} {s : ByteArray} {er : Addr}
theorem match_use {ps : List Pt} {a b c d E : Int} {n : Nat} (hR : Ready w er) (hV : TabW w v L) (hm : mres (mtch L id s) = (ps, ⟨a, b, c, d⟩, E)) (hn : n = ps.length) :
    Calls Tryz.prog 19 #[v, .int .i64 id, .string s] w fun e w' => ∃ x y, e = .returned (.tuple #[.slice x n y, .agg #[.int .i64 a, .int .i64 b, .int .i64 c, .int .i64 d], .int .i64 E]) ∧ Below w.heap.size w w' ∧ RowA w' 6 (.slice x n y) n (ptsG ps) := by
  have h := Match_any v L id s er w hR.err hR.ty hV.at_ hV.ints
  subst hn
  cases hr : mtch L id s with
  | ok q =>
    rw [hr] at h hm
    simp only [mres, Prod.mk.injEq] at hm
    obtain ⟨rfl, h2, rfl⟩ := hm
    simp only [zRf, Rf.mk.injEq] at h2
    obtain ⟨rfl, rfl, rfl, rfl⟩ := h2
    refine h.mono ?_
    rintro e w' ⟨hb, vp, rfl, hrow⟩
    have hA := RowA.of_own hrow
    obtain ⟨x, y, rfl, -⟩ := hA.slice_
    exact ⟨x, y, rfl, hb, hA⟩
  | error q =>
    rw [hr] at h hm
    simp only [mres, Prod.mk.injEq] at hm
    obtain ⟨rfl, rfl, rfl⟩ := hm
    refine h.mono ?_
    rintro e w' ⟨hb, rfl⟩
    exact ⟨none, 0, rfl, hb, RowA.nil _ _ _⟩
theorem strs_of_row {l : List ByteArray} (h : RowA w 1 v l.length (strG l)) : StrsV w v l := by
  obtain ⟨a, c, rfl, h1, h2, h3⟩ := h
  refine ⟨a, c, rfl, h1, h2, ?_⟩
  rcases h3 with h3 | ⟨b, off, rfl, lb, hc⟩
  · exact .inl (List.eq_nil_of_length_eq_zero h3)
  · refine .inr ⟨b, off, rfl, fun j hj => ?_⟩
    rw [hc j (by omega)]
    simp [strG, strsV, List.getElem?_eq_getElem hj]
theorem write_use {l : List ByteArray} {S : ByteArray} {E : Int} (hR : Ready w er) (hV : TabW w v L) {u : Value} {n : Nat} (hn : n = l.length) (hu : RowA w 1 u n (strG l)) (hs : Short l) (hw : wres (writ L id l) = (S, E)) :
    Calls Tryz.prog 27 #[v, .int .i64 id, u] w fun e w' => e = .returned (.tuple #[.string S, .int .i64 E]) ∧ Below w.heap.size w w' := by
  subst hn
  have h := Write_any v u L id l er w hR.err hR.ty hV.at_ hV.ints (strs_of_row hu) (fun b hb hl => by
    obtain ⟨a, c, rfl, h1, h2, h3⟩ := hu
    rcases h3 with h3 | ⟨b', off, rfl, lb, hc⟩
    · exact absurd (List.eq_nil_of_length_eq_zero h3) hl
    · have : b' = b := by simpa [Value.ownBlock] using hb
      rw [← this]; exact lb) hs
  refine h.mono ?_
  rintro e w' ⟨hb, rfl⟩
  refine ⟨?_, hb⟩
  cases hr : writ L id l with
  | some q => rw [hr] at hw; simp only [wres, Prod.mk.injEq] at hw; obtain ⟨rfl, rfl⟩ := hw; rfl
  | none => rw [hr] at hw; simp only [wres, Prod.mk.injEq] at hw; obtain ⟨rfl, rfl⟩ := hw; rfl
theorem all_use {l : List Int} {n : Nat} (hR : Ready w er) (hV : TabW w v L) (hl : allIds L s = l) (hn : n = l.length) :
    Calls Tryz.prog 23 #[v, .string s] w fun e w' => ∃ x y, e = .returned (.slice x n y) ∧ Below w.heap.size w w' ∧ RowA w' 1 (.slice x n y) n (idsG l) := by
  subst hn
  refine (All_any v L s er w hR.err hR.ty hV.at_ hV.ints).mono ?_
  rintro e w' ⟨vi, rfl, hb, hrow⟩
  rw [hl] at hrow
  have hA := RowA.of_own hrow
  obtain ⟨x, y, rfl, -⟩ := hA.slice_
  exact ⟨x, y, rfl, hb, hA⟩
theorem chosen_use {xv : Value} (hL : Nice L) (hV : TabW w v L) (hX : IntsR w xv) :
    Calls Tryz.prog 16 #[v, .int .i64 id, xv] w fun e w' => ∃ (l : List ByteArray) (n : Nat) (x : Option Addr) (y : Nat), e = .returned (.slice x n y) ∧ Below w.heap.size w w' ∧ n = l.length ∧ n ≤ 100000000 ∧ Short l ∧ RowA w' 1 (.slice x n y) n (strG l) := by
  refine (chosen_any v xv L id w hL hV.at_ hX).mono ?_
  rintro e w' ⟨hb, ov, out, rfl, hrow, h8, -, hlen⟩
  have hA := RowA.of_own hrow
  obtain ⟨x, y, rfl, -⟩ := hA.slice_
  exact ⟨out, out.length, x, y, rfl, hb, rfl, hlen, fun z hz => by have := h8 z hz; omega, hA⟩
end
theorem fm_take {L : List Fm} {k j : Nat} (h : j < k) : (L.take k).getD j zm = L.getD j zm := by
  rw [List.getD_eq_getElem?_getD, List.getElem?_take, if_pos h, ← List.getD_eq_getElem?_getD]
theorem ints_take {L : List Fm} (h : IntsL L) (k : Nat) : IntsL (L.take k) := fun i hi => by
  rw [List.length_take] at hi
  rw [fm_take (by omega)]
  exact h i (by omega)
theorem Nice.take {L : List Fm} (h : Nice L) (k : Nat) : Nice (L.take k) := by
  have hl : (L.take k).length ≤ L.length := by rw [List.length_take]; omega
  refine ⟨h.ok.take k, Nat.le_trans hl h.few, fun j hj => ?_, fun j hj i hi h3 => ?_, ints_take h.ints k⟩
  · have hj' : j < k ∧ j < L.length := by rw [List.length_take] at hj; omega
    rw [fm_take hj'.1]
    exact h.fs j hj'.2
  · have hj' : j < k ∧ j < L.length := by rw [List.length_take] at hj; omega
    rw [fm_take hj'.1] at hi h3 ⊢
    exact h.n4 j hj'.2 i hi h3
theorem TabW.take {w : World} {a : Option Addr} {c k n : Nat} {L : List Fm} (h : TabW w (.slice a n c) L) (hk : k ≤ L.length) : TabW w (.slice a k c) (L.take k) := by
  refine ⟨?_, ints_take h.ints k⟩
  have hl : (L.take k).length = k := by rw [List.length_take]; omega
  rcases h.at_ with ⟨a', c', e, h0⟩ | ⟨b, off, cap, e, h1, h2, h3, h4, h5, h6⟩
  · rw [h0] at hk
    have : k = 0 := by simpa using hk
    subst this
    exact .inl ⟨_, _, rfl, rfl⟩
  · obtain ⟨rfl, -, rfl⟩ : a = some ⟨b, off, none⟩ ∧ n = L.length ∧ c = cap := by simpa using e
    rcases Nat.eq_zero_or_pos k with h0 | h0
    · subst h0; exact .inl ⟨_, _, rfl, rfl⟩
    · refine .inr ⟨b, off, _, by rw [hl], by rw [hl]; exact h0, by rw [hl]; omega, h3, h4, h5, fun i hi => ?_⟩
      rw [hl] at hi
      rw [fm_take hi]
      exact h6 i (by omega)
theorem TabW.id_ {w : World} {b off c n : Nat} {L : List Fm} (h : TabW w (.slice (some ⟨b, off, none⟩) n c) L) {k : Nat} (hk : k < L.length) : w.cell? ⟨b, off + k * 2, none⟩ = some (.int .i64 (L.getD k zm).id) := by
  rcases h.at_ with ⟨a', c', e, h0⟩ | ⟨b', off', cap, e, h1, h2, h3, h4, h5, h6⟩
  · rw [h0] at hk; simp at hk
  · cases e
    obtain ⟨u, hu⟩ := h6 k hk
    exact hu.c0
theorem TabW.caps {w : World} {a : Option Addr} {c n : Nat} {L : List Fm} (h : TabW w (.slice a n c) L) (h1 : 1 ≤ n) : n = L.length ∧ n ≤ c ∧ c ≤ 9223372036854775807 := by
  rcases h.at_ with ⟨a', c', e, h0⟩ | ⟨b', off', cap, e, _, h2, h3, _⟩
  · cases e; omega
  · cases e; exact ⟨rfl, h2, by unfold maxLen at h3; omega⟩
end LawU
section RecFrame
open Go.RowKit Go.ChangeShapes Go.WideShapes Go.ChangeAt Fx

section
variable {H : Type} {enc : TypeId × Value → H} {P : Program}
theorem post_of_below {f : Func} {s : ChangeSpec} {apart fresh handsOn again : Bool} {W W' : World} {args : Array Value} {v : Value} {ds gs : List (DataW H)} {before pa pv : List MemPlace}
    (hW : DataW.Whole enc P f.params.toList s.vars apart W args.toList ds gs before)
    (hres : ∀ (b : Nat) (sp : Nat → Bool) (hd : Bool), DataW.TrodAll enc P W' b sp hd f.resultTypes.toList (v.resultList f.resultTypes.size) (s.fn H (ds ++ gs)).results [])
    (hargs : ∀ sp : Nat → Bool, (∀ p ∈ before, sp p.block = true) → DataW.TrodAll enc P W' 0 sp true f.params.toList args.toList (s.fn H (ds ++ gs)).args pa)
    (hvars : ∀ sp : Nat → Bool, (∀ p ∈ before, sp p.block = true) → DataW.TrodVars enc P W' sp s.vars (s.fn H (ds ++ gs)).vars pv)
    (hps : before = pa ++ pv) (hb : Below W.heap.size W W')
    (hok : ∀ (j : Nat) (t : TypeId) (r : Value), f.resultTypes[j]? = some t → (v.resultList f.resultTypes.size)[j]? = some r → Value.okWide P W' .any 0 t r) :
    s.post enc P f apart fresh handsOn again W args v W' := by
  have hlt : ∀ p ∈ before, p.block < W.heap.size := fun p hp => hW.lt p hp
  have hold : ∀ p ∈ before, (fun b => decide (b < W.heap.size)) p.block = true := fun p hp => by simpa using hlt p hp
  refine ⟨ds, gs, before, [], pa, pv, hW, hres _ _ _, hargs _ hold, hvars _ hold, World.keptBut_mono (fun p hp => ⟨hp, ?_⟩) (hb.frame (· ∈ before)), fun _ => ?_⟩
  · rw [hps, List.mem_append] at hp
    exact Or.inr hp
  · obtain ⟨_, _, _, _, _, hz, hn⟩ := hW
    refine ⟨hok, _, _, ([] ++ pa) ++ pv, ⟨[] ++ pa, pv, trodAll_append (hargs _ (fun _ _ => rfl)) (hres _ _ _), hvars _ (fun _ _ => rfl), rfl, ?_, ?_⟩, ?_⟩
    · intro b off hp
      have hin : MemPlace.cell b off ∈ before := by rw [hps]; simpa using hp
      rw [hb.frozen (hlt _ hin)]
      exact hz b off hin
    · intro ha
      have := hn ha
      rw [hps] at this
      simpa using this
    · intro p hp _
      rw [hps]
      simpa using hp
end


theorem Tryz.own : ownKnob Tryz.prog.godebug = none := by kernel_rfl
theorem laidOut : laidOutB Tryz.prog = true := by kernel_rfl
theorem gNon : Tryz.prog.globalNamed "evergreen/format.errWrong" = some 1 := by kernel_rfl
theorem gNonType : (Tryz.prog.globals[1]?).map (·.type) = some 101 := by kernel_rfl
theorem cellsErr : Tryz.prog.cellsOf 227 = 1 := by kernel_rfl
theorem cellsStr : Tryz.prog.cellsOf 9 = 1 := by kernel_rfl
theorem star : "*" ++ "errors.errorString" = "*errors.errorString" := by decide
theorem rowErr (u : TypeId) (h : Tryz.prog.typeName? 3 u = some "*errors.errorString") : u = 225 :=
  typeName_ptr_named (nm := "errors.errorString") (by rw [star]; kernel_rfl) (by kernel_rfl) (by decide) u (by rw [star]; exact h)

abbrev laidAll : List (String × DataW Unit) := [("math/bits.deBruijn32tab", Rows.laid_math_bits_deBruijn32tab), ("math/bits.deBruijn64tab", Rows.laid_math_bits_deBruijn64tab), ("internal/strconv.uint64pow10", Rows.laid_internal_strconv_uint64pow10), ("errors.errorType", Rows.laid_errors_errorType), ("strconv.ErrRange", Rows.laid_strconv_ErrRange), ("strconv.ErrSyntax", Rows.laid_strconv_ErrSyntax), ("evergreen/format.errWrong", Rows.laid_evergreen_format_errWrong)]
theorem gTy : Tryz.prog.globalNamed "errors.errorType" = some 0 := by kernel_rfl
theorem rtRow : (Tryz.prog.cutTypes.find? (·.1 == "internal/reflectlite.rtype")).map (·.2) = some 155 := by kernel_rfl
theorem oneRow : ((List.range Tryz.prog.types.size).filter fun t => Tryz.prog.rowNamed t [101, 114, 114, 111, 114]) = [101] := by kernel_rfl
theorem handleErr : typeHandle Tryz.prog 101 = .pointer (some ⟨7, 101, none⟩) := by kernel_rfl
theorem errTy_of_laid {W : World} (h : laidMetH Tryz.prog [("errors.errorType", Rows.laid_errors_errorType)] W) : ErrTy W := by
  have h' : laidMet Tryz.prog [] W ∧ handlesMet Tryz.prog [("errors.errorType", Rows.laid_errors_errorType)] W := h
  obtain ⟨name, u, ty, e1, e2, e3, e4, e5⟩ := h'.2 _ (List.mem_singleton.2 rfl)
  have en : name = [101, 114, 114, 111, 114] := (Option.some.inj e1).symm
  subst en
  obtain rfl := Option.some.inj (rtRow.symm.trans e2)
  have hm : ty ∈ (List.range Tryz.prog.types.size).filter fun t => Tryz.prog.rowNamed t [101, 114, 114, 111, 114] := List.mem_filter.2 ⟨List.mem_range.2 e3, e4⟩
  rw [oneRow] at hm
  obtain rfl := List.mem_singleton.1 hm
  rw [handleErr] at e5
  have h0 := World.var?_cell gTy e5 0
  unfold ErrTy
  simpa using h0
/-- What the row's list gives. -/
theorem ready_of_laid {W : World} (h : laidMetH Tryz.prog laidAll W) : ∃ er, Ready W er := by
  have h5 : laidMetH Tryz.prog [("errors.errorType", Rows.laid_errors_errorType)] W := laidMetH.filter (fun x => x.1 == "errors.errorType") h
  have h6 : laidMetH Tryz.prog [("evergreen/format.errWrong", Rows.laid_evergreen_format_errWrong)] W := laidMetH.filter (fun x => x.1 == "evergreen/format.errWrong") h
  have k6 : laidMet Tryz.prog [("evergreen/format.errWrong", Rows.laid_evergreen_format_errWrong)] W := h6
  obtain ⟨a3, _, hv3, -, -, -⟩ := laid_sentinel k6 gNon gNonType Tryz.underlying101 rowErr Tryz.underlying225 Tryz.underlying227 rfl rfl Tryz.underlying9 cellsErr cellsStr
  exact ⟨a3, ⟨by have h0 := World.var?_cell gNon hv3 0; simpa using h0⟩, errTy_of_laid h5⟩

def putCells (cs : Array Value) : Obj → Obj
  | .cells _ t frozen => .cells cs t frozen
  | o => o
/-- So many blocks has the settled world. -/
noncomputable def low : Nat := (World.holding Tryz.prog default ⟨#[], #[], []⟩).heap.size
/-- A world for the witness: the settled one, the tables holding what their initialisers lay, and the three errors in blocks of their own. -/
noncomputable def laidWorld (os : Os) : World :=
  { World.holding Tryz.prog os ⟨#[.cells #[.string { data := #[118, 97, 108, 117, 101, 32, 111, 117, 116, 32, 111, 102, 32, 114, 97, 110, 103, 101] }] 227, .cells #[.string { data := #[105, 110, 118, 97, 108, 105, 100, 32, 115, 121, 110, 116, 97, 120] }] 227, .cells #[.string { data := #[102, 111, 114, 109, 97, 116, 58, 32, 110, 111, 116, 32, 118, 97, 108, 105, 100] }] 227], #[], []⟩ with heap := ((((((((World.holding Tryz.prog os ⟨#[.cells #[.string { data := #[118, 97, 108, 117, 101, 32, 111, 117, 116, 32, 111, 102, 32, 114, 97, 110, 103, 101] }] 227, .cells #[.string { data := #[105, 110, 118, 97, 108, 105, 100, 32, 115, 121, 110, 116, 97, 120] }] 227, .cells #[.string { data := #[102, 111, 114, 109, 97, 116, 58, 32, 110, 111, 116, 32, 118, 97, 108, 105, 100] }] 227], #[], []⟩).heap.modify 5 (putCells #[.int .u8 0, .int .u8 1, .int .u8 28, .int .u8 2, .int .u8 29, .int .u8 14, .int .u8 24, .int .u8 3, .int .u8 30, .int .u8 22, .int .u8 20, .int .u8 15, .int .u8 25, .int .u8 17, .int .u8 4, .int .u8 8, .int .u8 31, .int .u8 27, .int .u8 13, .int .u8 23, .int .u8 21, .int .u8 19, .int .u8 16, .int .u8 7, .int .u8 26, .int .u8 12, .int .u8 18, .int .u8 6, .int .u8 11, .int .u8 5, .int .u8 10, .int .u8 9])).modify 6 (putCells #[.int .u8 0, .int .u8 1, .int .u8 56, .int .u8 2, .int .u8 57, .int .u8 49, .int .u8 28, .int .u8 3, .int .u8 61, .int .u8 58, .int .u8 42, .int .u8 50, .int .u8 38, .int .u8 29, .int .u8 17, .int .u8 4, .int .u8 62, .int .u8 47, .int .u8 59, .int .u8 36, .int .u8 45, .int .u8 43, .int .u8 51, .int .u8 22, .int .u8 53, .int .u8 39, .int .u8 33, .int .u8 30, .int .u8 24, .int .u8 18, .int .u8 12, .int .u8 5, .int .u8 63, .int .u8 55, .int .u8 48, .int .u8 27, .int .u8 60, .int .u8 41, .int .u8 37, .int .u8 16, .int .u8 46, .int .u8 35, .int .u8 44, .int .u8 21, .int .u8 52, .int .u8 32, .int .u8 23, .int .u8 11, .int .u8 54, .int .u8 26, .int .u8 40, .int .u8 15, .int .u8 34, .int .u8 20, .int .u8 31, .int .u8 10, .int .u8 25, .int .u8 14, .int .u8 19, .int .u8 9, .int .u8 13, .int .u8 8, .int .u8 7, .int .u8 6])).modify 4 (putCells #[.int .u64 1, .int .u64 10, .int .u64 100, .int .u64 1000, .int .u64 10000, .int .u64 100000, .int .u64 1000000, .int .u64 10000000, .int .u64 100000000, .int .u64 1000000000, .int .u64 10000000000, .int .u64 100000000000, .int .u64 1000000000000, .int .u64 10000000000000, .int .u64 100000000000000, .int .u64 1000000000000000, .int .u64 10000000000000000, .int .u64 100000000000000000, .int .u64 1000000000000000000, .int .u64 10000000000000000000])).modify 0 (putCells #[.iface 155 (.agg #[.pointer (some ⟨7, 101, none⟩)])])).modify 3 (putCells #[.iface 225 (.pointer (some ⟨low + 0, 0, none⟩))])).modify 2 (putCells #[.iface 225 (.pointer (some ⟨low + 1, 0, none⟩))])).modify 1 (putCells #[.iface 225 (.pointer (some ⟨low + 2, 0, none⟩))])) }
end RecFrame
section ArgA
open Go.RowKit Go.ChangeShapes Go.WideShapes Fx

theorem cellsInt : Tryz.prog.cellsOf 3 = 1 := by kernel_rfl
theorem cellsFour : Tryz.prog.cellsOf 94 = 4 := by kernel_rfl
theorem one_at {cs : List Value} {i : Nat} {v : Value} (h : (cs.drop i).take 1 = [v]) : cs[i]? = some v := by
  have h2 := congrArg (fun l => l[0]?) h
  simpa using h2
section
variable {H : Type} {enc : TypeId × Value → H} {W : World} {base : Nat} {sp : Nat → Bool} {held : Bool}
theorem four_of_trod {fuel : Nat} {cs : List Value} {x : DataW H × List MemPlace} (h : DataW.trod enc Tryz.prog W base sp held fuel 94 cs = some x) : ∀ j, j < 4 → ∃ z : Int, cs[j]? = some (.int .i64 z) ∧ -9223372036854775808 ≤ z ∧ z ≤ 9223372036854775807 := by
  obtain ⟨xs, m, _, _, _, hl, he⟩ := DataW.trod_array Tryz.underlying94 h
  intro j hj
  have h1 := he j hj
  rw [List.getElem?_eq_getElem (by omega)] at h1
  obtain ⟨z, e, _, hw⟩ := DataW.trod_int Tryz.underlying3 h1
  rw [cellsInt, Nat.mul_one] at e
  exact ⟨z, one_at e, bounds_i64 hw⟩
theorem slice_at {e : TypeId} {k len : Nat} {a : Addr} {elems : List (DataW H × List MemPlace)} {n : Nat} (hc : Tryz.prog.cellsOf e = k) (hl : elems.length = len) (hel : ∀ i, i < len → (W.cells? base (a.add (i * Tryz.prog.cellsOf e)) (Tryz.prog.cellsOf e)).bind (DataW.trod enc Tryz.prog W base sp held n e) = elems[i]?) {i : Nat} (hi : i < len) :
    ∃ cs x, DataW.trod enc Tryz.prog W base sp held n e cs = some x ∧ ∀ (j : Nat) (v : Value), j < k → cs[j]? = some v → W.cell? ((a.add (i * k)).add j) = some v := by
  have h := hel i hi
  rw [List.getElem?_eq_getElem (by omega), Option.bind_eq_some_iff, hc] at h
  obtain ⟨cs, h1, h2⟩ := h
  refine ⟨cs, _, h2, fun j v hj hv => ?_⟩
  obtain ⟨_, h3, h4⟩ := World.cells?_some h1
  exact (h4 j (by omega)).trans hv
theorem add2 (b off i j : Nat) : (Addr.add (Addr.add ⟨b, off, none⟩ i) j) = ⟨b, off + i + j, none⟩ := by
  rw [add_plain, add_plain]
theorem spot_none {a : Addr} {i k j : Nat} {v : Value} (h : W.cell? ((a.add (i * k)).add j) = some v) (hi : i = 0) (hj : j = 0) : ∃ b off, a = ⟨b, off, none⟩ := by
  subst hi; subst hj
  obtain ⟨b, off, spot⟩ := a
  have : spot = none := by simpa [Addr.add] using World.cell?_spot h
  subst this
  exact ⟨b, off, rfl⟩
/-- A slice of rows of four ints that came in. -/
theorem qs_of_trod {fuel : Nat} {v : Value} {x : DataW H × List MemPlace} (h : DataW.trod enc Tryz.prog W base sp held fuel 22 [v] = some x) : ∃ n, QsAt W v n := by
  rcases DataW.trod_slice Tryz.underlying22 h with ⟨e, _⟩ | ⟨a, len, cap, elems, rest, n, _, e, _, hb, hl, hm, hlen, hel, _, _⟩
  · cases e; exact ⟨0, .inl ⟨_, _, rfl, rfl⟩⟩
  · cases e
    rcases Nat.eq_zero_or_pos len with rfl | h0
    · exact ⟨0, .inl ⟨_, _, rfl, rfl⟩⟩
    · have key : ∀ i, i < len → ∀ j, j < 4 → ∃ z : Int, W.cell? ((a.add (i * 4)).add j) = some (.int .i64 z) ∧ -9223372036854775808 ≤ z ∧ z ≤ 9223372036854775807 := fun i hi j hj => by
        obtain ⟨cs, x, h1, h2⟩ := slice_at cellsFour hlen hel hi
        obtain ⟨z, hz, hr⟩ := four_of_trod h1 j hj
        exact ⟨z, h2 j _ hj hz, hr⟩
      obtain ⟨z, hz, _⟩ := key 0 h0 0 (by omega)
      obtain ⟨b, off, rfl⟩ := spot_none hz rfl rfl
      refine ⟨len, .inr ⟨b, off, cap, rfl, h0, hl, hm, ?_, fun i j hi hj => ?_⟩⟩
      · rw [add2] at hz
        exact World.block_lt_of_cell? (h := hz)
      · have := key i hi j hj
        rwa [add2] at this
/-- A slice of ints that came in. -/
theorem ints_of_trod {fuel : Nat} {v : Value} {x : DataW H × List MemPlace} (h : DataW.trod enc Tryz.prog W base sp held fuel 24 [v] = some x) : IntsR W v := by
  rcases DataW.trod_slice Tryz.underlying24 h with ⟨e, _⟩ | ⟨a, len, cap, elems, rest, n, _, e, _, hb, hl, hm, hlen, hel, _, _⟩
  · cases e; exact ⟨none, 0, 0, rfl, Nat.le_refl _, by unfold maxLen; omega, .inl rfl⟩
  · cases e
    rcases Nat.eq_zero_or_pos len with rfl | h0
    · exact ⟨_, 0, cap, rfl, hl, hm, .inl rfl⟩
    · have key : ∀ i, i < len → ∃ z : Int, W.cell? ((a.add (i * 1)).add 0) = some (.int .i64 z) ∧ -9223372036854775808 ≤ z ∧ z ≤ 9223372036854775807 := fun i hi => by
        obtain ⟨cs, x, h1, h2⟩ := slice_at cellsInt hlen hel hi
        obtain ⟨z, hz, _, hw⟩ := DataW.trod_int Tryz.underlying3 h1
        exact ⟨z, h2 0 _ (by omega) (by rw [hz]; rfl), bounds_i64 hw⟩
      obtain ⟨z, hz, _⟩ := key 0 h0
      obtain ⟨b, off, rfl⟩ := spot_none hz rfl rfl
      refine ⟨_, len, cap, rfl, hl, hm, .inr ⟨b, off, rfl, ?_, ?_, fun j hj => ?_⟩⟩
      · rw [add2] at hz
        exact World.block_lt_of_cell? (h := hz)
      · rw [add2] at hz
        exact World.block_lt_of_cell? (h := hz)
      · obtain ⟨z, h1, h2⟩ := key j hj
        rw [add2, Nat.mul_one, Nat.add_zero] at h1
        exact ⟨z, h1, h2⟩
end
end ArgA
section SanB
open Go.RowKit Fx Rec Go.Maps

def psA : List Pt := [⟨0, 2, 0, 0, 2, 0⟩, ⟨0, 2, 1, 2, 4, 1⟩, ⟨0, 2, 2, 4, 5, 0⟩]
def psE : List Pt := [⟨0, 7, 0, 0, 1, 5⟩, ⟨0, 7, 1, 1, 6, 0⟩, ⟨1, 2, 0, 1, 3, 0⟩, ⟨1, 2, 1, 3, 5, 1⟩, ⟨1, 2, 2, 5, 6, 0⟩, ⟨0, 7, 2, 6, 7, 37⟩]
theorem ex_A : mtch tab0 2 ⟨#[77, 90, 0, 1, 120]⟩ = .ok psA := by rfl
theorem ex_B : mtch tab0 2 ⟨#[77, 91, 0, 0]⟩ = .error ⟨0, 2, 0, 2⟩ := by rfl
theorem ex_C : mtch tab0 2 ⟨#[77, 90, 0, 2, 120]⟩ = .error ⟨4, 2, 2, 1⟩ := by rfl
theorem ex_D : mtch tab0 2 ⟨#[77, 90, 0, 0, 120]⟩ = .error ⟨4, 2, 3, 4⟩ := by rfl
theorem ex_E : mtch tab0 7 ⟨#[5, 77, 90, 0, 1, 120, 37]⟩ = .ok psE := by rfl
theorem ex_F : mtch tab0 7 ⟨#[6, 77, 90, 0, 1, 120, 37]⟩ = .error ⟨6, 7, 1, 4⟩ := by rfl
theorem ex_W : writ tab0 7 [⟨#[120]⟩] = some ⟨#[5, 77, 90, 0, 1, 120, 37]⟩ := by decide +kernel
theorem ex_N : writ tab0 7 [] = none := by decide +kernel
theorem ex_L : allIds tab0 ⟨#[5, 77, 90, 0, 1, 120, 37]⟩ = [7] := by decide +kernel
theorem ex_P : numPart ⟨#[5, 77, 90, 0, 1, 120, 37]⟩ 6 7 = 37 := by rfl
theorem Blk.stays {w w' : World} {b : Nat} {t : TypeId} {cs : Array Value} (h : Blk w b t cs) (hb : Below w.heap.size w w') : Blk w' b t cs := (hb.block _ h.lt).trans h
theorem below_more {B : Nat} {w w1 w2 : World} (h : Below B w w1) (hB : B ≤ w.heap.size) (hb : Below w1.heap.size w1 w2) : Below B w w2 := h.trans (hb.mono (Nat.le_trans hB h.size))
theorem strs_one {w : World} {b : Nat} {x : ByteArray} (h : Blk w b 9 #[.string x]) : StrsV w (.slice (some ⟨b, 0, none⟩) 1 1) [x] :=
  ⟨_, 1, rfl, Nat.le_refl _, by unfold maxLen; omega, .inr ⟨b, 0, rfl, fun j hj => by
    have : j = 0 := by simpa using hj
    subst this
    rw [h.cell]; rfl⟩⟩
set_option maxRecDepth 100000 in
set_option maxHeartbeats 4000000 in
theorem sane_any (er : Addr) (w : World) (hR : Ready w er) : Calls Tryz.prog 12 #[] w fun e w' => e = .returned (.bool true) ∧ Below w.heap.size w w' := by
  have HR := Lib.hid hR
  clear hR
  go_enter Tryz.func12, Tryz.ntmps12
  go_wp2_with fail
  refine (table_any w).mono ?_
  rintro e w1 ⟨b, rfl, hB, hT⟩
  obtain ⟨tv, htv⟩ : ∃ tv, tv = Value.slice (some ⟨b, 0, none⟩) 2 2 := ⟨_, rfl⟩
  rw [← htv] at hT ⊢
  have H1 : Hid (Below w.heap.size w w1 ∧ TabW w1 tv tab0) := Lib.hid ⟨hB, hT⟩
  clear hB hT htv
  go_wp2_with fail
  refine (match_ok (n := 3) (HR.out.below H1.out.1) H1.out.2 ex_A rfl (by decide)).mono ?_
  rintro e w2 ⟨ga, ca, rfl, hB, hP⟩
  have H2 : Hid (Below w.heap.size w w2 ∧ TabW w2 tv tab0 ∧ PartsW w2 ga 3 ca psA) := Lib.hid ⟨below_more H1.out.1 (Nat.le_refl _) hB, H1.out.2.below hB, hP⟩
  clear hB hP
  go_wp2_with fail
  have hn := Blk.new w2 40 #[.int .i64 0, .int .i64 0, .int .i64 0, .int .i64 0]
  have hb := bx (w := w2) (.cells #[.int .i64 0, .int .i64 0, .int .i64 0, .int .i64 0] 40)
  have hsx2 : (w2.alloc (.cells #[.int .i64 0, .int .i64 0, .int .i64 0, .int .i64 0] 40)).heap.size = w2.heap.size + 1 := World.size_alloc _ _
  generalize w2.alloc (.cells #[.int .i64 0, .int .i64 0, .int .i64 0, .int .i64 0] 40) = x2 at *
  have H3 : Hid (Below w.heap.size w x2 ∧ TabW x2 tv tab0 ∧ PartsW x2 ga 3 ca psA) := Lib.hid ⟨below_more H2.out.1 (Nat.le_refl _) hb, H2.out.2.1.below hb, H2.out.2.2.below hb⟩
  clear hn hb
  refine (match_no (HR.out.below H3.out.1) H3.out.2.1 ex_B).mono ?_
  rintro e w3 ⟨rfl, hB⟩
  have H4 : Hid (Below w.heap.size w w3 ∧ TabW w3 tv tab0 ∧ PartsW w3 ga 3 ca psA) := Lib.hid ⟨below_more H3.out.1 (Nat.le_refl _) hB, H3.out.2.1.below hB, H3.out.2.2.below hB⟩
  clear hB
  go_wp2_with fail
  have hn := Blk.new w3 40 #[.int .i64 0, .int .i64 2, .int .i64 0, .int .i64 2]
  have hb := bx (w := w3) (.cells #[.int .i64 0, .int .i64 2, .int .i64 0, .int .i64 2] 40)
  have hsx3 : (w3.alloc (.cells #[.int .i64 0, .int .i64 2, .int .i64 0, .int .i64 2] 40)).heap.size = w3.heap.size + 1 := World.size_alloc _ _
  generalize w3.alloc (.cells #[.int .i64 0, .int .i64 2, .int .i64 0, .int .i64 2] 40) = x3 at *
  obtain ⟨rw3, hrw3⟩ : ∃ r, r = w3.heap.size := ⟨_, rfl⟩
  rw [← hrw3] at hn hsx3 ⊢
  have H5 : Hid (Below w.heap.size w x3 ∧ TabW x3 tv tab0 ∧ PartsW x3 ga 3 ca psA ∧ Blk x3 rw3 40 #[.int .i64 0, .int .i64 2, .int .i64 0, .int .i64 2]) := Lib.hid ⟨below_more H4.out.1 (Nat.le_refl _) hb, H4.out.2.1.below hb, H4.out.2.2.below hb, hn⟩
  clear hn hb hrw3
  refine (match_no (HR.out.below H5.out.1) H5.out.2.1 ex_C).mono ?_
  rintro e w4 ⟨rfl, hB⟩
  have H6 : Hid (Below w.heap.size w w4 ∧ TabW w4 tv tab0 ∧ PartsW w4 ga 3 ca psA ∧ Blk w4 rw3 40 #[.int .i64 0, .int .i64 2, .int .i64 0, .int .i64 2]) := Lib.hid ⟨below_more H5.out.1 (Nat.le_refl _) hB, H5.out.2.1.below hB, H5.out.2.2.1.below hB, H5.out.2.2.2.stays hB⟩
  clear hB
  go_wp2_with fail
  have hn := Blk.new w4 40 #[.int .i64 4, .int .i64 2, .int .i64 2, .int .i64 1]
  have hb := bx (w := w4) (.cells #[.int .i64 4, .int .i64 2, .int .i64 2, .int .i64 1] 40)
  have hsx4 : (w4.alloc (.cells #[.int .i64 4, .int .i64 2, .int .i64 2, .int .i64 1] 40)).heap.size = w4.heap.size + 1 := World.size_alloc _ _
  generalize w4.alloc (.cells #[.int .i64 4, .int .i64 2, .int .i64 2, .int .i64 1] 40) = x4 at *
  obtain ⟨rw4, hrw4⟩ : ∃ r, r = w4.heap.size := ⟨_, rfl⟩
  rw [← hrw4] at hn hsx4 ⊢
  have H7 : Hid (Below w.heap.size w x4 ∧ TabW x4 tv tab0 ∧ PartsW x4 ga 3 ca psA ∧ Blk x4 rw3 40 #[.int .i64 0, .int .i64 2, .int .i64 0, .int .i64 2] ∧ Blk x4 rw4 40 #[.int .i64 4, .int .i64 2, .int .i64 2, .int .i64 1]) := Lib.hid ⟨below_more H6.out.1 (Nat.le_refl _) hb, H6.out.2.1.below hb, H6.out.2.2.1.below hb, H6.out.2.2.2.stays hb, hn⟩
  clear hn hb hrw4
  refine (match_no (HR.out.below H7.out.1) H7.out.2.1 ex_D).mono ?_
  rintro e w5 ⟨rfl, hB⟩
  have H8 : Hid (Below w.heap.size w w5 ∧ TabW w5 tv tab0 ∧ PartsW w5 ga 3 ca psA ∧ Blk w5 rw3 40 #[.int .i64 0, .int .i64 2, .int .i64 0, .int .i64 2] ∧ Blk w5 rw4 40 #[.int .i64 4, .int .i64 2, .int .i64 2, .int .i64 1]) := Lib.hid ⟨below_more H7.out.1 (Nat.le_refl _) hB, H7.out.2.1.below hB, H7.out.2.2.1.below hB, H7.out.2.2.2.1.stays hB, H7.out.2.2.2.2.stays hB⟩
  clear hB
  go_wp2_with fail
  have hn := Blk.new w5 40 #[.int .i64 4, .int .i64 2, .int .i64 3, .int .i64 4]
  have hb := bx (w := w5) (.cells #[.int .i64 4, .int .i64 2, .int .i64 3, .int .i64 4] 40)
  have hsx5 : (w5.alloc (.cells #[.int .i64 4, .int .i64 2, .int .i64 3, .int .i64 4] 40)).heap.size = w5.heap.size + 1 := World.size_alloc _ _
  generalize w5.alloc (.cells #[.int .i64 4, .int .i64 2, .int .i64 3, .int .i64 4] 40) = x5 at *
  obtain ⟨rw5, hrw5⟩ : ∃ r, r = w5.heap.size := ⟨_, rfl⟩
  rw [← hrw5] at hn hsx5 ⊢
  have H9 : Hid (Below w.heap.size w x5 ∧ TabW x5 tv tab0 ∧ PartsW x5 ga 3 ca psA ∧ Blk x5 rw3 40 #[.int .i64 0, .int .i64 2, .int .i64 0, .int .i64 2] ∧ Blk x5 rw4 40 #[.int .i64 4, .int .i64 2, .int .i64 2, .int .i64 1] ∧ Blk x5 rw5 40 #[.int .i64 4, .int .i64 2, .int .i64 3, .int .i64 4]) := Lib.hid ⟨below_more H8.out.1 (Nat.le_refl _) hb, H8.out.2.1.below hb, H8.out.2.2.1.below hb, H8.out.2.2.2.1.stays hb, H8.out.2.2.2.2.stays hb, hn⟩
  clear hn hb hrw5
  have hn := Blk.new x5 9 #[.string ⟨#[120]⟩]
  have hb := bx (w := x5) (.cells #[.string ⟨#[120]⟩] 9)
  generalize x5.alloc (.cells #[.string ⟨#[120]⟩] 9) = y5 at *
  rw [hsx5] at hn
  have H10 : Hid (Below w.heap.size w y5 ∧ TabW y5 tv tab0 ∧ PartsW y5 ga 3 ca psA ∧ Blk y5 rw3 40 #[.int .i64 0, .int .i64 2, .int .i64 0, .int .i64 2] ∧ Blk y5 rw4 40 #[.int .i64 4, .int .i64 2, .int .i64 2, .int .i64 1] ∧ Blk y5 rw5 40 #[.int .i64 4, .int .i64 2, .int .i64 3, .int .i64 4]) := Lib.hid ⟨below_more H9.out.1 (Nat.le_refl _) hb, H9.out.2.1.below hb, H9.out.2.2.1.below hb, H9.out.2.2.2.1.stays hb, H9.out.2.2.2.2.1.stays hb, H9.out.2.2.2.2.2.stays hb⟩
  refine (Write_any tv _ tab0 7 [⟨#[120]⟩] er y5 (HR.out.below H10.out.1).err (HR.out.below H10.out.1).ty H10.out.2.1.at_ H10.out.2.1.ints (strs_one hn) (fun b hb _ => by simp only [Value.ownBlock, Option.some.injEq] at hb; rw [← hb]; exact hn.lt) (fun x hx => by rw [List.mem_singleton] at hx; subst hx; decide)).mono ?_
  rw [ex_W]
  rintro e w6 ⟨hB, rfl⟩
  have H11 : Hid (Below w.heap.size w w6 ∧ TabW w6 tv tab0 ∧ PartsW w6 ga 3 ca psA ∧ Blk w6 rw3 40 #[.int .i64 0, .int .i64 2, .int .i64 0, .int .i64 2] ∧ Blk w6 rw4 40 #[.int .i64 4, .int .i64 2, .int .i64 2, .int .i64 1] ∧ Blk w6 rw5 40 #[.int .i64 4, .int .i64 2, .int .i64 3, .int .i64 4]) := Lib.hid ⟨below_more H10.out.1 (Nat.le_refl _) hB, H10.out.2.1.below hB, H10.out.2.2.1.below hB, H10.out.2.2.2.1.stays hB, H10.out.2.2.2.2.1.stays hB, H10.out.2.2.2.2.2.stays hB⟩
  clear hB hn hb
  go_wp2_with fail
  refine (match_ok (n := 6) (HR.out.below H11.out.1) H11.out.2.1 ex_E rfl (by decide)).mono ?_
  rintro e w7 ⟨ge, ce, rfl, hB, hP⟩
  have H12 : Hid (Below w.heap.size w w7 ∧ TabW w7 tv tab0 ∧ PartsW w7 ga 3 ca psA ∧ Blk w7 rw3 40 #[.int .i64 0, .int .i64 2, .int .i64 0, .int .i64 2] ∧ Blk w7 rw4 40 #[.int .i64 4, .int .i64 2, .int .i64 2, .int .i64 1] ∧ Blk w7 rw5 40 #[.int .i64 4, .int .i64 2, .int .i64 3, .int .i64 4] ∧ PartsW w7 ge 6 ce psE) := Lib.hid ⟨below_more H11.out.1 (Nat.le_refl _) hB, H11.out.2.1.below hB, H11.out.2.2.1.below hB, H11.out.2.2.2.1.stays hB, H11.out.2.2.2.2.1.stays hB, H11.out.2.2.2.2.2.stays hB, hP⟩
  clear hB hP
  go_wp2_with fail
  have hn := Blk.new w7 40 #[.int .i64 0, .int .i64 0, .int .i64 0, .int .i64 0]
  have hb := bx (w := w7) (.cells #[.int .i64 0, .int .i64 0, .int .i64 0, .int .i64 0] 40)
  have hsx7 : (w7.alloc (.cells #[.int .i64 0, .int .i64 0, .int .i64 0, .int .i64 0] 40)).heap.size = w7.heap.size + 1 := World.size_alloc _ _
  generalize w7.alloc (.cells #[.int .i64 0, .int .i64 0, .int .i64 0, .int .i64 0] 40) = x7 at *
  have H13 : Hid (Below w.heap.size w x7 ∧ TabW x7 tv tab0 ∧ PartsW x7 ga 3 ca psA ∧ Blk x7 rw3 40 #[.int .i64 0, .int .i64 2, .int .i64 0, .int .i64 2] ∧ Blk x7 rw4 40 #[.int .i64 4, .int .i64 2, .int .i64 2, .int .i64 1] ∧ Blk x7 rw5 40 #[.int .i64 4, .int .i64 2, .int .i64 3, .int .i64 4] ∧ PartsW x7 ge 6 ce psE) := Lib.hid ⟨below_more H12.out.1 (Nat.le_refl _) hb, H12.out.2.1.below hb, H12.out.2.2.1.below hb, H12.out.2.2.2.1.stays hb, H12.out.2.2.2.2.1.stays hb, H12.out.2.2.2.2.2.1.stays hb, H12.out.2.2.2.2.2.2.below hb⟩
  clear hn hb
  have hcat : (⟨#[6]⟩ : ByteArray) ++ (ByteArray.extract ⟨#[5, 77, 90, 0, 1, 120, 37]⟩ 1 7) = ⟨#[6, 77, 90, 0, 1, 120, 37]⟩ := by decide +kernel
  rw [hcat]
  clear hcat
  refine (match_no (HR.out.below H13.out.1) H13.out.2.1 ex_F).mono ?_
  rintro e w8 ⟨rfl, hB⟩
  have H14 : Hid (Below w.heap.size w w8 ∧ TabW w8 tv tab0 ∧ PartsW w8 ga 3 ca psA ∧ Blk w8 rw3 40 #[.int .i64 0, .int .i64 2, .int .i64 0, .int .i64 2] ∧ Blk w8 rw4 40 #[.int .i64 4, .int .i64 2, .int .i64 2, .int .i64 1] ∧ Blk w8 rw5 40 #[.int .i64 4, .int .i64 2, .int .i64 3, .int .i64 4] ∧ PartsW w8 ge 6 ce psE) := Lib.hid ⟨below_more H13.out.1 (Nat.le_refl _) hB, H13.out.2.1.below hB, H13.out.2.2.1.below hB, H13.out.2.2.2.1.stays hB, H13.out.2.2.2.2.1.stays hB, H13.out.2.2.2.2.2.1.stays hB, H13.out.2.2.2.2.2.2.below hB⟩
  clear hB
  go_wp2_with fail
  have hn := Blk.new w8 40 #[.int .i64 6, .int .i64 7, .int .i64 1, .int .i64 4]
  have hb := bx (w := w8) (.cells #[.int .i64 6, .int .i64 7, .int .i64 1, .int .i64 4] 40)
  have hsx8 : (w8.alloc (.cells #[.int .i64 6, .int .i64 7, .int .i64 1, .int .i64 4] 40)).heap.size = w8.heap.size + 1 := World.size_alloc _ _
  generalize w8.alloc (.cells #[.int .i64 6, .int .i64 7, .int .i64 1, .int .i64 4] 40) = x8 at *
  obtain ⟨rw8, hrw8⟩ : ∃ r, r = w8.heap.size := ⟨_, rfl⟩
  rw [← hrw8] at hn hsx8 ⊢
  have H15 : Hid (Below w.heap.size w x8 ∧ TabW x8 tv tab0 ∧ PartsW x8 ga 3 ca psA ∧ Blk x8 rw3 40 #[.int .i64 0, .int .i64 2, .int .i64 0, .int .i64 2] ∧ Blk x8 rw4 40 #[.int .i64 4, .int .i64 2, .int .i64 2, .int .i64 1] ∧ Blk x8 rw5 40 #[.int .i64 4, .int .i64 2, .int .i64 3, .int .i64 4] ∧ PartsW x8 ge 6 ce psE ∧ Blk x8 rw8 40 #[.int .i64 6, .int .i64 7, .int .i64 1, .int .i64 4]) := Lib.hid ⟨below_more H14.out.1 (Nat.le_refl _) hb, H14.out.2.1.below hb, H14.out.2.2.1.below hb, H14.out.2.2.2.1.stays hb, H14.out.2.2.2.2.1.stays hb, H14.out.2.2.2.2.2.1.stays hb, H14.out.2.2.2.2.2.2.below hb, hn⟩
  clear hn hb hrw8
  refine (Write_any tv _ tab0 7 [] er x8 (HR.out.below H15.out.1).err (HR.out.below H15.out.1).ty H15.out.2.1.at_ H15.out.2.1.ints (nil_strs x8) (fun b hb _ => by cases hb) (fun x hx => by cases hx)).mono ?_
  rw [ex_N]
  rintro e w9 ⟨hB, rfl⟩
  have H16 : Hid (Below w.heap.size w w9 ∧ TabW w9 tv tab0 ∧ PartsW w9 ga 3 ca psA ∧ Blk w9 rw3 40 #[.int .i64 0, .int .i64 2, .int .i64 0, .int .i64 2] ∧ Blk w9 rw4 40 #[.int .i64 4, .int .i64 2, .int .i64 2, .int .i64 1] ∧ Blk w9 rw5 40 #[.int .i64 4, .int .i64 2, .int .i64 3, .int .i64 4] ∧ PartsW w9 ge 6 ce psE ∧ Blk w9 rw8 40 #[.int .i64 6, .int .i64 7, .int .i64 1, .int .i64 4]) := Lib.hid ⟨below_more H15.out.1 (Nat.le_refl _) hB, H15.out.2.1.below hB, H15.out.2.2.1.below hB, H15.out.2.2.2.1.stays hB, H15.out.2.2.2.2.1.stays hB, H15.out.2.2.2.2.2.1.stays hB, H15.out.2.2.2.2.2.2.1.below hB, H15.out.2.2.2.2.2.2.2.stays hB⟩
  clear hB
  go_wp2_with fail
  refine (All_any tv tab0 ⟨#[5, 77, 90, 0, 1, 120, 37]⟩ er w9 (HR.out.below H16.out.1).err (HR.out.below H16.out.1).ty H16.out.2.1.at_ H16.out.2.1.ints).mono ?_
  rw [ex_L]
  rintro e wz ⟨vi, rfl, hB, hrow⟩
  obtain ⟨gi, ci, rfl, hi0⟩ : ∃ gi ci, vi = .slice (some ⟨gi, 0, none⟩) 1 ci ∧ wz.cell? ⟨gi, 0, none⟩ = some (.int .i64 7) := by
    rcases hrow.2 with ⟨_, h0⟩ | ⟨g, cap, cur, rfl, _, _, e1, e2, _⟩
    · cases h0
    · exact ⟨g, cap, rfl, (own_cell hrow rfl (i := 0) (by decide)).1⟩
  have H17 : Hid (Below w.heap.size w wz ∧ TabW wz tv tab0 ∧ PartsW wz ga 3 ca psA ∧ Blk wz rw3 40 #[.int .i64 0, .int .i64 2, .int .i64 0, .int .i64 2] ∧ Blk wz rw4 40 #[.int .i64 4, .int .i64 2, .int .i64 2, .int .i64 1] ∧ Blk wz rw5 40 #[.int .i64 4, .int .i64 2, .int .i64 3, .int .i64 4] ∧ PartsW wz ge 6 ce psE ∧ Blk wz rw8 40 #[.int .i64 6, .int .i64 7, .int .i64 1, .int .i64 4]) := Lib.hid ⟨below_more H16.out.1 (Nat.le_refl _) hB, H16.out.2.1.below hB, H16.out.2.2.1.below hB, H16.out.2.2.2.1.stays hB, H16.out.2.2.2.2.1.stays hB, H16.out.2.2.2.2.2.1.stays hB, H16.out.2.2.2.2.2.2.1.below hB, H16.out.2.2.2.2.2.2.2.stays hB⟩
  clear hB hrow
  have ca6 : wz.cell? ⟨ga, 6, none⟩ = some (.int .i64 0) := by rw [H17.out.2.2.1.cell 6 (by decide)]; rfl
  have ca7 : wz.cell? ⟨ga, 7, none⟩ = some (.int .i64 2) := by rw [H17.out.2.2.1.cell 7 (by decide)]; rfl
  have ca8 : wz.cell? ⟨ga, 8, none⟩ = some (.int .i64 1) := by rw [H17.out.2.2.1.cell 8 (by decide)]; rfl
  have ca9 : wz.cell? ⟨ga, 9, none⟩ = some (.int .i64 2) := by rw [H17.out.2.2.1.cell 9 (by decide)]; rfl
  have ca10 : wz.cell? ⟨ga, 10, none⟩ = some (.int .i64 4) := by rw [H17.out.2.2.1.cell 10 (by decide)]; rfl
  have ca11 : wz.cell? ⟨ga, 11, none⟩ = some (.int .i64 1) := by rw [H17.out.2.2.1.cell 11 (by decide)]; rfl
  have ce30 : wz.cell? ⟨ge, 30, none⟩ = some (.int .i64 0) := by rw [H17.out.2.2.2.2.2.2.1.cell 30 (by decide)]; rfl
  have ce31 : wz.cell? ⟨ge, 31, none⟩ = some (.int .i64 7) := by rw [H17.out.2.2.2.2.2.2.1.cell 31 (by decide)]; rfl
  have ce32 : wz.cell? ⟨ge, 32, none⟩ = some (.int .i64 2) := by rw [H17.out.2.2.2.2.2.2.1.cell 32 (by decide)]; rfl
  have ce33 : wz.cell? ⟨ge, 33, none⟩ = some (.int .i64 6) := by rw [H17.out.2.2.2.2.2.2.1.cell 33 (by decide)]; rfl
  have ce34 : wz.cell? ⟨ge, 34, none⟩ = some (.int .i64 7) := by rw [H17.out.2.2.2.2.2.2.1.cell 34 (by decide)]; rfl
  have ce35 : wz.cell? ⟨ge, 35, none⟩ = some (.int .i64 37) := by rw [H17.out.2.2.2.2.2.2.1.cell 35 (by decide)]; rfl
  have rw3_0 : wz.cell? ⟨rw3, 0, none⟩ = some (.int .i64 0) := by rw [H17.out.2.2.2.1.cell]; rfl
  have rw3_1 : wz.cell? ⟨rw3, 1, none⟩ = some (.int .i64 2) := by rw [H17.out.2.2.2.1.cell]; rfl
  have rw3_2 : wz.cell? ⟨rw3, 2, none⟩ = some (.int .i64 0) := by rw [H17.out.2.2.2.1.cell]; rfl
  have rw3_3 : wz.cell? ⟨rw3, 3, none⟩ = some (.int .i64 2) := by rw [H17.out.2.2.2.1.cell]; rfl
  have rw4_0 : wz.cell? ⟨rw4, 0, none⟩ = some (.int .i64 4) := by rw [H17.out.2.2.2.2.1.cell]; rfl
  have rw4_1 : wz.cell? ⟨rw4, 1, none⟩ = some (.int .i64 2) := by rw [H17.out.2.2.2.2.1.cell]; rfl
  have rw4_2 : wz.cell? ⟨rw4, 2, none⟩ = some (.int .i64 2) := by rw [H17.out.2.2.2.2.1.cell]; rfl
  have rw4_3 : wz.cell? ⟨rw4, 3, none⟩ = some (.int .i64 1) := by rw [H17.out.2.2.2.2.1.cell]; rfl
  have rw5_0 : wz.cell? ⟨rw5, 0, none⟩ = some (.int .i64 4) := by rw [H17.out.2.2.2.2.2.1.cell]; rfl
  have rw5_1 : wz.cell? ⟨rw5, 1, none⟩ = some (.int .i64 2) := by rw [H17.out.2.2.2.2.2.1.cell]; rfl
  have rw5_2 : wz.cell? ⟨rw5, 2, none⟩ = some (.int .i64 3) := by rw [H17.out.2.2.2.2.2.1.cell]; rfl
  have rw5_3 : wz.cell? ⟨rw5, 3, none⟩ = some (.int .i64 4) := by rw [H17.out.2.2.2.2.2.1.cell]; rfl
  have rw8_0 : wz.cell? ⟨rw8, 0, none⟩ = some (.int .i64 6) := by rw [H17.out.2.2.2.2.2.2.2.cell]; rfl
  have rw8_1 : wz.cell? ⟨rw8, 1, none⟩ = some (.int .i64 7) := by rw [H17.out.2.2.2.2.2.2.2.cell]; rfl
  have rw8_2 : wz.cell? ⟨rw8, 2, none⟩ = some (.int .i64 1) := by rw [H17.out.2.2.2.2.2.2.2.cell]; rfl
  have rw8_3 : wz.cell? ⟨rw8, 3, none⟩ = some (.int .i64 4) := by rw [H17.out.2.2.2.2.2.2.2.cell]; rfl
  go_wp2_with fail
  refine (Number_any ⟨#[5, 77, 90, 0, 1, 120, 37]⟩ 0 7 2 6 7 37 wz (by decide)).mono ?_
  rw [ex_P]
  rintro e wy ⟨rfl, hB⟩
  have HE := Lib.hid (below_more H17.out.1 (Nat.le_refl _) hB)
  clear hB
  go_wp2_with fail
  first | go_end0 | go_ret
  exact ⟨rfl, HE.out⟩
end SanB
end Go.Proofs.YtdndmhlmbpgdeaaGreatDoor
