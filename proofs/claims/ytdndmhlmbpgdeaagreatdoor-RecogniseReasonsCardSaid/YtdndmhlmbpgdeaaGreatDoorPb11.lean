/- The sums of the stream that is being written; a checksum is laid. Conditions: the writer lies in memory, the checksum lies in the stream, nothing behind its place has been summed. A value is written, by induction over the formats. Conditions: the writer lies in memory, the formats are valid, the values are short. A value is recognised, by induction over the formats. Conditions: as for its fields. build, Valid and Least. Conditions: the list is readable; its numbers are ints; the variable of the error holds a pointer. -/
import Derived.Test.YtdndmhlmbpgdeaaGreatDoorPb01
import Derived.Test.YtdndmhlmbpgdeaaGreatDoorPb10
import Derived.Test.YtdndmhlmbpgdeaaGreatDoorPb06
namespace Go.Proofs.YtdndmhlmbpgdeaaGreatDoor
section WrQ
open Go.RowKit Fx Rec

set_option maxRecDepth 20000 in
set_option maxHeartbeats 600000 in
theorem wat_any {xb wb g n c i : Nat} {B : Int} (W : World) (hx : W.cell? ⟨xb, 0, none⟩ = some (ptr wb)) (h4 : W.cell? ⟨wb, 4, none⟩ = some (.slice (some ⟨g, 0, none⟩) n c)) (hi : i < n) (hb : W.cell? ⟨g, i, none⟩ = some (.int .u8 B)) :
    Calls Tryz.prog 76 #[.int .i64 i, ptr xb] W fun e w' => e = .returned (.int .u8 B) ∧ w' = W := by
  have hi2 : (0 : Int) ≤ (i : Int) ∧ (i : Int) < (n : Int) := by omega
  go_enter Tryz.func76, Tryz.ntmps76
  go_wp2_with fail
  first | go_end0 | go_ret
  exact ⟨rfl, rfl⟩
theorem enters_wat : Enters 76 := fun args w => by
  simp [callFunc, Tryz.func76, Tryz.f76]
theorem bytesV_at {l : List UInt8} {i : Nat} (h : i < l.length) : (bytesV l)[i]? = some (.int .u8 (byteAt (bytesOf l) i)) := by
  have hs : (bytesOf l).size = l.length := by simp [bytesOf, ByteArray.size]
  unfold bytesV byteAt
  rw [dif_pos (by rw [hs]; exact h), List.getElem?_map, List.getElem?_eq_getElem h]
  rfl
theorem sumOf_eq (st : List UInt8) (n : Nat) : sumOf st n = sumTo (bytesOf st) n := (sumTo_bytes st n).symm
theorem bytesOf_size (l : List UInt8) : (bytesOf l).size = l.length := by simp [bytesOf, ByteArray.size]
section
variable {w w' : World} {o : Wo} {top : Nat} {L : List Fm} {σ : Ws} {k : Nat}
theorem wsum_any (n : Nat) (h : WrAt w o top L σ k) (hn : n ≤ σ.st.length) :
    Calls Tryz.prog 93 #[.int .i64 n, ptr o.sb, ptr o.ab] w fun e w' => e = .returned (.int .i64 (sumTo (bytesOf σ.st) n)) ∧ StepW o NoX w w' ∧ (∃ k', (k' = k ∨ k' = n) ∧ WrAt w' o top L σ k') ∧ w'.cell? ⟨o.wb, 6, none⟩ = w.cell? ⟨o.wb, 6, none⟩ := by
  obtain ⟨hf, vv, vst, vch, vs, chs, hm⟩ := h
  have hsb := hm.sums.sb
  have hle := hm.len
  have hkl := hm.kle
  refine (sum_any (fun q => q < w.heap.size ∧ q ≠ o.sb ∧ vs.ownBlock ≠ some q) _ #[ptr o.xb] (sumTo (bytesOf σ.st)) (byteAt (bytesOf σ.st)) o.sb o.ab k n vs w hm.sums enters_wat (adds_of _) (by omega) (by omega) ?_ ?_ ?_ ?_ ?_).mono ?_
  · exact fun h => h.2.1 rfl
  · exact fun g hg h => h.2.2 hg
  · exact fun g h => h.1
  · exact ⟨hf.sa.1.lt, Blk.ne_ hm.sums.ab hsb (by decide), fun h => own_ne hm.sums.row hm.sums.ab (by decide) h rfl⟩
  · intro W i hk h1 h2
    obtain ⟨g, c, rfl, -, -⟩ := hm.row_ (by omega)
    have wx : W.heap[o.xb]? = w.heap[o.xb]? := hk.block _ ⟨hf.sx.1.lt, Blk.ne_ hf.xb hsb (by decide), fun h => own_ne hm.sums.row hf.xb (by decide) h rfl⟩
    have ww : W.heap[o.wb]? = w.heap[o.wb]? := hk.block _ ⟨hm.blk.lt, fun e => hm.sb_wb e.symm, hm.vs_wb⟩
    have wg : W.heap[g]? = w.heap[g]? := hk.block _ ⟨own_lt hm.st rfl, own_blk_ne hm.st hsb (by decide) |> fun h e => h (by rw [← e]; rfl), fun h => own_own_ne hm.st hm.sums.row (by decide) rfl h rfl⟩
    have hbx : Blk W o.xb 90 #[ptr o.wb] := wx.trans hf.xb
    have hbw : Blk W o.wb 122 _ := ww.trans hm.blk
    refine wat_any W (by rw [hbx.cell]; rfl) (by rw [hbw.cell]; rfl) (show i < σ.st.length by omega) ?_
    rw [World.cell?_of_block (w := w) wg, (own_cell hm.st rfl (i := i) (by omega)).1]
    exact bytesV_at (by omega)
  · rintro e w' ⟨rfl, hk, k', vs', hkk, hs, hv⟩
    have hblk : Blk w' o.wb 122 _ := (hk.block _ ⟨hm.blk.lt, fun e => hm.sb_wb e.symm, hm.vs_wb⟩).trans hm.blk
    have own : ∀ q, OwnW w' o q → OwnW w o q ∨ w.heap.size ≤ q := fun q h => by
      rcases (own_iff hblk hs.sb q).1 h with h | h | h | h | h
      · exact .inl ((hm.own_ q).2 (.inl h))
      · exact .inl ((hm.own_ q).2 (.inr (.inl h)))
      · exact .inl ((hm.own_ q).2 (.inr (.inr (.inl h))))
      · exact .inl ((hm.own_ q).2 (.inr (.inr (.inr (.inl h)))))
      · by_cases hq : q < w.heap.size
        · refine .inl ((hm.own_ q).2 ?_)
          by_cases h1 : q = o.sb
          · exact .inr (.inl h1)
          · by_cases h2 : vs.ownBlock = some q
            · exact .inr (.inr (.inr (.inr h2)))
            · exact absurd ⟨hq, h1, h2⟩ (hv q h)
        · exact .inr (by omega)
    have hst : StepW o NoX w w' := StepW.make (hk.mono fun q hq => ⟨hq.lt, fun e => hq.no ((hm.own_ q).2 (.inr (.inl e))), fun e => hq.no ((hm.own_ q).2 (.inr (.inr (.inr (.inr e)))))⟩) own
    refine ⟨rfl, hst, ⟨k', hkk.2.2, hf.step hst (fun _ h => h.elim), vv, vst, vch, vs', chs, { hm with blk := hblk, vals := hm.vals.step fun b h1 h2 => hst.same (hm.sv b h1 h2).1, sv := fun b h1 h2 => ⟨hst.safe _ (hm.sv b h1 h2).1, (hm.sv b h1 h2).2⟩, st := ?_, sums := hs, kle := by omega, ch := ?_, chks := fun i hi => (hm.chks i hi).step hst }⟩, by rw [hblk.cell, hm.blk.cell]⟩
    · exact own_keep hm.st fun g cur hg _ => hk.block _ ⟨own_lt hm.st hg, fun e => own_blk_ne hm.st hsb (by decide) (e ▸ hg), fun h => own_own_ne hm.st hm.sums.row (by decide) hg h rfl⟩
    · exact own_keep hm.ch fun g cur hg _ => hk.block _ ⟨own_lt hm.ch hg, fun e => own_blk_ne hm.ch hsb (by decide) (e ▸ hg), fun h => own_own_ne hm.ch hm.sums.row (by decide) hg h rfl⟩
theorem WrAt.sumF_ (h : WrAt w o top L σ k) : w.cell? ⟨o.wb, 5, none⟩ = some (sumW o) := by
  obtain ⟨_, _, _, _, _, _, hm⟩ := h
  rw [hm.blk.cell]; rfl
theorem sumTo_up {l : List UInt8} {a b : Nat} (h : a ≤ b) (hl : b ≤ 65536) : sumTo (bytesOf l) a ≤ sumTo (bytesOf l) b ∧ 0 ≤ sumTo (bytesOf l) a ∧ sumTo (bytesOf l) b ≤ 100000000 := by
  have h1 := sumTo_mono (bytesOf l) h
  have h2 := sumTo_bound (bytesOf l) a
  have h3 := sumTo_bound (bytesOf l) b
  omega
set_option maxRecDepth 20000 in
set_option maxHeartbeats 1000000 in
theorem chk_any (h : WrAt w o top L σ k) {g0 g1 g2 g3 g4 a st0 m : Nat} (hc : ChkAt w o (.func (.func 102) #[] #[ptr g0, ptr g1, ptr g2, ptr g3, ptr g4]) (st0, a, m)) (c1 : st0 ≤ a) (m1 : 1 ≤ m) (m3 : m ≤ 3) (ha : a + m ≤ σ.st.length) (hk : k ≤ a) :
    Calls Tryz.prog 102 #[ptr g0, ptr g1, ptr g2, ptr g3, ptr g4] w fun e w' => e = .returned (.tuple #[]) ∧ StepW o NoX w w' ∧ (∃ k', k' ≤ a ∧ WrAt w' o top L { σ with st := lay1 σ.st (st0, a, m) } k') ∧ w'.cell? ⟨o.wb, 6, none⟩ = w.cell? ⟨o.wb, 6, none⟩ := by
  obtain ⟨g0', g1', g2', g3', g4', db, u, f, he, hu, ⟨b0, s0⟩, ⟨b1, s1⟩, ⟨b2, s2⟩, ⟨b3, s3⟩, ⟨b4, hfn, s4⟩, c5, s5⟩ := hc
  obtain ⟨rfl, rfl, rfl, rfl, rfl⟩ : g0 = g0' ∧ g1 = g1' ∧ g2 = g2' ∧ g3 = g3' ∧ g4 = g4' := by simpa using he
  have hlen : σ.st.length ≤ 65536 := by obtain ⟨_, _, _, _, _, _, hm⟩ := h; exact hm.len
  have HF : Hid (∀ W, (StepW o NoX w W ∧ ∃ σ' k', WrAt W o top L σ' k') → W.cell? ⟨g0, 0, none⟩ = some u ∧ W.cell? ⟨g1, 0, none⟩ = some (ptr o.wb) ∧ W.cell? ⟨o.wb, 5, none⟩ = some (sumW o) ∧ W.cell? ⟨g2, 0, none⟩ = some (.int .i64 (a : Nat)) ∧
      W.cell? ⟨g3, 0, none⟩ = some (ptr db) ∧ W.cell? ⟨db, 2, none⟩ = some (.int .i64 (st0 : Nat)) ∧ W.cell? ⟨g4, 1, none⟩ = some (.int .i64 (m : Nat))) := Lib.hid fun W hS => by
    obtain ⟨hs, σ', k', hw⟩ := hS
    refine ⟨?_, ?_, hw.sumF_, ?_, ?_, ?_, ?_⟩
    · rw [World.cell?_of_block (w := w) (hs.same s0), b0.cell]; rfl
    · rw [World.cell?_of_block (w := w) (hs.same s1), b1.cell]; rfl
    · rw [World.cell?_of_block (w := w) (hs.same s2), b2.cell]; rfl
    · rw [World.cell?_of_block (w := w) (hs.same s3), b3.cell]; rfl
    · rw [World.cell?_of_block (w := w) (hs.same s5)]; exact c5
    · rw [World.cell?_of_block (w := w) (hs.same s4), b4.cell, ← show f.n = ((m : Nat) : Int) from hfn]; rfl
  have HS0 : Hid (StepW o NoX w w.drew ∧ ∃ k', k' ≤ a ∧ WrAt w.drew o top L σ k') := Lib.hid (by
    obtain ⟨t1, -, t3⟩ := h.below (drewN_below w 1)
    exact ⟨t1, k, hk, t3⟩)
  have HU := Lib.hid hu
  obtain ⟨xa, ya, za, rfl, -⟩ := hu
  obtain ⟨A, hA⟩ : ∃ A, A = sumTo (bytesOf σ.st) a := ⟨_, rfl⟩
  obtain ⟨B, hB⟩ : ∃ B, B = sumTo (bytesOf σ.st) st0 := ⟨_, rfl⟩
  obtain ⟨M, hM⟩ : ∃ M, M = pow (m : Int) := ⟨_, rfl⟩
  have hbb := sumTo_up (l := σ.st) c1 (show a ≤ 65536 by omega)
  rw [← hA, ← hB] at hbb
  have hpp := pow_pos (n := (m : Int)) (by omega) (by omega)
  rw [← hM] at hpp
  obtain ⟨D, hD⟩ : ∃ D, D = A - B := ⟨_, rfl⟩
  obtain ⟨R, hR⟩ : ∃ R, R = D % M := ⟨_, rfl⟩
  have hw1 : IntKind.i64.wrap (A - B) = D := by rw [wr64 (by omega) (by omega)]; exact hD.symm
  have hM0 : ¬ M = 0 := by omega
  have hRb : 0 ≤ R ∧ R < M := by rw [hR]; exact ⟨Int.emod_nonneg _ hM0, Int.emod_lt_of_pos _ hpp.1⟩
  have hw2 : D.tmod M = R := by rw [Int.tmod_eq_emod_of_nonneg (by omega), hR]
  have hw3 : IntKind.i64.wrap R = R := wr64 (by omega) (by omega)
  have HR9 : Hid (0 ≤ R ∧ R ≤ 100000000) := Lib.hid (by omega)
  have HFILL : Hid (fill σ (a, m) R = some { σ with st := lay1 σ.st (st0, a, m) }) := Lib.hid (by
    have e1 := (pow_nat m1 m3).1
    unfold fill lay1
    rw [if_pos (show R < 256 ^ m by rw [← e1, ← hM]; exact hRb.2)]
    simp only [sumOf_eq]
    rw [hR, hD, hA, hB, hM, e1])
  have HQ := Lib.hid (And.intro hA.symm (And.intro hB.symm hM.symm))
  have HB := Lib.hid (And.intro c1 (And.intro m1 (And.intro m3 (And.intro ha hk))))
  clear he b0 b1 b2 b3 b4 s0 s1 s2 s3 s4 s5 c5 hfn h hA hB hM hD hR hbb hpp hRb
  go_enter Tryz.func102, Tryz.ntmps102
  go_wp2_with fail
  refine wp_region_held_drew (S := (fun W : World => W.cell? ⟨g0, 0, none⟩ = some (.func (.func 110) #[] #[ptr xa, ptr ya, ptr za]) ∧ W.cell? ⟨g1, 0, none⟩ = some (ptr o.wb) ∧ W.cell? ⟨o.wb, 5, none⟩ = some (sumW o) ∧ W.cell? ⟨g2, 0, none⟩ = some (.int .i64 (a : Nat)) ∧ W.cell? ⟨g3, 0, none⟩ = some (ptr db) ∧ W.cell? ⟨db, 2, none⟩ = some (.int .i64 (st0 : Nat)) ∧ W.cell? ⟨g4, 1, none⟩ = some (.int .i64 (m : Nat)))) (by kernel_rfl) (HF.out _ ⟨HS0.out.1, σ, HS0.out.2.imp fun _ h => h.2⟩) (fun hHeld => ?_)
  refine takeH 0 (y := by intro wS hSw; obtain ⟨s0, s1, s2, s3, s4, s5, s6⟩ := hSw; go_simp; (try with_reducible rfl)) (h := ?_)
  (try simp only [pA, pB, pC, pD])
  refine takeH 1 (y := by intro wS hSw; obtain ⟨s0, s1, s2, s3, s4, s5, s6⟩ := hSw; go_simp; (try with_reducible rfl)) (h := ?_)
  (try simp only [pA, pB, pC, pD])
  refine takeH 2 (y := by intro wS hSw; obtain ⟨s0, s1, s2, s3, s4, s5, s6⟩ := hSw; go_simp; (try with_reducible rfl)) (h := ?_)
  (try simp only [pA, pB, pC, pD])
  refine takeH 3 (y := by intro wS hSw; obtain ⟨s0, s1, s2, s3, s4, s5, s6⟩ := hSw; go_simp; (try with_reducible rfl)) (h := ?_)
  (try simp only [pA, pB, pC, pD])
  refine takeH 4 (y := by intro wS hSw; obtain ⟨s0, s1, s2, s3, s4, s5, s6⟩ := hSw; go_simp; (try with_reducible rfl)) (h := ?_)
  (try simp only [pA, pB, pC, pD])
  refine takeH 5 (y := by intro wS hSw; obtain ⟨s0, s1, s2, s3, s4, s5, s6⟩ := hSw; go_simp; (try with_reducible rfl)) (h := ?_)
  (try simp only [pA, pB, pC, pD])
  refine takeH 7 (y := by intro wS hSw; obtain ⟨s0, s1, s2, s3, s4, s5, s6⟩ := hSw; go_simp; (try with_reducible rfl)) (h := ?_)
  (try simp only [pA, pB, pC, pD])
  refine takeH 8 (y := by intro wS hSw; obtain ⟨s0, s1, s2, s3, s4, s5, s6⟩ := hSw; go_simp; (try with_reducible rfl)) (h := ?_)
  (try simp only [pA, pB, pC, pD])
  refine takeH 9 (y := by intro wS hSw; obtain ⟨s0, s1, s2, s3, s4, s5, s6⟩ := hSw; go_simp; (try with_reducible rfl)) (h := ?_)
  (try simp only [pA, pB, pC, pD])
  refine takeH 10 (y := by intro wS hSw; obtain ⟨s0, s1, s2, s3, s4, s5, s6⟩ := hSw; go_simp; (try with_reducible rfl)) (h := ?_)
  (try simp only [pA, pB, pC, pD])
  refine takeH 11 (y := by intro wS hSw; obtain ⟨s0, s1, s2, s3, s4, s5, s6⟩ := hSw; go_simp; (try with_reducible rfl)) (h := ?_)
  (try simp only [pA, pB, pC, pD])
  refine takeH 12 (y := by intro wS hSw; obtain ⟨s0, s1, s2, s3, s4, s5, s6⟩ := hSw; go_simp; (try with_reducible rfl)) (h := ?_)
  (try simp only [pA, pB, pC, pD])
  refine takeH 13 (y := by intro wS hSw; obtain ⟨s0, s1, s2, s3, s4, s5, s6⟩ := hSw; go_simp; (try with_reducible rfl)) (h := ?_)
  (try simp only [pA, pB, pC, pD])
  refine takeH 14 (y := by intro wS hSw; obtain ⟨s0, s1, s2, s3, s4, s5, s6⟩ := hSw; go_simp; (try with_reducible rfl)) (h := ?_)
  (try simp only [pA, pB, pC, pD])
  refine takeH 17 (y := by intro wS hSw; obtain ⟨s0, s1, s2, s3, s4, s5, s6⟩ := hSw; go_simp; (try with_reducible rfl)) (h := ?_)
  (try simp only [pA, pB, pC, pD])
  refine takeH 18 (y := by intro wS hSw; obtain ⟨s0, s1, s2, s3, s4, s5, s6⟩ := hSw; go_simp; (try with_reducible rfl)) (h := ?_)
  (try simp only [pA, pB, pC, pD])
  refine wpAnyH_ready (rs := [6]) (by kernel_rfl) (by simp) ?_
  refine AllReadyH.cons (o := ?oB17) ?hB17 ?kB17 AllReadyH.nil
  case hB17 => (simp only [List.getElem?_toArray, List.getElem?_cons_zero, List.getElem?_cons_succ]; rfl)
  case kB17 =>
    intro K hK
    go_simp
    obtain ⟨hs5, k5, hk5, hw5⟩ := HS0.out
    have hq := HB.out
    refine (wsum_any a hw5 (by omega)).mono ?_
    rintro e w6 ⟨rfl, hs6, ⟨k6, hk6, hw6⟩, hc6⟩
    rw [HQ.out.1]
    have hH6 : StepW o NoX w w6 ∧ ∃ k', k' ≤ a ∧ WrAt w6 o top L σ k' := ⟨hs5.trans hs6, k6, by omega, hw6⟩
    clear hs5 hw5 hs6 hw6 hk5 hk6 hq
    refine hK.out _ _ (HF.out _ ⟨hH6.1, σ, hH6.2.imp fun _ h => h.2⟩) (fun _ => ?_)
    clear hK K
    (try simp only [pA, pB, pC, pD])
    refine wpAnyH_ready (rs := [15]) (by kernel_rfl) (by simp) ?_
    refine AllReadyH.cons (o := ?oB18) ?hB18 ?kB18 AllReadyH.nil
    case hB18 => (simp only [List.getElem?_toArray, List.getElem?_cons_zero, List.getElem?_cons_succ]; rfl)
    case kB18 =>
      intro K hK
      go_simp
      obtain ⟨hs6, k6, hk6, hw6⟩ := hH6
      have hq := HB.out
      refine (wsum_any st0 hw6 (by omega)).mono ?_
      rintro e w7 ⟨rfl, hs7, ⟨k7, hk7, hw7⟩, hc7⟩
      rw [HQ.out.2.1]
      have hH7 : StepW o NoX w w7 ∧ ∃ k', k' ≤ a ∧ WrAt w7 o top L σ k' := ⟨hs6.trans hs7, k7, by omega, hw7⟩
      clear hs6 hw6 hs7 hw7 hk6 hk7 hq
      refine hK.out _ _ (HF.out _ ⟨hH7.1, σ, hH7.2.imp fun _ h => h.2⟩) (fun _ => ?_)
      clear hK K
      (try simp only [pA, pB, pC, pD])
      refine takeH 16 (y := by intro wS hSw; obtain ⟨s0, s1, s2, s3, s4, s5, s6⟩ := hSw; go_simp; (try with_reducible rfl)) (h := ?_)
      (try simp only [pA, pB, pC, pD])
      refine wpAnyH_ready (rs := [19]) (by kernel_rfl) (by simp) ?_
      refine AllReadyH.cons (o := ?oB20) ?hB20 ?kB20 AllReadyH.nil
      case hB20 => (simp only [List.getElem?_toArray, List.getElem?_cons_zero, List.getElem?_cons_succ]; rfl)
      case kB20 =>
        intro K hK
        go_simp
        have hq := HB.out
        refine (power_any (m : Int) w7 (by omega) (by omega)).mono ?_
        rintro e w8 ⟨rfl, rfl⟩
        rw [HQ.out.2.2]
        clear hq
        refine hK.out _ _ (HF.out _ ⟨hH7.1, σ, hH7.2.imp fun _ h => h.2⟩) (fun _ => ?_)
        clear hK K
        (try simp only [pA, pB, pC, pD])
        refine takeH 20 (y := by intro wS hSw; obtain ⟨s0, s1, s2, s3, s4, s5, s6⟩ := hSw; go_simp; (try with_reducible rfl)) (h := ?_)
        (try simp only [pA, pB, pC, pD])
        refine wpAnyH_ready (rs := [21]) (by kernel_rfl) (by simp) ?_
        refine AllReadyH.cons (o := ?oB22) ?hB22 ?kB22 AllReadyH.nil
        case hB22 => (simp only [List.getElem?_toArray, List.getElem?_cons_zero, List.getElem?_cons_succ]; rfl)
        case kB22 =>
          intro K hK
          go_simp
          obtain ⟨hs8, k8, hk8, hw8⟩ := hH7
          have hq := HB.out
          refine (laid6_any hw8 (HU.out.step hs8) (by omega) (by omega) (by omega) hk8 R HR9.out.1 HR9.out.2).mono ?_
          rw [HFILL.out]
          rintro e w9 ⟨⟨hs9, rfl, hw9⟩, hc9⟩
          have HY := Lib.hid (And.intro (hs8.trans hs9) (And.intro hk8 hw9))
          clear hs8 hw8 hq hs9 hw9 hk8
          refine hK.out _ _ (HF.out _ ⟨HY.out.1, _, _, HY.out.2.2⟩) (fun _ => ?_)
          clear hK K
          (try simp only [pA, pB, pC, pD])
          refine wpAnyH_done (by kernel_rfl) ?_ _
          go_wp2_with fail
          first | go_end0 | go_ret
          exact ⟨rfl, HY.out.1, ⟨k8, HY.out.2.1, HY.out.2.2⟩, (hc9.trans hc7).trans hc6⟩
end
end WrQ
section WrR
open Go.RowKit Fx Rec

theorem enters_w_literal : Enters 77 := fun args w => by simp [callFunc, Tryz.func77, Tryz.f77]
theorem enters_w_number : Enters 78 := fun args w => by simp [callFunc, Tryz.func78, Tryz.f78]
theorem enters_w_bytes : Enters 79 := fun args w => by simp [callFunc, Tryz.func79, Tryz.f79]
theorem enters_w_list : Enters 80 := fun args w => by simp [callFunc, Tryz.func80, Tryz.f80]
theorem enters_w_inside : Enters 81 := fun args w => by simp [callFunc, Tryz.func81, Tryz.f81]
theorem enters_w_check : Enters 82 := fun args w => by simp [callFunc, Tryz.func82, Tryz.f82]
section
variable {w w' w1 : World} {o : Wo} {top db : Nat} {fs : List Fld} {u : Value} {j st0 : Nat} {d : Dr} {cs : List Value} {L : List Fm} {σ : Ws} {f : Fld} {k N : Nat}
theorem wkind_any (h : WrAt w o top L σ 0) (hd : DrAt w o top db fs u j st0 d cs) (hj : d.counts.length = j) (h16 : j < 16) (hin : WIn fs st0 d σ) (hc : σ.checks.length < σ.parts) (hfk : FOkW L N fs j f) (hf : f = fs.getD j zf) (hC : ∀ id i, At L id i → i < N → WSubC o top L (wval L N) id) :
    ∃ fn, lkV (kindsW o.wb) f.kind = some (.func (.func fn) #[ptr o.wb] #[]) ∧ Enters fn ∧ Calls Tryz.prog fn #[ptr o.wb, ptr db, fldV f] w fun e w' => KW w o top L 0 db fs u j st0 d (wkind (wval L N) fs st0 j f d σ) e w' := by
  have h1 := hfk.ok.lo
  have h2 := hfk.ok.hi
  have hl := hd.cl
  have hp : σ.parts ≤ 5000 := by obtain ⟨_, _, _, _, _, _, hm⟩ := h; exact hm.pl
  unfold wkind
  obtain e | e | e | e | e | e : f.kind = 1 ∨ f.kind = 2 ∨ f.kind = 3 ∨ f.kind = 4 ∨ f.kind = 5 ∨ f.kind = 6 := by omega
  · refine ⟨_, by rw [e]; rfl, enters_w_literal, ?_⟩
    rw [if_pos e]
    exact kw_literal h hd hj hf e (hfk.ok.k1 e)
  · refine ⟨_, by rw [e]; rfl, enters_w_number, ?_⟩
    rw [if_neg (by omega), if_pos e]
    exact kw_number h hd hj h16 (hfk.ok.k2 (.inl e)).1 (hfk.ok.k2 (.inl e)).2
  · refine ⟨_, by rw [e]; rfl, enters_w_bytes, ?_⟩
    rw [if_neg (by omega), if_neg (by omega), if_pos e]
    refine kw_bytes h hd hj hf e ?_ hin.room hin.tame.short
    rcases hfk.k3 e with h3 | ⟨q, q1, q2, q3, q4, q5⟩
    · exact .inl h3
    · exact .inr ⟨q, q1, by omega, q4, q5, q3⟩
  · refine ⟨_, by rw [e]; rfl, enters_w_list, ?_⟩
    rw [if_neg (by omega), if_neg (by omega), if_neg (by omega), if_pos e]
    obtain ⟨⟨q, e1, hq⟩, i, hi, hiN⟩ := hfk.ok.k4 (.inl e)
    exact kw_list h hd hj hf e q e1 hq hin.small hin.tame (hC _ i hi hiN)
  · refine ⟨_, by rw [e]; rfl, enters_w_inside, ?_⟩
    rw [if_neg (by omega), if_neg (by omega), if_neg (by omega), if_neg (by omega), if_pos e]
    obtain ⟨-, i, hi, hiN⟩ := hfk.ok.k4 (.inr e)
    obtain ⟨q, q1, q2, q3, q4, q5⟩ := hfk.k5 e
    exact kw_inside h hd hj hf e q ⟨q1, by omega, q4, q5, q3⟩ hin.room hin.tame (hC _ i hi hiN)
  · refine ⟨_, by rw [e]; rfl, enters_w_check, ?_⟩
    rw [if_neg (by omega), if_neg (by omega), if_neg (by omega), if_neg (by omega), if_neg (by omega)]
    exact kw_check h hd hj hf e (hfk.ok.k2 (.inr e)).1 (hfk.ok.k2 (.inr e)).2 (by omega)
/-- A block that was not there is not safe. -/
theorem StepW.inner (h1 : StepW o NoX w w1) (h2 : StepW o (At1 db) w1 w') (hd : w.heap.size ≤ db) : StepW o NoX w w' :=
  ⟨h1.base.trans (h2.base.mono fun q hq => ⟨h1.safe q hq.1, fun e => by
    have h3 := hq.1.lt
    have h4 : q = db := e
    omega⟩), fun q hq => h2.safe q (h1.safe q hq), fun _ _ h => h.elim⟩
/-- The number of the field is written. -/
theorem DrAt.field_ (h : DrAt w o top db fs u j st0 d cs) (hw : WrAt w o top L σ k) (i : Nat) :
    StepW o (At1 db) w (w.setCell ⟨db, 1, none⟩ (.int .i64 (i : Nat))) ∧ WrAt (w.setCell ⟨db, 1, none⟩ (.int .i64 (i : Nat))) o top L σ k ∧ DrAt (w.setCell ⟨db, 1, none⟩ (.int .i64 (i : Nat))) o top db fs u i st0 d cs := by
  obtain ⟨h1, h2, h3⟩ := hw.draft_ h.safe h.top_ h.blk 1 (.int .i64 (i : Nat)) (by decide)
  have hX : ∀ q, At1 db q → top ≤ q := fun q hq => hq ▸ h.top_
  refine ⟨h1, h2, { h with blk := h.blk.set_ 1 _, lens := fun q q1 q2 q3 => ?_, flds := h.flds.keep h1.base.size fun b hb => h1.old hX (h.ub b hb), ub := fun b hb => ⟨h3 _ (h.ub b hb).1, (h.ub b hb).2⟩, safe := h3 _ h.safe }⟩
  obtain ⟨x, e1, e2⟩ := h.lens q q1 q2 q3
  exact ⟨x, e1, e2.step h1⟩
/-- A field has begun. -/
theorem WrAt.part_ (h : WrAt w o top L σ k) (hp : σ.parts < 5000) : (w.cell? ⟨o.wb, 3, none⟩ = some (.int .i64 (σ.parts : Nat)) ∧ w.frozen? ⟨o.wb, 3, none⟩ = false) ∧
    StepW o NoX w (w.setCell ⟨o.wb, 3, none⟩ (.int .i64 ((σ.parts + 1 : Nat) : Int))) ∧ WrAt (w.setCell ⟨o.wb, 3, none⟩ (.int .i64 ((σ.parts + 1 : Nat) : Int))) o top L { σ with parts := σ.parts + 1 } k := by
  obtain ⟨hf, vv, vst, vch, vs, chs, hm⟩ := h
  have hP := hm.poke (σ' := { σ with parts := σ.parts + 1 }) (Below.refl _ _) 3 (.int .i64 ((σ.parts + 1 : Nat) : Int)) (vv' := vv) (hm.blk.set_ 3 _) rfl rfl hm.vals hm.sv (by show σ.parts + 1 ≤ 5000; omega)
  exact ⟨⟨by rw [hm.blk.cell]; rfl, hm.blk.frozen 3⟩, hP.1, hf.step hP.1 (fun _ h => h.elim), _, _, _, _, _, hP.2⟩
theorem WrAt.parts_ (h : WrAt w o top L σ k) : w.cell? ⟨o.wb, 3, none⟩ = some (.int .i64 (σ.parts : Nat)) ∧ o.wb < w.heap.size ∧ σ.parts ≤ 5000 := by
  obtain ⟨hf, vv, vst, vch, vs, chs, hm⟩ := h
  exact ⟨by rw [hm.blk.cell]; rfl, hm.blk.lt, hm.pl⟩
theorem WrAt.maps_ (h : WrAt w o top L σ k) : w.cell? ⟨o.wb, 0, none⟩ = some (.map (some o.fb)) ∧ w.cell? ⟨o.wb, 1, none⟩ = some (.map (some o.kb)) := by
  obtain ⟨hf, vv, vst, vch, vs, chs, hm⟩ := h
  exact ⟨by rw [hm.blk.cell]; rfl, by rw [hm.blk.cell]; rfl⟩
theorem wflds_at {sub : WSub} {fs : List Fld} {start k : Nat} {d : Dr} {σ : Ws} (hk : k < fs.length) : wflds sub fs start (fs.drop k) k d σ = (wnext sub fs start k (fs.getD k zf) d σ).bind fun p => wflds sub fs start (fs.drop (k + 1)) (k + 1) ⟨d.counts ++ [p.1], d.lens ++ [p.2.1]⟩ p.2.2 := by
  rw [List.drop_eq_getElem_cons hk, wflds, show fs[k] = fs.getD k zf by rw [List.getD_eq_getElem?_getD, List.getElem?_eq_getElem hk]; rfl]
end
set_option maxRecDepth 20000 in
set_option maxHeartbeats 4000000 in
theorem wval_step (o : Wo) (top : Nat) (L : List Fm) (n : Nat) (hok : Ok L) (hC : ∀ id i, At L id i → i < n → WSubC o top L (wval L n) id) (id : Int) (i : Nat) (hat : At L id i) (hin : i < n + 1) : WSubC o top L (wval L (n + 1)) id := by
  refine ⟨fun w σ h ht => ?_, wval_grows hok (n + 1) id i hat hin⟩
  obtain ⟨fs, hfs⟩ : ∃ fs, fs = (L.getD i zm).fs := ⟨_, rfl⟩
  have hfo : fieldsOf L id = fs := by rw [hfs]; exact fieldsOf_at hok hat
  have hfok : ∀ k, k < fs.length → FOkW L n fs k (fs.getD k zf) := fun k hk => by rw [hfs] at hk ⊢; exact fokw_of hok hat.1 (by omega) hk
  have hfm := hok.each i hat.1
  have hsome := hfm.some_
  have hfew := hfm.few
  rw [← hfs] at hsome hfew
  have hflds := h.1.flds i hat.1
  have hub := fun b hb => h.1.su i b hat.1 hb
  rw [← hfs] at hflds
  obtain ⟨u, hu⟩ : ∃ u, u = o.us.getD i undef := ⟨_, rfl⟩
  rw [← hu] at hflds hub
  obtain ⟨ua, uc, rfl, hul⟩ := hflds.slice_
  obtain ⟨m, hm⟩ : ∃ m, m = fs.length := ⟨_, rfl⟩
  rw [← hm] at hsome hfew hul hu hub
  have hlk : lkV (fieldsE L o.us) id = some (.slice ua m uc) := by rw [hu]; exact fieldsE_at hok h.1.ul hat
  obtain ⟨ub, uo, rfl, -, -, -, hum, -⟩ := hflds.at_ (by omega)
  obtain ⟨sa, sc, c4, hle⟩ := h.stream_
  obtain ⟨c0, -⟩ := h.maps_
  obtain ⟨n0, hn0⟩ : ∃ n0 : Nat, n0 = σ.st.length := ⟨_, rfl⟩
  rw [← hn0] at c4 hle
  obtain ⟨RR, hRR⟩ : ∃ RR, RR = wval L (n + 1) id σ := ⟨_, rfl⟩
  rw [← hRR]
  have HRR : Hid (RR = wflds (wval L n) fs n0 (fs.drop 0) 0 ⟨[], []⟩ σ) := Lib.hid (hRR.trans (show wflds (wval L n) (fieldsOf L id) σ.st.length (fieldsOf L id) 0 ⟨[], []⟩ σ = _ by rw [hfo, ← hn0]; rfl))
  have hlook : ∀ q, (Instr.lookup 108 (.map (some o.fb)) (.int .i64 id) false).run Tryz.prog (w.drewN q) = .ok (.slice (some ⟨ub, uo, none⟩) m uc) (w.drewN q) := fun q =>
    ((h.below (drewN_below w q)).2.2.1.fields).look_ Tryz.underlying108 Tryz.underlying3 hlk false
  have HI0 : Hid (∀ W1 : World, W1 = (w.alloc (.cells #[.slice (some ⟨ub, uo, none⟩) m uc, .int .i64 0, .int .i64 (n0 : Nat), .int .i64 0, .int .i64 0, .int .i64 0, .int .i64 0, .int .i64 0, .int .i64 0, .int .i64 0, .int .i64 0, .int .i64 0, .int .i64 0, .int .i64 0, .int .i64 0, .int .i64 0, .int .i64 0, .int .i64 0, .int .i64 0, .nilFunc, .nilFunc, .nilFunc, .nilFunc, .nilFunc, .nilFunc, .nilFunc, .nilFunc, .nilFunc, .nilFunc, .nilFunc, .nilFunc, .nilFunc, .nilFunc, .nilFunc, .nilFunc] 152)).drew → Below w.heap.size w W1 ∧ DrAt W1 o top w.heap.size fs (.slice (some ⟨ub, uo, none⟩) m uc) 0 n0 ⟨[], []⟩ (List.replicate 16 (.int .i64 0) ++ List.replicate 16 .nilFunc)) := Lib.hid fun W1 hW1 => by
    have hb : Below w.heap.size w W1 := by rw [hW1]; exact (bx _).trans ((drewN_below _ 1).mono (by simp))
    obtain ⟨g1, g2, g3⟩ := h.below hb
    refine ⟨hb, { blk := by rw [hW1]; exact Blk.new w _ _, len := rfl, cnt := fun i hi => ?_, lens := fun i hi => absurd hi (Nat.not_lt_zero _), cl := rfl, flds := by rw [hm]; exact hflds.below hb, ub := fun b hb2 => ⟨g1.safe _ (hub b hb2).1, (hub b hb2).2⟩, safe := g2 _ (Nat.le_refl _) (by rw [hW1]; show w.heap.size < (w.alloc _).heap.size; simp), top_ := h.1.tp }⟩
    rw [List.getElem?_append_left (by simpa using hi), List.getElem?_replicate, if_pos hi]
    simp
  have HH := Lib.hid (And.intro h (And.intro ht (And.intro hfok (And.intro hm (And.intro hfew hn0)))))
  have HC := Lib.hid hC
  clear h ht hfok hu hfs hfo hfm hflds hlk hRR hfew hat hub hn0 hC hok hm
  unfold maxLen at hum
  go_enter Tryz.func83, Tryz.ntmps83
  go_wp2_with fail
  refine wp_region_T 12 (fun w' : World => ∃ n : Nat, w' = w.drewN n) (by kernel_rfl) ⟨1, rfl⟩ (fun hHeld => ?_)
  refine anyT 0 (h := ?_)
  (try simp only [pA, pB, pC, pD])
  refine anyT 1 (h := ?_)
  (try simp only [pA, pB, pC, pD])
  refine anyT 2 (h := ?_)
  (try simp only [pA, pB, pC, pD])
  refine takeTn 3 (h := ?_)
  (try simp only [pA, pB, pC, pD])
  refine anyT 4 (h := ?_)
  (try simp only [pA, pB, pC, pD])
  refine takeTn 5 (h := ?_)
  (try simp only [pA, pB, pC, pD])
  refine anyT 6 (h := ?_)
  (try simp only [pA, pB, pC, pD])
  refine anyT 7 (h := ?_)
  (try simp only [pA, pB, pC, pD])
  refine anyT 8 (h := ?_)
  (try simp only [pA, pB, pC, pD])
  refine takeTn 9 (h := ?_)
  (try simp only [pA, pB, pC, pD])
  refine takeTn 10 (h := ?_)
  (try simp only [pA, pB, pC, pD])
  refine anyT 11 (h := ?_)
  (try simp only [pA, pB, pC, pD])
  refine wpAnyT_ready (rs := [12]) (by kernel_rfl) (by simp) ?_
  refine AllReadyT.cons (o := ?oB21) ?hB21 ?kB21 AllReadyT.nil
  case hB21 => (simp only [List.getElem?_toArray, List.getElem?_cons_zero, List.getElem?_cons_succ]; rfl)
  case kB21 =>
    intro K hK
    go_simp
    refine hK.out _ _ (no_more (by kernel_rfl)) ?_
    clear hK K
    (try simp only [pA, pB, pC, pD])
    generalize hW1 : (w.alloc (.cells #[.slice (some ⟨ub, uo, none⟩) m uc, .int .i64 0, .int .i64 (n0 : Nat), .int .i64 0, .int .i64 0, .int .i64 0, .int .i64 0, .int .i64 0, .int .i64 0, .int .i64 0, .int .i64 0, .int .i64 0, .int .i64 0, .int .i64 0, .int .i64 0, .int .i64 0, .int .i64 0, .int .i64 0, .int .i64 0, .nilFunc, .nilFunc, .nilFunc, .nilFunc, .nilFunc, .nilFunc, .nilFunc, .nilFunc, .nilFunc, .nilFunc, .nilFunc, .nilFunc, .nilFunc, .nilFunc, .nilFunc, .nilFunc] 152)).drew = W1 at *
    refine anyT 13 (S := by exact no_more (by kernel_rfl)) (h := ?_)
    (try simp only [pA, pB, pC, pD])
    refine wpAnyT_done (by kernel_rfl) ?_ _
    have HI1 := Lib.hid (HI0.out W1 rfl)
    have e0 := HI1.out.2.c0
    clear hlook c0 c4 hW1
    go_wp2_with fail
    have HI2 : Hid (StepW o NoX w W1 ∧ WrAt W1 o top L σ 0 ∧ DrAt W1 o top w.heap.size fs (.slice (some ⟨ub, uo, none⟩) m uc) 0 n0 ⟨[], []⟩ (List.replicate 16 (.int .i64 0) ++ List.replicate 16 .nilFunc) ∧ WIn fs n0 ⟨[], []⟩ σ ∧ wflds (wval L n) fs n0 (fs.drop 0) 0 ⟨[], []⟩ σ = RR) := Lib.hid (by
      obtain ⟨g1, g2, g3⟩ := HH.out.1.below HI1.out.1
      refine ⟨g1, g3, HI1.out.2, ?_, HRR.out.symm⟩
      rw [HH.out.2.2.2.2.2]; exact WIn.first HH.out.2.1)
    clear e0
    go_loopw [25] (fun i wr => ∃ (j jf : Nat) (d : Dr) (σ1 : Ws) (cs : List Value), j ≤ m ∧ i = .int .i64 j ∧ d.counts.length = j ∧ Hid (StepW o NoX w wr ∧ WrAt wr o top L σ1 0 ∧ DrAt wr o top w.heap.size fs (.slice (some ⟨ub, uo, none⟩) m uc) jf n0 d cs ∧ WIn fs n0 d σ1 ∧ wflds (wval L n) fs n0 (fs.drop j) j d σ1 = RR)) (fun i _ => m - (intOf i).toNat)
    case atStart => exact ⟨0, 0, ⟨[], []⟩, σ, _, Nat.zero_le _, rfl, rfl, HI2⟩
    case round =>
      obtain ⟨j, jf, d, σ1, cs, hjm, rfl, hdj, HJ⟩ := hrel
      obtain ⟨wq, rfl⟩ : ∃ wq, wq = wr := ⟨_, rfl⟩
      have hfew := HH.out.2.2.2.2.1
      by_cases hlt : j < m
      · obtain ⟨ub', uo', e0, -, -, -, -, hfl⟩ := HJ.out.2.2.1.flds.at_ (by rw [← HH.out.2.2.2.1]; omega)
        cases e0
        obtain ⟨f, hf⟩ : ∃ f, f = fs.getD j zf := ⟨_, rfl⟩
        have hfa := hfl j (by rw [← HH.out.2.2.2.1]; exact hlt)
        rw [← hf] at hfa
        have g0 := hfa.c0
        have g1 := hfa.c1
        have g2 := hfa.c2
        have g3 := hfa.c3
        have hki : (0 : Int) ≤ (j : Int) ∧ (j : Int) < (m : Int) := by omega
        have hwf : wflds (wval L n) fs n0 (fs.drop j) j d σ1 = _ := wflds_at (by rw [← HH.out.2.2.2.1]; exact hlt)
        rw [HJ.out.2.2.2.2, ← hf] at hwf
        obtain ⟨p3, plt, p5⟩ := HJ.out.2.1.parts_
        obtain ⟨p, hp⟩ : ∃ p : Nat, p = σ1.parts := ⟨_, rfl⟩
        rw [← hp] at p3 p5
        have Hf := Lib.hid (And.intro hf (And.intro hwf (And.intro hp hdj)))
        obtain ⟨W2, hW2⟩ : ∃ W2, W2 = wq.alloc (.cells #[.int .i64 f.kind, .int .i64 f.n, .int .i64 f.frm, .string f.text] 56) := ⟨_, rfl⟩
        have hb2 : Below wq.heap.size wq W2 := by rw [hW2]; exact bx _
        obtain ⟨s1, s2, s3⟩ := HJ.out.2.1.below hb2
        have hB2 : Blk W2 wq.heap.size 56 #[.int .i64 f.kind, .int .i64 f.n, .int .i64 f.frm, .string f.text] := by rw [hW2]; exact Blk.new wq _ _
        have HS2 := Lib.hid (And.intro s1 (And.intro (s2 wq.heap.size (Nat.le_refl _) hB2.lt) (And.intro s3 (And.intro (HJ.out.2.2.1.step s1) hB2))))
        have HL2 := Lib.hid (show w.heap.size < wq.heap.size from HJ.out.2.2.1.safe.lt)
        clear hfl hfa hf hwf hp hdj hb2 s1 s2 s3 hB2
        by_cases hp5 : p < 5000
        · have hd : decide ((p : Int) < 5000) = true := by rw [decide_eq_true_eq]; omega
          go_wp2_with fail
          rw [← hW2]
          clear hW2
          refine (require_yes _).mono ?_
          rintro e w5 ⟨rfl, rfl⟩
          obtain ⟨⟨p3', y3⟩, t1, t2⟩ := HS2.out.2.2.1.part_ (by rw [← Hf.out.2.2.1]; exact hp5)
          rw [← Hf.out.2.2.1] at p3' t1 t2
          have ep : ((p + 1 : Nat) : Int) = (p : Int) + 1 := by omega
          rw [ep] at t1 t2
          have hd3 := HS2.out.2.2.2.1.step t1
          obtain ⟨t4, t5, t6⟩ := hd3.field_ t2 j
          have f1 := hd3.blk.frozen 1
          have z1 := hd3.c1
          have hfb : Blk ((w5.setCell ⟨o.wb, 3, none⟩ (.int .i64 ((p : Int) + 1))).setCell ⟨w.heap.size, 1, none⟩ (.int .i64 (j : Nat))) wq.heap.size 56 #[.int .i64 f.kind, .int .i64 f.n, .int .i64 f.frm, .string f.text] := by
            have hne : wq.heap.size ≠ w.heap.size := by have := HL2.out; omega
            exact (Below.heap_setCell _ _ _ _ hne).trans ((t1.same HS2.out.2.1).trans HS2.out.2.2.2.2)
          have HS3 := Lib.hid (And.intro (((HJ.out.1.trans HS2.out.1).trans t1).inner t4 (Nat.le_refl _)) (And.intro t5 (And.intro t6 hfb)))
          clear t1 t2 t4 t5 t6 hd3 hfb ep hd
          go_wp2_with fail
          clear p3 p3' y3 f1 z1 g0 g1 g2 g3 plt
          generalize (w5.setCell ⟨o.wb, 3, none⟩ (.int .i64 ((p : Int) + 1))).setCell ⟨w.heap.size, 1, none⟩ (.int .i64 (j : Nat)) = W4 at *
          obtain ⟨u1, -, u3⟩ := HS3.out.2.1.below (drewN_below W4 1)
          have hdj := Hf.out.2.2.2
          have hfk : FOkW L n fs j f := by rw [Hf.out.1]; exact HH.out.2.2.1 j (by rw [← HH.out.2.2.2.1]; exact hlt)
          have hwi := HJ.out.2.2.2.1
          have hcn := hwi.tame.cnt
          rw [← Hf.out.2.2.1] at hcn
          obtain ⟨fn, hlk, hen, hcon⟩ := wkind_any u3 (HS3.out.2.2.1.step u1) hdj (by omega) (⟨hwi.small, hwi.room, ⟨hwi.tame.short, Nat.le_trans hcn (Nat.le_succ p), hwi.tame.each, hwi.tame.ord⟩, hwi.st⟩ : WIn fs n0 d { σ1 with parts := p + 1 }) (Nat.lt_succ_of_le hcn) hfk Hf.out.1 HC.out
          have HCON := Lib.hid hcon
          have hlook : ∀ q, (Instr.lookup 119 (.map (some o.kb)) (.int .i64 f.kind) false).run Tryz.prog (W4.drewN q) = .ok (.func (.func fn) #[ptr o.wb] #[]) (W4.drewN q) := fun q =>
            ((HS3.out.2.1.below (drewN_below W4 q)).2.2.1.kinds).look_ Tryz.underlying119 Tryz.underlying3 hlk false
          unfold Enters at hen
          have d0 := HS3.out.2.2.2.cell 0
          have d1 := HS3.out.2.2.2.cell 1
          have d2 := HS3.out.2.2.2.cell 2
          have d3 := HS3.out.2.2.2.cell 3
          simp only [List.getElem?_toArray, List.getElem?_cons_zero, List.getElem?_cons_succ] at d0 d1 d2 d3
          have ck := HS3.out.2.1.maps_.2
          have HWN : Hid (wnext (wval L n) fs n0 j f d σ1 = wkind (wval L n) fs n0 j f d { σ1 with parts := p + 1 }) := Lib.hid (by
            unfold wnext
            rw [← Hf.out.2.2.1, if_pos hp5])
          have HU := Lib.hid (And.intro (HS3.out.1.trans u1) hfk)
          clear hlk hcon u1 u3 hdj hfk hwi hcn
          rcases hwk : wkind (wval L n) fs n0 j f d { σ1 with parts := p + 1 } with _ | pl
          · have HV : Hid (Calls Tryz.prog fn #[ptr o.wb, ptr w.heap.size, fldV f] W4.drew fun e w' => StepW o (At1 w.heap.size) W4.drew w' ∧ e = Stops zRf) := Lib.hid (by have := HCON.out; rw [hwk] at this; exact this)
            have HNO : Hid (∀ w', StepW o (At1 w.heap.size) W4.drew w' → WPost w o top L 0 RR (Stops zRf) w') := Lib.hid fun w' hs => WPost.stop (by rw [Hf.out.2.1, HWN.out, hwk]; rfl) (HU.out.1.inner hs (Nat.le_refl _))
            clear hwk HCON
            refine wp_region_T 9 (fun w' : World => ∃ n : Nat, w' = W4.drewN n) (by kernel_rfl) ⟨1, rfl⟩ (fun hHeld => ?_)
            refine anyT 0 (h := ?_)
            (try simp only [pA, pB, pC, pD])
            refine anyT 1 (h := ?_)
            (try simp only [pA, pB, pC, pD])
            refine anyT 2 (h := ?_)
            (try simp only [pA, pB, pC, pD])
            refine takeTn 3 (h := ?_)
            (try simp only [pA, pB, pC, pD])
            refine anyT 4 (h := ?_)
            (try simp only [pA, pB, pC, pD])
            refine takeTn 5 (h := ?_)
            (try simp only [pA, pB, pC, pD])
            refine takeTn 6 (h := ?_)
            (try simp only [pA, pB, pC, pD])
            refine anyT 7 (h := ?_)
            (try simp only [pA, pB, pC, pD])
            refine takeTn 8 (h := ?_)
            (try simp only [pA, pB, pC, pD])
            refine wpAnyT_ready (rs := [9]) (by kernel_rfl) (by simp) ?_
            refine AllReadyT.cons (o := ?oB37) ?hB37 ?kB37 AllReadyT.nil
            case hB37 => (simp only [List.getElem?_toArray, List.getElem?_cons_zero, List.getElem?_cons_succ]; rfl)
            case kB37 =>
              intro K hK
              go_simp
              refine HV.out.mono ?_
              rintro e w7 ⟨hs7, rfl⟩
              exact ⟨rfl, HNO.out _ hs7⟩
          · have HV : Hid (Calls Tryz.prog fn #[ptr o.wb, ptr w.heap.size, fldV f] W4.drew fun e w' => StepW o (At1 w.heap.size) W4.drew w' ∧ e = .returned (.tuple #[]) ∧ WrAt w' o top L pl.2.2 0 ∧ ∃ cs', DrAt w' o top w.heap.size fs (.slice (some ⟨ub, uo, none⟩) m uc) j n0 ⟨d.counts ++ [pl.1], d.lens ++ [pl.2.1]⟩ cs') := Lib.hid (by have := HCON.out; rw [hwk] at this; exact this)
            have HWK := Lib.hid hwk
            clear hwk HCON
            refine wp_region_T 9 (fun w' : World => ∃ n : Nat, w' = W4.drewN n) (by kernel_rfl) ⟨1, rfl⟩ (fun hHeld => ?_)
            refine anyT 0 (h := ?_)
            (try simp only [pA, pB, pC, pD])
            refine anyT 1 (h := ?_)
            (try simp only [pA, pB, pC, pD])
            refine anyT 2 (h := ?_)
            (try simp only [pA, pB, pC, pD])
            refine takeTn 3 (h := ?_)
            (try simp only [pA, pB, pC, pD])
            refine anyT 4 (h := ?_)
            (try simp only [pA, pB, pC, pD])
            refine takeTn 5 (h := ?_)
            (try simp only [pA, pB, pC, pD])
            refine takeTn 6 (h := ?_)
            (try simp only [pA, pB, pC, pD])
            refine anyT 7 (h := ?_)
            (try simp only [pA, pB, pC, pD])
            refine takeTn 8 (h := ?_)
            (try simp only [pA, pB, pC, pD])
            refine wpAnyT_ready (rs := [9]) (by kernel_rfl) (by simp) ?_
            refine AllReadyT.cons (o := ?oB52) ?hB52 ?kB52 AllReadyT.nil
            case hB52 => (simp only [List.getElem?_toArray, List.getElem?_cons_zero, List.getElem?_cons_succ]; rfl)
            case kB52 =>
              intro K hK
              go_simp
              refine HV.out.mono ?_
              rintro e w7 ⟨hs7, rfl, hw7, cs7, hd7⟩
              refine hK.out _ _ (no_more (by kernel_rfl)) ?_
              clear hK K
              (try simp only [pA, pB, pC, pD])
              refine wpAnyT_done (by kernel_rfl) ?_ _
              have HE : Hid ((d.counts ++ [pl.1]).length = j + 1 ∧ StepW o NoX w w7 ∧ WIn fs n0 ⟨d.counts ++ [pl.1], d.lens ++ [pl.2.1]⟩ pl.2.2 ∧ wflds (wval L n) fs n0 (fs.drop (j + 1)) (j + 1) ⟨d.counts ++ [pl.1], d.lens ++ [pl.2.1]⟩ pl.2.2 = RR) := Lib.hid (by
                have hfk := HU.out.2
                have hdl := HJ.out.2.2.1.cl
                rw [Hf.out.2.2.2] at hdl
                refine ⟨by rw [List.length_append, Hf.out.2.2.2]; rfl, HU.out.1.inner hs7 (Nat.le_refl _), ?_, ?_⟩
                · rw [Hf.out.1] at hfk
                  refine (wnext_out hfk hdl.symm (fun hkd => ?_) HJ.out.2.2.2.1 (by rw [← Hf.out.1, HWN.out, HWK.out])).1
                  obtain ⟨-, i2, hi, hiN⟩ := hfk.ok.k4 hkd
                  exact (HC.out _ i2 hi hiN).grows
                · rw [Hf.out.2.1, HWN.out, HWK.out]; rfl)
              have HW7 := Lib.hid (And.intro hw7 hd7)
              clear hs7 hw7 hd7 d0 d1 d2 d3 ck hlook hen hHeld
              go_wp2_with fail
              exact ⟨⟨j + 1, j, _, pl.2.2, cs7, by omega, by go_num, HE.out.1, Lib.hid ⟨HE.out.2.1, HW7.out.1, HW7.out.2, HE.out.2.2.1, HE.out.2.2.2⟩⟩, by simp [intOf]; omega⟩
        · have hd : decide ((p : Int) < 5000) = false := by rw [decide_eq_false_iff_not]; omega
          have HY : Hid (WPost w o top L 0 RR (Stops zRf) W2) := Lib.hid (WPost.stop (by rw [Hf.out.2.1]; unfold wnext; rw [← Hf.out.2.2.1, if_neg hp5]; rfl) (HJ.out.1.trans HS2.out.1))
          go_wp2_with fail
          rw [← hW2]
          clear hW2
          refine (require_no _).mono ?_
          rintro e w5 ⟨rfl, rfl⟩
          exact ⟨rfl, HY.out⟩
      · obtain rfl : j = m := by omega
        have HY : Hid (WPost w o top L 0 RR (.returned (.tuple #[])) wq) := Lib.hid (WPost.yes (σ := σ1) (by
          rw [← HJ.out.2.2.2.2, HH.out.2.2.2.1, List.drop_length]; rfl) HJ.out.1 HJ.out.2.1)
        go_wp2_with fail
        first | go_end0 | go_ret
        exact HY.out
/-- Values are written. -/
theorem wvalC (o : Wo) (top : Nat) (L : List Fm) (hok : Ok L) : ∀ n id i, At L id i → i < n → WSubC o top L (wval L n) id
  | 0, _, _, _, hi => absurd hi (Nat.not_lt_zero _)
  | n + 1, id, i, hat, hi => wval_step o top L n hok (wvalC o top L hok n) id i hat hi
end WrR
section RecP
open Go.RowKit Fx Rec

theorem Rd.fields_ {w : World} {P : Nat → Prop} {o : Ro} {rb : Nat} {L : List Fm} {s : ByteArray} {ps : List Pt} (h : Rd w P o rb L s ps) : w.cell? ⟨rb, 0, none⟩ = some (.map (some o.fb)) := by
  obtain ⟨_, vp, k, vs, hm⟩ := h
  rw [hm.blk.cell]; rfl
/-- A value, the first k of its fields recognised. -/
structure VCur (v : Vl) (id depth : Int) (st l k E : Nat) (nums : List Int) : Prop where
  d_ : v.depth = depth
  f_ : v.format = id
  s_ : v.start = st
  a_ : v.at_ = E
  l_ : v.limit = l
  n_ : v.nums = nums ++ List.replicate (16 - k) 0
  len : nums.length = k
  small : Small nums
  dep : 0 ≤ depth ∧ depth ≤ 100
  ord : st ≤ E ∧ E ≤ l ∧ l ≤ 65536
theorem VCur.ok {v : Vl} {id depth : Int} {st l k E : Nat} {nums : List Int} (h : VCur v id depth st l k E nums) : VOk v := by
  have h1 := h.ord
  refine ⟨by rw [h.a_]; omega, by rw [h.a_, h.l_]; omega, by rw [h.l_]; omega, by rw [h.s_]; omega, by rw [h.s_, h.a_]; omega, by rw [h.d_]; exact h.dep, fun i _ => by rw [h.n_]; exact h.small.pad _ i⟩
theorem VAt.field_ {w : World} {vb : Nat} {v : Vl} (h : VAt w vb v) (n : Int) : VAt (w.setCell ⟨vb, 2, none⟩ (.int .i64 n)) vb { v with field := n } := by
  refine ⟨?_, h.len⟩
  have h1 := h.blk.set_ 2 (.int .i64 n)
  exact h1

set_option maxRecDepth 20000 in
set_option maxHeartbeats 4000000 in
theorem val_step (o : Ro) (rb : Nat) (L : List Fm) (s : ByteArray) (n : Nat) (hC : ValC o rb L s n) : ValC o rb L s (n + 1) := by
  intro w P ps id depth i st l h hat hin hd0 hdn hsl hl
  obtain ⟨fs, hfs⟩ : ∃ fs, fs = (L.getD i zm).fs := ⟨_, rfl⟩
  have hfo : fieldsOf L id = fs := by rw [hfs]; exact fieldsOf_at h.1.ok hat
  have hfok : ∀ k, k < fs.length → FOk L n (fs.getD k zf) := fun k hk => by rw [hfs] at hk ⊢; exact fok_of h.1.ok hat.1 (by omega) hk
  have hfm := h.1.ok.each i hat.1
  have hsome := hfm.some_
  have hfew := hfm.few
  rw [← hfs] at hsome hfew
  have hflds := h.1.flds i hat.1
  rw [← hfs] at hflds
  obtain ⟨u, hu⟩ : ∃ u, u = o.us.getD i undef := ⟨_, rfl⟩
  rw [← hu] at hflds
  obtain ⟨ua, uc, rfl, hul⟩ := hflds.slice_
  obtain ⟨m, hm⟩ : ∃ m, m = fs.length := ⟨_, rfl⟩
  rw [← hm] at hsome hfew hul hu
  have hlk : lkV (fieldsE L o.us) id = some (.slice ua m uc) := by rw [hu]; exact fieldsE_at h.1.ok h.1.ul hat
  have hmax := h.1.max
  have hB0 := bx (w := w) (.cells #[.int .i64 depth, .int .i64 id, .int .i64 0, .int .i64 (st : Int), .int .i64 (st : Int), .int .i64 (l : Int), .int .i64 0, .int .i64 0, .int .i64 0, .int .i64 0, .int .i64 0, .int .i64 0, .int .i64 0, .int .i64 0, .int .i64 0, .int .i64 0, .int .i64 0, .int .i64 0, .int .i64 0, .int .i64 0, .int .i64 0, .int .i64 0] 145)
  have hv0 : VAt (w.alloc (.cells #[.int .i64 depth, .int .i64 id, .int .i64 0, .int .i64 (st : Int), .int .i64 (st : Int), .int .i64 (l : Int), .int .i64 0, .int .i64 0, .int .i64 0, .int .i64 0, .int .i64 0, .int .i64 0, .int .i64 0, .int .i64 0, .int .i64 0, .int .i64 0, .int .i64 0, .int .i64 0, .int .i64 0, .int .i64 0, .int .i64 0, .int .i64 0] 145)) w.heap.size ⟨depth, id, 0, st, st, l, [] ++ List.replicate (16 - 0) 0⟩ := ⟨Blk.new w _ _, rfl⟩
  have hr0 := h.below hB0
  have hlook : (Instr.lookup 108 (.map (some o.fb)) (.int .i64 id) false).run Tryz.prog (w.alloc (.cells #[.int .i64 depth, .int .i64 id, .int .i64 0, .int .i64 (st : Int), .int .i64 (st : Int), .int .i64 (l : Int), .int .i64 0, .int .i64 0, .int .i64 0, .int .i64 0, .int .i64 0, .int .i64 0, .int .i64 0, .int .i64 0, .int .i64 0, .int .i64 0, .int .i64 0, .int .i64 0, .int .i64 0, .int .i64 0, .int .i64 0, .int .i64 0] 145)) = .ok (.slice ua m uc) (w.alloc (.cells #[.int .i64 depth, .int .i64 id, .int .i64 0, .int .i64 (st : Int), .int .i64 (st : Int), .int .i64 (l : Int), .int .i64 0, .int .i64 0, .int .i64 0, .int .i64 0, .int .i64 0, .int .i64 0, .int .i64 0, .int .i64 0, .int .i64 0, .int .i64 0, .int .i64 0, .int .i64 0, .int .i64 0, .int .i64 0, .int .i64 0, .int .i64 0] 145)) :=
    hr0.1.fields.look_ Tryz.underlying108 Tryz.underlying3 hlk false
  obtain ⟨ub, uo, rfl, -, -, -, hum, -⟩ := hflds.at_ (by omega)
  have c0 := hr0.fields_
  obtain ⟨RR, hRR⟩ : ∃ RR, RR = val L s (n + 1) id depth st l ps.length := ⟨_, rfl⟩
  rw [← hRR]
  have HRR : Hid (RR = Rec.ends (flds s (val L s n) id depth st l ps.length fs m)) := Lib.hid (by rw [hRR, val]; show Rec.ends (flds s (val L s n) id depth st l ps.length (fieldsOf L id) (fieldsOf L id).length) = _; rw [hfo, ← hm])
  have HH := Lib.hid (And.intro h (And.intro hC (And.intro hfok (And.intro hu (And.intro hm hfs)))))
  have HI := Lib.hid (And.intro hat hflds)
  have HV0 := Lib.hid (And.intro hB0 (And.intro hr0 hv0))
  clear h hC hfok hu hfs hfo hfm hflds hlk hRR hm hat hB0 hr0 hv0
  unfold maxLen at hum
  go_enter Tryz.func73, Tryz.ntmps73
  go_wp2_with fail
  clear hlook c0
  have HI0 : Hid (Kept P w (w.alloc (.cells #[.int .i64 depth, .int .i64 id, .int .i64 0, .int .i64 (st : Int), .int .i64 (st : Int), .int .i64 (l : Int), .int .i64 0, .int .i64 0, .int .i64 0, .int .i64 0, .int .i64 0, .int .i64 0, .int .i64 0, .int .i64 0, .int .i64 0, .int .i64 0, .int .i64 0, .int .i64 0, .int .i64 0, .int .i64 0, .int .i64 0, .int .i64 0] 145)) ∧
      Rd (w.alloc (.cells #[.int .i64 depth, .int .i64 id, .int .i64 0, .int .i64 (st : Int), .int .i64 (st : Int), .int .i64 (l : Int), .int .i64 0, .int .i64 0, .int .i64 0, .int .i64 0, .int .i64 0, .int .i64 0, .int .i64 0, .int .i64 0, .int .i64 0, .int .i64 0, .int .i64 0, .int .i64 0, .int .i64 0, .int .i64 0, .int .i64 0, .int .i64 0] 145)) P o rb L s (ps ++ []) ∧
      VAt (w.alloc (.cells #[.int .i64 depth, .int .i64 id, .int .i64 0, .int .i64 (st : Int), .int .i64 (st : Int), .int .i64 (l : Int), .int .i64 0, .int .i64 0, .int .i64 0, .int .i64 0, .int .i64 0, .int .i64 0, .int .i64 0, .int .i64 0, .int .i64 0, .int .i64 0, .int .i64 0, .int .i64 0, .int .i64 0, .int .i64 0, .int .i64 0, .int .i64 0] 145)) w.heap.size ⟨depth, id, 0, st, st, l, [] ++ List.replicate (16 - 0) 0⟩ ∧
      VCur ⟨depth, id, 0, st, st, l, [] ++ List.replicate (16 - 0) 0⟩ id depth st l 0 st [] ∧ flds s (val L s n) id depth st l ps.length fs 0 = .ok (st, [], [])) :=
    Lib.hid ⟨Kept.of_below HV0.out.1 HH.out.1.1.pin, by rw [List.append_nil]; exact HV0.out.2.1, HV0.out.2.2, ⟨rfl, rfl, rfl, rfl, rfl, rfl, rfl, small_nil, ⟨hd0, by omega⟩, ⟨Nat.le_refl _, hsl, by omega⟩⟩, rfl⟩
  go_loopw [28] (fun i wr => ∃ (k E : Nat) (v : Vl) (nums : List Int) (qs : List Pt), k ≤ m ∧ i = .int .i64 k ∧ Hid (Kept P w wr ∧ Rd wr P o rb L s (ps ++ qs) ∧ VAt wr w.heap.size v ∧ VCur v id depth st l k E nums ∧ flds s (val L s n) id depth st l ps.length fs k = .ok (E, nums, qs))) (fun i _ => m - (intOf i).toNat)
  case atStart => exact ⟨0, st, _, [], [], Nat.zero_le _, rfl, HI0⟩
  case round =>
    obtain ⟨k, E, v, nums, qs, hkm, rfl, HJ⟩ := hrel
    obtain ⟨wq, rfl⟩ : ∃ wq, wq = wr := ⟨_, rfl⟩
    by_cases hlt : k < m
    · have hflq := HJ.out.2.1.1.flds i HI.out.1.1
      rw [← HH.out.2.2.2.1, ← HH.out.2.2.2.2.2] at hflq
      obtain ⟨ub', uo', e0, -, -, -, -, hfl⟩ := hflq.at_ (by rw [← HH.out.2.2.2.2.1]; omega)
      cases e0
      obtain ⟨f, hf⟩ : ∃ f, f = fs.getD k zf := ⟨_, rfl⟩
      have hfa := hfl k (by rw [← HH.out.2.2.2.2.1]; exact hlt)
      rw [← hf] at hfa
      have g0 := hfa.c0
      have g1 := hfa.c1
      have g2 := hfa.c2
      have g3 := hfa.c3
      have hv := HJ.out.2.2.1
      have c2 := hv.cells.2.2.1
      have y2 := hv.blk.frozen 2
      have lvb := hv.blk.lt
      have hki : (0 : Int) ≤ (k : Int) ∧ (k : Int) < (m : Int) := by omega
      have Hf := Lib.hid hf
      clear hflq hfl hfa hf hv
      go_wp2_with fail
      have hv2 : VAt ((wq.setCell ⟨w.heap.size, 2, none⟩ (.int .i64 (k : Int))).alloc (.cells #[.int .i64 f.kind, .int .i64 f.n, .int .i64 f.frm, .string f.text] 56)) w.heap.size { v with field := (k : Int) } :=
        (HJ.out.2.2.1.field_ k).keep ((bx _).block _ (by simpa using lvb))
      have hpv : ¬ P w.heap.size := fun hp => absurd (HH.out.1.1.pin _ hp) (by omega)
      have hke : Kept (fun j => j ≠ w.heap.size) wq (wq.setCell ⟨w.heap.size, 2, none⟩ (.int .i64 (k : Int))) := (Kept.refl _ _).setCell (by simp) _
      have hr2 : Rd ((wq.setCell ⟨w.heap.size, 2, none⟩ (.int .i64 (k : Int))).alloc (.cells #[.int .i64 f.kind, .int .i64 f.n, .int .i64 f.frm, .string f.text] 56)) P o rb L s (ps ++ qs) :=
        (HJ.out.2.1.write HJ.out.2.2.1.blk hpv (by decide) (by decide) (by decide) (by decide) hke).below (bx _)
      have hk2 : Kept P wq ((wq.setCell ⟨w.heap.size, 2, none⟩ (.int .i64 (k : Int))).alloc (.cells #[.int .i64 f.kind, .int .i64 f.n, .int .i64 f.frm, .string f.text] 56)) :=
        ((Kept.refl _ _).setCell (p := ⟨w.heap.size, 2, none⟩) hpv _).alloc (fun j hj => by simpa using HJ.out.2.1.1.pin j hj) _
      have hc := HJ.out.2.2.2.1
      have hc2 : VCur { v with field := (k : Int) } id depth st l k E nums := ⟨hc.d_, hc.f_, hc.s_, hc.a_, hc.l_, hc.n_, hc.len, hc.small, hc.dep, hc.ord⟩
      have hfo : FOk L n f := by rw [Hf.out]; exact HH.out.2.2.1 k (by rw [← HH.out.2.2.2.2.1]; exact hlt)
      have hn := rd_next hr2 hv2 hpv hc2.ok (⟨hc.a_, hc.l_, hc.s_, rfl⟩ : VNat { v with field := (k : Int) } E l st k) (by omega) hl n hfo HH.out.2.1 (by rw [show ({ v with field := (k : Int) } : Vl).depth = depth from hc.d_]; omega)
      rw [show ({ v with field := (k : Int) } : Vl).format = id from hc.f_, show ({ v with field := (k : Int) } : Vl).depth = depth from hc.d_, show ({ v with field := (k : Int) } : Vl).nums = nums ++ List.replicate (16 - k) 0 from hc.n_, next_pad, List.length_append] at hn
      have HN := Lib.hid hn
      have HK := Lib.hid (HJ.out.1.trans hk2)
      have hfl1 : flds s (val L s n) id depth st l ps.length fs (k + 1) = match next s (val L s n) id depth st l k f nums E (ps.length + qs.length) with
        | .error r => .error r
        | .ok (e, n, qs1) => .ok (e, nums ++ [n], qs ++ (⟨depth, id, k, E, e, n⟩ :: qs1)) := by
        rw [flds, HJ.out.2.2.2.2, Hf.out]
        rfl
      have hin2 := fun (y : Nat × Int × List Pt) (h : next s (val L s n) id depth st l k f nums E (ps.length + qs.length) = .ok y) => next_in (val_in L s n) hc.ord.2.1 h
      have hnum := fun (y : Nat × Int × List Pt) (h : next s (val L s n) id depth st l k f nums E (ps.length + qs.length) = .ok y) => next_num hfo hc.small h
      have HC2 := Lib.hid (And.intro hc2 (And.intro hfl1 (And.intro hin2 hnum)))
      clear hv2 hr2 hk2 hke hc hc2 hfo hn hfl1 hin2 hnum g0 g1 g2 g3 c2 y2
      cases hnx : next s (val L s n) id depth st l k f nums E (ps.length + qs.length) with
      | error rf =>
        have HV := HN.out
        rw [hnx] at HV
        refine HV.mono ?_
        rintro e w7 ⟨hk7, rfl, ps', hr7⟩
        refine ⟨rfl, HK.out.trans hk7, ?_⟩
        rw [show RR = .error rf by
          have h1 := HC2.out.2.1
          rw [hnx] at h1
          rw [HRR.out, flds_le h1 (by omega)]; rfl]
        exact ⟨rfl, ps', hr7⟩
      | ok x =>
        obtain ⟨E2, n2, qs2⟩ := x
        have HV := HN.out
        rw [hnx] at HV
        refine HV.mono ?_
        rintro e w7 ⟨hk7, rfl, hr7, hv7⟩
        have h1 := HC2.out.2.1
        have h2 := HC2.out.2.2.1 _ hnx
        have h3 := HC2.out.2.2.2 _ hnx
        rw [hnx] at h1
        have HE := Lib.hid (And.intro (HK.out.trans hk7) (And.intro hr7 (And.intro hv7 (And.intro h1 (And.intro h2 h3)))))
        clear HV hk7 hr7 hv7 h1 h2 h3 hnx
        go_wp2_with fail
        refine ⟨⟨k + 1, E2, _, nums ++ [n2], qs ++ (⟨depth, id, k, E, E2, n2⟩ :: qs2), by omega, by go_num, Lib.hid ⟨HE.out.1, by rw [← List.append_assoc]; exact HE.out.2.1, HE.out.2.2.1, ?_, HE.out.2.2.2.1⟩⟩, by simp [intOf]; omega⟩
        have hc := HC2.out.1
        have hlen := hc.len
        exact ⟨rfl, rfl, hc.s_, rfl, hc.l_, pad_set hc.len (by omega) n2, by simp [hlen], hc.small.snoc HE.out.2.2.2.2.2.1 HE.out.2.2.2.2.2.2, hc.dep, ⟨by have := hc.ord.1; have := HE.out.2.2.2.2.1.2.1; omega, HE.out.2.2.2.2.1.2.2, hc.ord.2.2⟩⟩
    · obtain rfl : k = m := by omega
      have c4 := HJ.out.2.2.1.cells.2.2.2.2.1
      rw [HJ.out.2.2.2.1.a_] at c4
      go_wp2_with fail
      go_ret
      refine ⟨HJ.out.1, ?_⟩
      rw [show RR = .ok (E, qs) by rw [HRR.out, HJ.out.2.2.2.2]; rfl]
      exact ⟨rfl, HJ.out.2.1⟩

theorem valC (o : Ro) (rb : Nat) (L : List Fm) (s : ByteArray) : ∀ n, ValC o rb L s n
  | 0 => fun _ _ _ _ _ _ _ _ _ _ h _ _ _ _ => absurd h (by omega)
  | n + 1 => val_step o rb L s n (valC o rb L s n)
end RecP
section FmtN
open Go.RowKit Fx Go.Sort

set_option maxHeartbeats 1000000 in
theorem build1_nil (P : Nat → Prop) (tb bl bt c : Nat) (a : Option Addr) (er : Addr) (w : World) (hT : TabAt w P tb st0) (hE : ErrAt w er) (hcl : w.cell? ⟨bl, 0, none⟩ = some (.slice a 0 c)) (hct : w.cell? ⟨bt, 0, none⟩ = some (adr tb)) :
    Calls Tryz.prog 113 #[.pointer (some ⟨bl, 0, none⟩), .pointer (some ⟨bt, 0, none⟩)] w (BuildPost P tb (buildO []) er w) := by
  have HEND := Lib.hid (end_any P tb st0 er w hT hE good0)
  clear hT hE
  go_enter Tryz.func113, Tryz.ntmps113
  go_wp2_with fail
  refine wp_loop_rounds 1 ?_
  rw [rounds_succ]
  go_wp2_with fail
  refine HEND.out.mono ?_
  rintro e w1 ⟨rfl, hk1, hT1⟩
  have HP1 : Hid (BuildPost P tb (buildO []) er w (.returned (.tuple #[])) w1) := Lib.hid ⟨rfl, hk1, fun s1 h => hT1 s1 h⟩
  have e0 : (endO st0).isSome = true := rfl
  rw [e0]
  clear hk1 hT1 e0
  unfold ends
  go_wp2_with fail
  go_end0
  exact HP1.out

theorem TabEnd.far {w w' : World} {P : Nat → Prop} {tb : Nat} {s : St} (h : TabEnd w P tb s) (hs : w.heap.size ≤ w'.heap.size)
    (hf : ∀ (g : Nat) (cur : Array Value) (t : TypeId), t ≠ 4 → w.heap[g]? = some (Obj.cells cur t (0, 0)) → w'.heap[g]? = w.heap[g]?) (hm : ∀ (g : Nat) (es : Array MapEntry) (n : Nat), w.heap[g]? = some (Obj.map es n) → w'.heap[g]? = w.heap[g]?) : TabEnd w' P tb s := by
  obtain ⟨cs, mb, b1, b2, c, b3, vF, vs, hC⟩ := h
  have hmb : w'.heap[mb]? = w.heap[mb]? := by
    obtain ⟨n, D, _, ⟨es, clock, h1, _⟩, _⟩ := hC.map.is
    exact hm mb es clock h1
  exact ⟨cs, mb, b1, b2, c, b3, vF, vs, { hC with
    blk := (hf _ _ _ (by decide) hC.blk).trans hC.blk
    boxes := hC.boxes.far fun g cur t ht hg => hf g cur t (by rcases ht with rfl | rfl <;> decide) hg
    map := hC.map.of_block hmb
    rowF := own_keep hC.rowF fun g cur _ hh => hf _ _ _ (by decide) hh
    done := fun i hi => own_keep (hC.done i hi) fun g cur _ hh => hf _ _ _ (by decide) hh
    pin := fun k hk => Nat.lt_of_lt_of_le (hC.pin k hk) hs }⟩

/-- What build leaves. -/
def BuiltPost (l : List Fm) (w : World) (e : Ending) (w' : World) : Prop :=
  (∃ tb, e = .returned (.tuple #[adr tb, .bool (buildO l).isSome]) ∧ ∀ s, buildO l = some s → TabEnd w' (· < w.heap.size) tb s) ∧ Below w.heap.size w w'
set_option maxRecDepth 100000 in
set_option maxHeartbeats 2000000 in
theorem build_any (v : Value) (l : List Fm) (er : Addr) (w : World) (hE : ErrAt w er) (hV : FmsAt (· < w.heap.size) w v l) (hI : IntsL l) :
    Calls Tryz.prog 107 #[v] w (BuiltPost l w) := by
  have hmf : ∀ (fn : Fn) (first cap : Array Value) (w : World), (Instr.makeFunc fn first cap).run Tryz.prog w = .ok (.func fn first cap) w := fun _ _ _ _ => rfl
  have hen : Enters 113 := enters_of Tryz.func113 (by kernel_rfl) (by kernel_rfl)
  have HEN := Lib.hid hen
  have HE := Lib.hid hE
  have HV := Lib.hid hV
  have HI := Lib.hid hI
  obtain ⟨a, c, rfl⟩ : ∃ a c, v = .slice a l.length c := by
    rcases hV with ⟨a, c, rfl, rfl⟩ | ⟨b, off, cap, rfl, _⟩
    · exact ⟨a, c, rfl⟩
    · exact ⟨_, _, rfl⟩
  obtain ⟨n, hn⟩ : ∃ n, n = l.length := ⟨_, rfl⟩
  rw [← hn] at HV ⊢
  have HN := Lib.hid hn
  clear hE hV hI hen hn
  go_enter Tryz.func107, Tryz.ntmps107
  go_wp2_with fail
  obtain ⟨w0, hw0⟩ : ∃ w0, w0 = w.alloc (.cells #[.slice a n c] 23) := ⟨_, rfl⟩
  rw [← hw0]
  have hB0 : Below w.heap.size w w0 := by rw [hw0]; exact bx _
  have s0 : w0.heap.size = w.heap.size + 1 := by rw [hw0]; simp
  have h0 : w0.heap[w.heap.size]? = some (.cells #[.slice a n c] 23 (0, 0)) := by rw [hw0]; exact heap_alloc_new _ _
  have H0 := Lib.hid (And.intro hB0 (And.intro s0 h0))
  clear hw0 hB0 s0 h0
  refine (empty_any (· < w0.heap.size) w0 (fun _ h => h)).mono ?_
  rintro e w1 ⟨⟨tb, rfl, hT1⟩, hB1⟩
  have HT1 := Lib.hid (And.intro hT1 hB1)
  clear hT1 hB1
  go_wp2_with fail
  obtain ⟨w2, hw2⟩ : ∃ w2, w2 = w1.alloc (.cells #[adr tb] 168) := ⟨_, rfl⟩
  rw [← hw2]
  have hB2 : Below w1.heap.size w1 w2 := by rw [hw2]; exact bx _
  have s2 : w2.heap.size = w1.heap.size + 1 := by rw [hw2]; simp
  have h2 : w2.heap[w1.heap.size]? = some (.cells #[adr tb] 168 (0, 0)) := by rw [hw2]; exact heap_alloc_new _ _
  have HT2 := Lib.hid (HT1.out.1.widen hB2)
  have H2 := Lib.hid (And.intro hB2 (And.intro s2 h2))
  clear hw2 hB2 s2 h2
  refine (completes_any 113 #[adr w.heap.size, adr w1.heap.size] (buildO l).isSome er w2
    (fun w' => (Kept (· < w.heap.size) w w' ∧ w1.heap.size < w'.heap.size ∧ w'.heap[w1.heap.size]? = some (.cells #[adr tb] 168 (0, 0)) ∧ (∃ cur, w'.heap[w2.heap.size]? = some (.cells cur 4 (0, 0)))) ∧ ∀ s, buildO l = some s → TabEnd w' (· < w.heap.size) tb s) HEN.out ?_ ?_).mono ?_
  · obtain ⟨w3, hw3⟩ : ∃ w3, w3 = w2.alloc (.cells #[.bool false] 4) := ⟨_, rfl⟩
    rw [← hw3]
    have hB3 : Below w2.heap.size w2 w3 := by rw [hw3]; exact bx _
    have s3 : w3.heap.size = w2.heap.size + 1 := by rw [hw3]; simp
    have h3 : w3.heap[w2.heap.size]? = some (.cells #[.bool false] 4 (0, 0)) := by rw [hw3]; exact heap_alloc_new _ _
    obtain ⟨hB0, s0, h0⟩ := H0.out
    obtain ⟨hB2, s2, h2⟩ := H2.out
    have hB1 := HT1.out.2
    have s1 := hB1.size
    obtain ⟨P, hP⟩ : ∃ P, P = Wide (Wide (· < w0.heap.size) w1 w2) w2 w3 := ⟨_, rfl⟩
    have hPlow : ∀ k, k < w.heap.size → P k := fun k hk => by rw [hP]; exact .inl (.inl (by show k < _; omega))
    have hT3 : TabAt w3 P tb st0 := by rw [hP]; exact HT2.out.widen hB3
    have b13 : Below w1.heap.size w1 w3 := hB2.trans (hB3.mono hB2.size)
    have b03 : Below w0.heap.size w0 w3 := hB1.trans (b13.mono s1)
    have bw3 : Below w.heap.size w w3 := hB0.trans (b03.mono hB0.size)
    have hcl : w3.cell? ⟨w.heap.size, 0, none⟩ = some (.slice a n c) := cell_of_row _ _ _ _ _ (0, 0) ((b03.block _ (by omega)).trans h0)
    have hct : w3.cell? ⟨w1.heap.size, 0, none⟩ = some (adr tb) := cell_of_row _ _ _ _ _ (0, 0) ((hB3.block _ (by omega)).trans h2)
    have hEr : ErrAt w3 er := HE.out.below bw3
    have hPe : P 1 := hPlow _ HE.out.lt
    have hPt : P w1.heap.size := by rw [hP]; exact .inl (.inr ⟨Nat.le_refl _, by omega⟩)
    have hPo : P w2.heap.size := by rw [hP]; exact .inr ⟨Nat.le_refl _, by omega⟩
    have hV3 : FmsAt P w3 (.slice a n c) l := (HV.out.kept (Kept.of_below bw3 fun _ h => h)).mono hPlow
    have key : Calls Tryz.prog 113 #[adr w.heap.size, adr w1.heap.size] w3 (BuildPost P tb (buildO l) er w3) := by
      rcases hV3 with ⟨a', c', hv, rfl⟩ | ⟨b, off, cap, hv, k1, k2, k3, k4, _, k6⟩
      · cases hv
        exact build1_nil P tb w.heap.size w1.heap.size c a er w3 hT3 hEr hcl hct
      · cases hv
        exact build1_any P tb w.heap.size w1.heap.size b off c l (buildO l) er w3 k1 k2 k3 k4 k6 hT3 hEr hPe hPt (by rw [HN.out] at hcl; exact hcl) hct HI.out rfl
    refine key.mono ?_
    rintro e w4 ⟨rfl, hk, hT4⟩
    refine ⟨rfl, (hk.block _ hPo).trans h3, ⟨?_, ?_, (hk.block _ hPt).trans ((hB3.block _ (by omega)).trans h2), _, (hk.block _ hPo).trans h3⟩, fun s hs => (hT4 s hs).narrow hPlow⟩
    · exact (Kept.of_below bw3 fun _ h => h).trans (hk.mono hPlow)
    · have := hk.size; omega
  · rintro w3 v ⟨⟨hk, hs, hcell, cur, hok⟩, hT⟩
    obtain ⟨hB2, s2, h2⟩ := H2.out
    have hB1 := HT1.out.2
    have s1 := hB1.size
    have s0 := H0.out.2.1
    have ne : ∀ g, g ≠ w2.heap.size → (w3.setCell ⟨w2.heap.size, 0, none⟩ v).heap[g]? = w3.heap[g]? := fun g hg => Below.heap_setCell _ _ _ _ hg
    refine ⟨⟨Kept.setCell hk (by show ¬ w2.heap.size < w.heap.size; omega) _, by simp [World.setCell]; omega, (ne _ (by omega)).trans hcell, _, Blk.set_ (w := w3) hok 0 v⟩, fun s hs => (hT s hs).far (by simp [World.setCell]) (fun g cur' t n1 hg => ne g (fun e => ?_)) (fun g es m hg => ne g (fun e => ?_))⟩
    · rw [e, hok] at hg; cases hg; exact n1 rfl
    · rw [e, hok] at hg; cases hg
  · rintro e w3 ⟨rfl, ⟨hk, hs, hcell, _⟩, hT⟩
    have hc1 : w3.cell? ⟨w1.heap.size, 0, none⟩ = some (adr tb) := cell_of_row _ _ _ _ _ (0, 0) hcell
    have HK := Lib.hid (And.intro (hk.below (B := w.heap.size) fun _ h => h) hT)
    clear hk hcell hT
    go_wp2_with fail
    go_ret2
    exact ⟨⟨tb, rfl, HK.out.2⟩, HK.out.1⟩

/-! Valid and Least -/
theorem Valid_any (v : Value) (l : List Fm) (b : Bool) (er : Addr) (w : World) (hE : ErrAt w er) (hV : FmsAt (· < w.heap.size) w v l) (hI : IntsL l) (hb : vd l = b) :
    Calls Tryz.prog 92 #[v] w fun e w' => e = .returned (.bool b) ∧ Below w.heap.size w w' := by
  have HB := Lib.hid (build_any v l er w hE hV hI)
  unfold vd at hb
  have HV := Lib.hid hb
  clear hE hV hI hb
  go_enter Tryz.func92, Tryz.ntmps92
  go_wp2_with fail
  refine HB.out.mono ?_
  rintro e w1 ⟨⟨tb, rfl, _⟩, hB⟩
  rw [HV.out]
  have HB1 := Lib.hid hB
  clear hB
  go_wp2_with fail
  go_ret
  exact ⟨rfl, HB1.out⟩
theorem lkz_least {l : List Fm} {s : St} {id : Int} (h : buildO l = some s) : least l id = lkz (lm s.d) id := by
  unfold least
  have : vd l = true := by unfold vd; rw [h]; rfl
  rw [if_pos this, (build_some h).1]
theorem least_none {l : List Fm} {id : Int} (h : buildO l = none) : least l id = 0 := by
  unfold least
  have : vd l = false := by unfold vd; rw [h]; rfl
  rw [this]; rfl
end FmtN
end Go.Proofs.YtdndmhlmbpgdeaaGreatDoor
