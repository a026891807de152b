/- The law RecogniseNoticed: it returns true. Conditions: rows of four numbers, three numbers, a byte and a list of numbers that can be read; the variables of the errors are laid. -/
import Derived.Test.YtdndmhlmbpgdeaaGreatDoorPb01
import Derived.Test.YtdndmhlmbpgdeaaGreatDoorPb20
import Derived.Test.YtdndmhlmbpgdeaaGreatDoorPn02
namespace Go.Proofs.YtdndmhlmbpgdeaaGreatDoor
open Go.RowKit Go.Sort Fx Rec Rt

theorem qs_below {w w' : World} {v : Value} {n : Nat} (h : QsAt w v n) (hb : Below w.heap.size w w') : QsAt w' v n := by
  rcases h with h | ⟨b, off, cap, rfl, h1, h2, h3, h4, h5⟩
  · exact .inl h
  · refine .inr ⟨b, off, cap, rfl, h1, h2, h3, Nat.lt_of_lt_of_le h4 hb.size, fun i j hi hj => ?_⟩
    obtain ⟨z, e, h6⟩ := h5 i j hi hj
    exact ⟨z, (hb.cell (p := ⟨b, off + i * 4 + j, none⟩) h4).trans e, h6⟩
theorem nice_fs {L : List Fm} (h : Nice L) : ∀ j, j < L.length → (L.getD j zm).fs.length ≤ 1000 := fun j hj => by have := h.fs j hj; omega
theorem drew_below (w : World) : Below w.heap.size w w.drew := (Below.refl _ _).drew
theorem conv_one (w : World) (b z : Nat) (hb : Blk w b 5 #[.int .u8 (z : Nat)]) : (convert 64 9 (.slice (some ⟨b, 0, none⟩) 1 1)).run Tryz.prog w = .ok (.string ⟨#[UInt8.ofNat z]⟩) w := by
  rw [run_convert_bytes_arg (P := Tryz.prog) _ 64 5 Tryz.underlying64 Tryz.underlying5 b 0 1 1 [(z : Int)] rfl ?_ 9 Tryz.underlying9]
  · rfl
  · intro i hi
    obtain rfl : i = 0 := by omega
    rw [Nat.zero_add]
    exact hb.cell 0
theorem blk_stays {w w' : World} {b : Nat} {t : TypeId} {cs : Array Value} (h : Blk w b t cs) (hb : Below w.heap.size w w') : Blk w' b t cs := (hb.block _ h.lt).trans h
set_option maxRecDepth 100000 in
set_option maxHeartbeats 4000000 in
theorem noticed_law (xv vv : Value) (xn : Nat) (b a c : Int) (d : Int) (er : Addr) (w : World) (hQ : QsAt w xv xn) (hV : IntsR w vv) (b1 : -9223372036854775808 ≤ b) (b2 : b ≤ 9223372036854775807) (a1 : -9223372036854775808 ≤ a) (a2 : a ≤ 9223372036854775807) (c1 : -9223372036854775808 ≤ c) (c2 : c ≤ 9223372036854775807) (d1 : 0 ≤ d) (d2 : d ≤ 255) (hR : Ready w er) :
    Calls Tryz.prog 10 #[xv, .int .i64 b, vv, .int .i64 a, .int .i64 c, .int .u8 d] w fun e w' => e = .returned (.bool true) ∧ Below w.heap.size w w' := by
  obtain ⟨xa, xc, rfl, -⟩ := hQ.slice_
  have hV' := hV
  obtain ⟨va, vn, vc, rfl, -⟩ := hV'
  have HA := Lib.hid (And.intro (And.intro b1 b2) (And.intro (And.intro a1 a2) (And.intro c1 c2)))
  have Q1 : Hid (Below w.heap.size w w ∧ Ready w er ∧ IntsR w (.slice va vn vc) ∧ QsAt w (.slice xa xn xc) xn) := Lib.hid ⟨Below.refl _ _, hR, hV, hQ⟩
  clear hR hV hQ b1 b2 a1 a2 c1 c2
  go_enter Tryz.func10, Tryz.ntmps10
  go_wp2_with fail
  refine (sane_any er w Q1.out.2.1).mono ?_
  rintro e w1 ⟨rfl, hB⟩
  have Q2 : Hid (Below w.heap.size w w1 ∧ Ready w1 er ∧ IntsR w1 (.slice va vn vc) ∧ QsAt w1 (.slice xa xn xc) xn) := Lib.hid ⟨below_more Q1.out.1 (Nat.le_refl _) hB, Q1.out.2.1.below hB, Q1.out.2.2.1.below hB, qs_below Q1.out.2.2.2 hB⟩
  clear hB
  go_wp2_with fail
  refine (formats_any _ xn b w1 Q2.out.2.2.2 HA.out.1.1 HA.out.1.2).mono ?_
  rintro e w2 ⟨u, L, id, i, rfl, hF⟩
  obtain ⟨bb, off, lc, rfl⟩ := hF.sl
  obtain ⟨m, hm⟩ : ∃ m, m = L.length := ⟨_, rfl⟩
  have hT := hF.tab
  rw [← hm] at hT ⊢
  have Q3 : Hid (Below w.heap.size w w2 ∧ Ready w2 er ∧ IntsR w2 (.slice va vn vc) ∧ TabW w2 (.slice (some ⟨bb, off, none⟩) m lc) L ∧ Nice L) := Lib.hid ⟨Q2.out.1.trans (hF.b.mono Q2.out.1.size), Q2.out.2.1.below hF.b, Q2.out.2.2.1.below hF.b, hT, hF.nice⟩
  clear hF hT hm
  go_wp2_with fail
  refine (chosen_use Q3.out.2.2.2.2 Q3.out.2.2.2.1 Q3.out.2.2.1).mono ?_
  rintro e w3 ⟨l, n, x, y, rfl, hB, hn, hn9, hs, hA⟩
  obtain ⟨⟨S, E⟩, hw⟩ : ∃ r, wres (writ L id l) = r := ⟨_, rfl⟩
  have Q4 : Hid (Below w.heap.size w w3 ∧ Ready w3 er ∧ TabW w3 (.slice (some ⟨bb, off, none⟩) m lc) L ∧ Nice L ∧ RowA w3 1 (.slice x n y) n (strG l) ∧ n = l.length ∧ Short l ∧ wres (writ L id l) = (S, E)) := Lib.hid ⟨Q3.out.1.trans (hB.mono Q3.out.1.size), Q3.out.2.1.below hB, Q3.out.2.2.2.1.below hB, Q3.out.2.2.2.2, hA, hn, hs, hw⟩
  clear hB hA hn hs hw
  go_wp2_with fail
  refine (write_use (S := S) (E := E) Q4.out.2.1 Q4.out.2.2.1 Q4.out.2.2.2.2.2.1 Q4.out.2.2.2.2.1 Q4.out.2.2.2.2.2.2.1 Q4.out.2.2.2.2.2.2.2).mono ?_
  rintro e w4 ⟨rfl, hB⟩
  obtain ⟨⟨ps, ⟨r0, r1, r2, r3⟩, E1⟩, hm⟩ : ∃ r, mres (mtch L id S) = r := ⟨_, rfl⟩
  obtain ⟨np, hnp⟩ : ∃ np, np = ps.length := ⟨_, rfl⟩
  have Q5 : Hid (Below w.heap.size w w4 ∧ Ready w4 er ∧ TabW w4 (.slice (some ⟨bb, off, none⟩) m lc) L ∧ Nice L) := Lib.hid ⟨Q4.out.1.trans (hB.mono Q4.out.1.size), Q4.out.2.1.below hB, Q4.out.2.2.1.below hB, Q4.out.2.2.2.1⟩
  have HM := Lib.hid (And.intro hm hnp)
  clear hB hm hnp
  go_wp2_with fail
  refine (match_use Q5.out.2.1 Q5.out.2.2.1 HM.out.1 HM.out.2).mono ?_
  rintro e w5 ⟨pa, pc, rfl, hB, hA⟩
  have Q6 : Hid (Below w.heap.size w w5 ∧ Ready w5 er ∧ TabW w5 (.slice (some ⟨bb, off, none⟩) m lc) L ∧ Nice L ∧ RowA w5 6 (.slice pa np pc) np (ptsG ps)) := Lib.hid ⟨Q5.out.1.trans (hB.mono Q5.out.1.size), Q5.out.2.1.below hB, Q5.out.2.2.1.below hB, Q5.out.2.2.2, hA⟩
  clear hB hA
  obtain ⟨w6, hW6⟩ : ∃ W, W = w5.alloc (.cells #[.int .i64 r0, .int .i64 r1, .int .i64 r2, .int .i64 r3] 40) := ⟨_, rfl⟩
  have hb : Below w5.heap.size w5 w6 := by rw [hW6]; exact bx _
  have Q7 : Hid (Below w.heap.size w w6 ∧ Ready w6 er ∧ TabW w6 (.slice (some ⟨bb, off, none⟩) m lc) L ∧ Nice L ∧ RowA w6 6 (.slice pa np pc) np (ptsG ps)) := Lib.hid ⟨Q6.out.1.trans (hb.mono Q6.out.1.size), Q6.out.2.1.below hb, Q6.out.2.2.1.below hb, Q6.out.2.2.2.1, Q6.out.2.2.2.2.below hb⟩
  clear hb
  rcases mres_code HM.out.1 with hE | ⟨hE, -, -⟩
  · subst hE
    by_cases h0 : np = 0
    · subst h0
      go_wp2_with fail
      rw [← hW6]
      first | go_end0 | go_ret
      exact ⟨rfl, Q7.out.1⟩
    · have hnb : ((np : Int) == 0) = false := by rw [beq_eq_false_iff_ne]; omega
      obtain ⟨hmt, -⟩ := mres_ok HM.out.1
      have hall := (mtch_parts hmt).1
      obtain ⟨kp, hkp, kp2⟩ := cpick_nat a np (by omega)
      obtain ⟨p, hp⟩ : ∃ p, ps[kp]? = some p := ⟨_, List.getElem?_eq_getElem (by rw [← HM.out.2]; exact kp2)⟩
      obtain ⟨ip, fk, st, en, p1, p2, p3, p4, p5, -, p7, p8⟩ := hall p (List.mem_of_getElem? hp)
      obtain ⟨pa', pc', pe, pn1, pn2, hpc⟩ := Q7.out.2.2.2.2
      obtain ⟨rfl, rfl⟩ : pa = pa' ∧ pc = pc' := by simpa using pe
      obtain ⟨pb, po, rfl, lpb, hcell⟩ := hpc.resolve_left (by omega)
      unfold maxLen at pn2
      obtain ⟨q0, hq0⟩ : ∃ z, z = p.depth := ⟨_, rfl⟩
      obtain ⟨q1, hq1⟩ : ∃ z, z = p.format := ⟨_, rfl⟩
      obtain ⟨q5, hq5⟩ : ∃ z, z = p.number := ⟨_, rfl⟩
      have hc : ∀ j, j < 6 → w6.cell? ⟨pb, po + (kp * 6 + j), none⟩ = (ptC p)[j]? := fun j hj => (hcell (kp * 6 + j) (by omega)).trans (flatP_get ps kp j p hp hj)
      have c0 : w6.cell? ⟨pb, po + kp * 6, none⟩ = some (.int .i64 q0) := by have := hc 0 (by omega); rw [hq0]; exact this
      have c1 : w6.cell? ⟨pb, po + kp * 6 + 1, none⟩ = some (.int .i64 q1) := by have := hc 1 (by omega); rw [← Nat.add_assoc] at this; rw [hq1]; exact this
      have c2 : w6.cell? ⟨pb, po + kp * 6 + 2, none⟩ = some (.int .i64 (fk : Nat)) := by have := hc 2 (by omega); rw [← Nat.add_assoc] at this; rw [← p2]; exact this
      have c3 : w6.cell? ⟨pb, po + kp * 6 + 3, none⟩ = some (.int .i64 (st : Nat)) := by have := hc 3 (by omega); rw [← Nat.add_assoc] at this; rw [← p4]; exact this
      have c4 : w6.cell? ⟨pb, po + kp * 6 + 4, none⟩ = some (.int .i64 (en : Nat)) := by have := hc 4 (by omega); rw [← Nat.add_assoc] at this; rw [← p5]; exact this
      have c5 : w6.cell? ⟨pb, po + kp * 6 + 5, none⟩ = some (.int .i64 q5) := by have := hc 5 (by omega); rw [← Nat.add_assoc] at this; rw [hq5]; exact this
      have e0 : (0 : Int) ≤ (kp : Int) ∧ (kp : Int) < (np : Int) := by omega
      have HP := Lib.hid (And.intro hmt (And.intro (List.mem_of_getElem? hp) (And.intro (show At L q1 ip from by rw [hq1]; exact p1) (And.intro (And.intro hq1 p2) (And.intro p3 (And.intro (And.intro p4 p5) (And.intro p7 p8)))))))
      have HK := Lib.hid hkp
      clear hmt hall hkp hp p1 p2 p3 p4 p5 p7 p8 pe hpc hcell hc hq0 hq1 hq5
      go_wp2_with fail
      rw [← hW6]
      clear hW6
      refine (fpick_any a np kp w6 HA.out.2.1.1 HA.out.2.1.2 (by omega) (by omega) HK.out).mono ?_
      rintro e w' ⟨rfl, e3w⟩
      subst e3w
      obtain ⟨w6, rfl⟩ : ∃ q, q = w' := ⟨_, rfl⟩
      obtain ⟨W1, hW1⟩ : ∃ W1, W1 = w6.alloc (.cells #[.int .i64 q0, .int .i64 q1, .int .i64 (fk : Nat), .int .i64 (st : Nat), .int .i64 (en : Nat), .int .i64 q5] 26) := ⟨_, rfl⟩
      have hb1 : Below w6.heap.size w6 W1 := by rw [hW1]; exact bx _
      have hB1 : Blk W1 w6.heap.size 26 #[.int .i64 q0, .int .i64 q1, .int .i64 (fk : Nat), .int .i64 (st : Nat), .int .i64 (en : Nat), .int .i64 q5] := by rw [hW1]; exact Blk.new w6 _ _
      obtain ⟨rp, hrp⟩ : ∃ r, r = w6.heap.size := ⟨_, rfl⟩
      rw [← hrp] at hB1
      have Q8 : Hid (Below w.heap.size w W1 ∧ Ready W1 er ∧ TabW W1 (.slice (some ⟨bb, off, none⟩) m lc) L ∧ Nice L ∧ Blk W1 rp 26 #[.int .i64 q0, .int .i64 q1, .int .i64 (fk : Nat), .int .i64 (st : Nat), .int .i64 (en : Nat), .int .i64 q5]) := Lib.hid ⟨Q7.out.1.trans (hb1.mono Q7.out.1.size), Q7.out.2.1.below hb1, Q7.out.2.2.1.below hb1, Q7.out.2.2.2.1, hB1⟩
      have x1 : W1.cell? ⟨rp, 1, none⟩ = some (.int .i64 q1) := by rw [Q8.out.2.2.2.2.cell]; rfl
      have x1' := x1
      rw [hW1] at x1'
      rw [hrp] at x1'
      clear hb1 hB1
      have hFD := rFind3_any _ L q1 W1 Q8.out.2.2.1.at_ (nice_fs Q8.out.2.2.2.1)
      rw [find_at Q8.out.2.2.2.1.ok HP.out.2.2.1] at hFD
      have HFD := Lib.hid hFD
      clear hFD
      go_wp2_with fail
      rw [← hW1]
      rw [← hrp]
      clear hW1 x1' x1 c0 c1 c2 c3 c4 c5
      refine HFD.out.mono ?_
      rintro e w7 ⟨⟨v, rfl, hv1, hv2⟩, hB7⟩
      obtain ⟨fa, fc, rfl, -⟩ := hv1.slice_
      obtain ⟨fq, hfq⟩ : ∃ fq, fq = (L.getD ip zm).fs := ⟨_, rfl⟩
      obtain ⟨mq, hmq⟩ : ∃ mq, mq = fq.length := ⟨_, rfl⟩
      rw [← hfq] at hv1 ⊢
      rw [← hmq] at hv1 ⊢
      have hkm : fk < mq := by rw [hmq, hfq]; exact HP.out.2.2.2.2.1
      obtain ⟨ub, uo, rfl, -, lub, -, hum, hfl⟩ := hv1.at_ (by omega)
      clear hum hrp
      have Q9 : Hid (Below w.heap.size w w7 ∧ Ready w7 er ∧ TabW w7 (.slice (some ⟨bb, off, none⟩) m lc) L ∧ Nice L ∧ Blk w7 rp 26 #[.int .i64 q0, .int .i64 q1, .int .i64 (fk : Nat), .int .i64 (st : Nat), .int .i64 (en : Nat), .int .i64 q5] ∧ FldsAt w7 (.slice (some ⟨ub, uo, none⟩) mq fc) fq ∧ fq = (L.getD ip zm).fs ∧ mq = fq.length) := Lib.hid ⟨Q8.out.1.trans (hB7.mono Q8.out.1.size), Q8.out.2.1.below hB7, Q8.out.2.2.1.below hB7, Q8.out.2.2.2.1, blk_stays Q8.out.2.2.2.2 hB7, by rw [hmq] at hv1 ⊢; exact hv1, hfq, hmq⟩
      clear hB7 hv1 hv2 hfq hmq hfl lub
      obtain ⟨W8, hW8⟩ : ∃ W8, W8 = w7.alloc (.cells #[.int .i64 q1, .slice (some ⟨ub, uo, none⟩) mq fc] 52) := ⟨_, rfl⟩
      have hb8 : Below w7.heap.size w7 W8 := by rw [hW8]; exact bx _
      have hB8 : Blk W8 w7.heap.size 52 #[.int .i64 q1, .slice (some ⟨ub, uo, none⟩) mq fc] := by rw [hW8]; exact Blk.new w7 _ _
      obtain ⟨rf, hrf⟩ : ∃ r, r = w7.heap.size := ⟨_, rfl⟩
      rw [← hrf] at hB8
      have Q10 : Hid (Below w.heap.size w W8 ∧ Ready W8 er ∧ TabW W8 (.slice (some ⟨bb, off, none⟩) m lc) L ∧ Nice L ∧ Blk W8 rp 26 #[.int .i64 q0, .int .i64 q1, .int .i64 (fk : Nat), .int .i64 (st : Nat), .int .i64 (en : Nat), .int .i64 q5] ∧ FldsAt W8 (.slice (some ⟨ub, uo, none⟩) mq fc) fq ∧ fq = (L.getD ip zm).fs ∧ mq = fq.length ∧ Blk W8 rf 52 #[.int .i64 q1, .slice (some ⟨ub, uo, none⟩) mq fc]) := Lib.hid ⟨Q9.out.1.trans (hb8.mono Q9.out.1.size), Q9.out.2.1.below hb8, Q9.out.2.2.1.below hb8, Q9.out.2.2.2.1, blk_stays Q9.out.2.2.2.2.1 hb8, FldsAt.below Q9.out.2.2.2.2.2.1 hb8, Q9.out.2.2.2.2.2.2.1, Q9.out.2.2.2.2.2.2.2, hB8⟩
      clear hb8 hB8
      obtain ⟨f, hf⟩ : ∃ f, f = fq.getD fk zf := ⟨_, rfl⟩
      obtain ⟨kd, hkd⟩ : ∃ kd, kd = f.kind := ⟨_, rfl⟩
      have hflA := Q10.out.2.2.2.2.2.1
      rw [Q10.out.2.2.2.2.2.2.2.1] at hflA
      obtain ⟨ub', uo', ue, -, lub, -, hum, hfc⟩ := hflA.at_ (by rw [← Q10.out.2.2.2.2.2.2.2.1]; omega)
      cases ue
      have k0 : W8.cell? ⟨ub, uo + fk * 4, none⟩ = some (.int .i64 kd) := by rw [hkd, hf]; exact (hfc fk (by rw [← Q10.out.2.2.2.2.2.2.2.1]; exact hkm)).c0
      have y2 : W8.cell? ⟨rp, 2, none⟩ = some (.int .i64 (fk : Nat)) := by rw [Q10.out.2.2.2.2.1.cell]; rfl
      have y3 : W8.cell? ⟨rp, 3, none⟩ = some (.int .i64 (st : Nat)) := by rw [Q10.out.2.2.2.2.1.cell]; rfl
      have y4 : W8.cell? ⟨rp, 4, none⟩ = some (.int .i64 (en : Nat)) := by rw [Q10.out.2.2.2.2.1.cell]; rfl
      have z1 : W8.cell? ⟨rf, 1, none⟩ = some (.slice (some ⟨ub, uo, none⟩) mq fc) := by rw [Q10.out.2.2.2.2.2.2.2.2.cell]; rfl
      have HZ := Lib.hid (And.intro y2 (And.intro y3 (And.intro y4 (And.intro z1 (And.intro (And.intro hf hkd) lub)))))
      have y2x := y2
      have y3x := y3
      have y4x := y4
      have z1x := z1
      have k0x := k0
      rw [hW8] at y2x y3x y4x z1x k0x
      rw [hrf] at z1x
      have t0 : decide ((fk : Int) ≥ (mq : Int)) = false := by simp; omega
      have e1 : (0 : Int) ≤ (fk : Int) ∧ (fk : Int) < (mq : Int) := by omega
      have e9 : (mq : Int) ≤ 1000 := by have := nice_fs Q10.out.2.2.2.1 ip HP.out.2.2.1.1; rw [← Q10.out.2.2.2.2.2.2.1, ← Q10.out.2.2.2.2.2.2.2.1] at this; omega
      clear hf hkd hflA hfc hum y2 y3 y4 z1 k0
      go_wp2_with fail
      rw [← hW8]
      rw [← hrf]
      clear hW8 y2x y3x y4x z1x k0x hrf
      have HC0 : Hid ((kd == 1) = true ↔ kd = 1 ∨ kd = 3 ∧ ∃ i, fk < i ∧ i < fk + 1 ∧ (fq.getD i zf).kind = 6) := Lib.hid ⟨fun h => .inl (by simpa using h), fun h => by
        rcases h with h | ⟨-, i, h1, h2, -⟩
        · simpa using h
        · omega⟩
      obtain ⟨C0, hC0⟩ : ∃ C0, C0 = (kd == 1) := ⟨_, rfl⟩
      rw [← hC0] at HC0 ⊢
      clear hC0
      go_loopw [24, 25] (fun c k wr => ∃ (j : Nat) (C : Bool), fk + 1 ≤ j ∧ j ≤ mq ∧ c = .bool C ∧ k = .int .i64 j ∧ Hid (C = true ↔ kd = 1 ∨ kd = 3 ∧ ∃ i, fk < i ∧ i < j ∧ (fq.getD i zf).kind = 6) ∧ Hid (Below w.heap.size w wr ∧ Ready wr er ∧ TabW wr (.slice (some ⟨bb, off, none⟩) m lc) L ∧ Nice L ∧ Blk wr rp 26 #[.int .i64 q0, .int .i64 q1, .int .i64 (fk : Nat), .int .i64 (st : Nat), .int .i64 (en : Nat), .int .i64 q5] ∧ FldsAt wr (.slice (some ⟨ub, uo, none⟩) mq fc) fq ∧ fq = (L.getD ip zm).fs ∧ mq = fq.length ∧ Blk wr rf 52 #[.int .i64 q1, .slice (some ⟨ub, uo, none⟩) mq fc])) (fun _ k _ => mq - (intOf k).toNat)
      case atStart => exact ⟨fk + 1, C0, Nat.le_refl _, hkm, rfl, by go_num, HC0, Q10⟩
      case round =>
        obtain ⟨j, C, hj1, hj2, rfl, rfl, HC, HJ⟩ := hrel
        obtain ⟨wq, rfl⟩ : ∃ wq, wq = wr := ⟨_, rfl⟩
        by_cases hlt : j < mq
        · obtain ⟨kj, hkj⟩ : ∃ z, z = (fq.getD j zf).kind := ⟨_, rfl⟩
          have hflA := HJ.out.2.2.2.2.2.1
          rw [HJ.out.2.2.2.2.2.2.2.1] at hflA
          obtain ⟨ub', uo', ue, -, lub, -, hum, hfc⟩ := hflA.at_ (by rw [← HJ.out.2.2.2.2.2.2.2.1]; omega)
          cases ue
          have k0 : wq.cell? ⟨ub, uo + fk * 4, none⟩ = some (.int .i64 kd) := by rw [HZ.out.2.2.2.2.1.2, HZ.out.2.2.2.2.1.1]; exact (hfc fk (by rw [← HJ.out.2.2.2.2.2.2.2.1]; exact hkm)).c0
          have k1 : wq.cell? ⟨ub, uo + j * 4, none⟩ = some (.int .i64 kj) := by rw [hkj]; exact (hfc j (by rw [← HJ.out.2.2.2.2.2.2.2.1]; exact hlt)).c0
          have y2 : wq.cell? ⟨rp, 2, none⟩ = some (.int .i64 (fk : Nat)) := by rw [HJ.out.2.2.2.2.1.cell]; rfl
          have z1 : wq.cell? ⟨rf, 1, none⟩ = some (.slice (some ⟨ub, uo, none⟩) mq fc) := by rw [HJ.out.2.2.2.2.2.2.2.2.cell]; rfl
          have lrp := HJ.out.2.2.2.2.1.lt
          have lrf := HJ.out.2.2.2.2.2.2.2.2.lt
          have e2 : (0 : Int) ≤ (j : Int) ∧ (j : Int) < (mq : Int) := by omega
          clear hflA hum hfc
          cases C with
          | true =>
            have HN : Hid (true = true ↔ kd = 1 ∨ kd = 3 ∧ ∃ i, fk < i ∧ i < j + 1 ∧ (fq.getD i zf).kind = 6) := Lib.hid ⟨fun _ => by
              rcases HC.out.1 rfl with h | ⟨h, i, h1, h2, h3⟩
              · exact .inl h
              · exact .inr ⟨h, i, h1, by omega, h3⟩, fun _ => rfl⟩
            clear hkj
            go_wp2_with fail
            go_roundw
            case rel => first | exact ⟨j + 1, true, by omega, by omega, rfl, by go_num, HN, HJ⟩ | ((repeat apply Exists.intro); exact ⟨⟨j + 1, true, by omega, by omega, rfl, by go_num, HN, HJ⟩, rfl⟩)
            case measure => simp [intOf]; omega
          | false =>
            have HF : ∀ B : Bool, (B = true ↔ kd = 3 ∧ kj = 6) → Hid (B = true ↔ kd = 1 ∨ kd = 3 ∧ ∃ i, fk < i ∧ i < j + 1 ∧ (fq.getD i zf).kind = 6) := fun B hB => Lib.hid ⟨fun h => .inr ⟨(hB.1 h).1, j, by omega, by omega, by rw [← hkj]; exact (hB.1 h).2⟩, fun h => by
              have hn := HC.out
              rcases h with h | ⟨h, i, h1, h2, h3⟩
              · exact absurd (hn.2 (.inl h)) (by decide)
              · by_cases hij : i = j
                · subst hij; exact hB.2 ⟨h, by rw [hkj]; exact h3⟩
                · exact absurd (hn.2 (.inr ⟨h, i, h1, by omega, h3⟩)) (by decide)⟩
            by_cases hk3 : kd = 3
            · have t1 : ((kd : Int) == 3) = true := by simpa using hk3
              by_cases hk6 : kj = 6
              · have t2 : ((kj : Int) == 6) = true := by simpa using hk6
                have HN := HF true ⟨fun _ => ⟨hk3, hk6⟩, fun _ => rfl⟩
                clear hkj HF hk3 hk6
                go_wp2_with fail
                go_roundw
                case rel => first | exact ⟨j + 1, true, by omega, by omega, rfl, by go_num, HN, HJ⟩ | ((repeat apply Exists.intro); exact ⟨⟨j + 1, true, by omega, by omega, rfl, by go_num, HN, HJ⟩, rfl⟩)
                case measure => simp [intOf]; omega
              · have t2 : ((kj : Int) == 6) = false := by simpa using hk6
                have HN := HF false ⟨(fun h => by cases h), fun h => absurd h.2 hk6⟩
                clear hkj HF hk3 hk6
                go_wp2_with fail
                go_roundw
                case rel => first | exact ⟨j + 1, false, by omega, by omega, rfl, by go_num, HN, HJ⟩ | ((repeat apply Exists.intro); exact ⟨⟨j + 1, false, by omega, by omega, rfl, by go_num, HN, HJ⟩, rfl⟩)
                case measure => simp [intOf]; omega
            · have t1 : ((kd : Int) == 3) = false := by simpa using hk3
              have HN := HF false ⟨(fun h => by cases h), fun h => absurd h.1 hk3⟩
              clear hkj HF hk3
              go_wp2_with fail
              go_roundw
              case rel => first | exact ⟨j + 1, false, by omega, by omega, rfl, by go_num, HN, HJ⟩ | ((repeat apply Exists.intro); exact ⟨⟨j + 1, false, by omega, by omega, rfl, by go_num, HN, HJ⟩, rfl⟩)
              case measure => simp [intOf]; omega
        · obtain rfl : j = mq := by omega
          have y3 : wq.cell? ⟨rp, 3, none⟩ = some (.int .i64 (st : Nat)) := by rw [HJ.out.2.2.2.2.1.cell]; rfl
          have y4 : wq.cell? ⟨rp, 4, none⟩ = some (.int .i64 (en : Nat)) := by rw [HJ.out.2.2.2.2.1.cell]; rfl
          have z1 : wq.cell? ⟨rf, 1, none⟩ = some (.slice (some ⟨ub, uo, none⟩) j fc) := by rw [HJ.out.2.2.2.2.2.2.2.2.cell]; rfl
          have lrp := HJ.out.2.2.2.2.1.lt
          have lrf := HJ.out.2.2.2.2.2.2.2.2.lt
          cases C with
          | false =>
            go_wp2_with fail
            first | go_end0 | go_ret
            exact ⟨rfl, HJ.out.1⟩
          | true =>
            by_cases hse : en ≤ st
            · have t3 : decide ((en : Int) ≤ (st : Int)) = true := by simp; omega
              go_wp2_with fail
              first | go_end0 | go_ret
              exact ⟨rfl, HJ.out.1⟩
            · have t3 : decide ((en : Int) ≤ (st : Int)) = false := by simp; omega
              by_cases hd0 : d = 0
              · have t4 : ((d : Int) == 0) = true := by simpa using hd0
                go_wp2_with fail
                first | go_end0 | go_ret
                exact ⟨rfl, HJ.out.1⟩
              · have t4 : ((d : Int) == 0) = false := by simpa using hd0
                clear hlt hj1 hj2
                obtain ⟨dn, hdn⟩ : ∃ dn, dn = en - st := ⟨_, rfl⟩
                obtain ⟨kx, hkx, kx2⟩ := cpick_nat c dn (by omega)
                obtain ⟨xx, hxx⟩ : ∃ xx, xx = st + kx := ⟨_, rfl⟩
                have e5 : (en : Int) - (st : Int) = (dn : Nat) := by omega
                have e6 : (st : Int) + (kx : Int) = (xx : Nat) := by omega
                have hp8 := HP.out.2.2.2.2.2.2
                have hxl : xx < S.size := by omega
                have hlims : (en : Int) ≤ 65536 ∧ (st : Int) ≤ 65536 ∧ (dn : Int) ≤ 65536 ∧ (xx : Int) ≤ 65536 ∧ (kx : Int) ≤ 65536 := by have := (mtch_ok HP.out.1).2.1; omega
                have e7 : (0 : Int) ≤ (xx : Int) ∧ (xx : Int) ≤ (S.size : Int) ∧ (xx : Int) < (S.size : Int) ∧ (xx : Int) + 1 ≤ (S.size : Int) ∧ (0 : Int) ≤ (xx : Int) + 1 := by omega
                obtain ⟨dN, rfl⟩ : ∃ dN : Nat, d = dN := ⟨d.toNat, by omega⟩
                have hxor := u8_xor_nat S[xx].toNat dN S[xx].toNat_lt (by omega)
                obtain ⟨z, hz⟩ : ∃ z, z = S[xx].toNat ^^^ dN := ⟨_, rfl⟩
                rw [← hz] at hxor
                have hz256 : z < 256 := by rw [hz]; exact Nat.xor_lt_two_pow (n := 8) S[xx].toNat_lt (by omega)
                have hzne : UInt8.ofNat z ≠ S[xx] := by
                  intro h
                  have h2 := congrArg UInt8.toNat h
                  rw [UInt8.toNat_ofNat'] at h2
                  have h3 : z = S[xx].toNat := by omega
                  have h4 : S[xx].toNat ^^^ (S[xx].toNat ^^^ dN) = S[xx].toNat ^^^ S[xx].toNat := by rw [← hz, h3]
                  rw [← Nat.xor_assoc, Nat.xor_self, Nat.zero_xor] at h4
                  omega
                obtain ⟨hD, hDs⟩ := diff_of hxl hzne
                obtain ⟨S2, hS2⟩ : ∃ S2, S2 = S.extract 0 xx ++ (⟨#[UInt8.ofNat z]⟩ : ByteArray) ++ S.extract (xx + 1) S.size := ⟨_, rfl⟩
                rw [← hS2] at hD hDs
                have hH : Hit L xx p := by
                  have hcc := HC.out.1 rfl
                  refine ⟨ip, fk, st, en, by rw [← HP.out.2.2.2.1.1]; exact HP.out.2.2.1, HP.out.2.2.2.1.2, HP.out.2.2.2.2.1, HP.out.2.2.2.2.2.1.1, HP.out.2.2.2.2.2.1.2, by omega, by omega, ?_⟩
                  rw [← HJ.out.2.2.2.2.2.2.1]
                  rw [HZ.out.2.2.2.2.1.2, HZ.out.2.2.2.2.1.1] at hcc
                  rcases hcc with h | ⟨h, i, h1, h2, h3⟩
                  · exact .inl h
                  · exact .inr ⟨h, i, h1, by rw [← HJ.out.2.2.2.2.2.2.2.1]; exact h2, h3⟩
                obtain ⟨⟨n0, n1, n2, n3⟩, hno⟩ := noticed HP.out.1 HP.out.2.1 hH hD hDs
                have HN2 := Lib.hid (And.intro (show mres (mtch L id S2) = ([], ⟨n0, n1, n2, n3⟩, 50) by rw [hno]; rfl) hS2)
                have HX := Lib.hid (And.intro hkx hz256)
                have hS6 := (mtch_ok HP.out.1).2.1
                have hX6 : (S.extract 0 xx).size ≤ 65536 := by have := (mtch_ok HP.out.1).2.1; rw [ByteArray.size_extract]; omega
                have hY6 : (S.extract (xx + 1) S.size).size ≤ 65536 := by have := (mtch_ok HP.out.1).2.1; rw [ByteArray.size_extract]; omega
                clear hno hH hD hDs hzne hz hdn hxx hkx hp8 hS2 hse hd0 hz256
                have cn1 : ¬ (9223372036854775807 < min xx S.size + 1) := by omega
                have cn2 : ¬ (9223372036854775807 < min xx S.size + 1 + (S.size - (xx + 1))) := by omega
                have cn3 : ¬ (9223372036854775807 < min xx S.size + 1 + (min S.size S.size - (xx + 1))) := by omega
                have y34 := And.intro y3 y4
                have hS7 : (S.size : Int) ≤ 65536 := by omega
                have e5w : IntKind.i64.wrap ((en : Int) - (st : Int)) = (dn : Nat) := by rw [wr64 (by omega) (by omega)]; exact e5
                have e6w : IntKind.i64.wrap ((st : Int) + (kx : Int)) = (xx : Nat) := by rw [wr64 (by omega) (by omega)]; exact e6
                have e7w : IntKind.i64.wrap ((xx : Int) + 1) = (xx : Int) + 1 := wr64 (by omega) (by omega)
                clear hS7
                go_upto_region 18 with fail
                clear e5 e6
                refine wp_region_held_drew (S := (fun W : World => (W.cell? ⟨rp, 3, none⟩ = some (.int .i64 (st : Nat)) ∧ W.cell? ⟨rp, 4, none⟩ = some (.int .i64 (en : Nat))) ∧ ∃ k : Nat, W = wq.drewN k)) (by kernel_rfl) ⟨y34, 1, rfl⟩ (fun hHeld => ?_)
                refine takeH 0 (y := by intro wS hSw; obtain ⟨⟨s3, s4⟩, -⟩ := hSw; go_simp; (try with_reducible rfl)) (h := ?_)
                (try simp only [pA, pB, pC, pD])
                refine takeH 1 (y := by intro wS hSw; obtain ⟨⟨s3, s4⟩, -⟩ := hSw; go_simp; (try with_reducible rfl)) (h := ?_)
                (try simp only [pA, pB, pC, pD])
                refine takeH 2 (y := by intro wS hSw; obtain ⟨⟨s3, s4⟩, -⟩ := hSw; go_simp; (try with_reducible rfl)) (h := ?_)
                (try simp only [pA, pB, pC, pD])
                refine takeH 3 (y := by intro wS hSw; obtain ⟨⟨s3, s4⟩, -⟩ := hSw; go_simp; (try with_reducible rfl)) (h := ?_)
                (try simp only [pA, pB, pC, pD])
                refine takeH 4 (y := by intro wS hSw; obtain ⟨⟨s3, s4⟩, -⟩ := hSw; go_simp; (try with_reducible rfl)) (h := ?_)
                (try simp only [pA, pB, pC, pD])
                refine takeH 5 (y := by intro wS hSw; obtain ⟨⟨s3, s4⟩, -⟩ := hSw; go_simp; (try with_reducible rfl)) (h := ?_)
                (try simp only [pA, pB, pC, pD])
                refine takeH 6 (y := by intro wS hSw; obtain ⟨⟨s3, s4⟩, -⟩ := hSw; go_simp; (try with_reducible rfl)) (h := ?_)
                (try simp only [pA, pB, pC, pD])
                refine takeH 7 (y := by intro wS hSw; obtain ⟨⟨s3, s4⟩, -⟩ := hSw; go_simp; (try with_reducible rfl)) (h := ?_)
                (try simp only [pA, pB, pC, pD])
                refine wpAnyH_ready (rs := [8]) (by kernel_rfl) (by simp) ?_
                refine AllReadyH.cons (o := ?oB9) ?hB9 ?kB9 AllReadyH.nil
                case hB9 => (simp only [List.getElem?_toArray, List.getElem?_cons_zero, List.getElem?_cons_succ]; rfl)
                case kB9 =>
                  intro K hK
                  go_simp
                  refine (fpick_any c dn kx _ HA.out.2.2.1 HA.out.2.2.2 (by omega) (by omega) HX.out.1).mono ?_
                  rintro e w9 ⟨rfl, rfl⟩
                  refine hK.out _ _ ⟨y34, 1, rfl⟩ (fun _ => ?_)
                  clear hK K
                  (try simp only [pA, pB, pC, pD])
                  refine takeH 9 (y := by intro wS hSw; obtain ⟨⟨s3, s4⟩, -⟩ := hSw; go_simp; (try with_reducible rfl)) (h := ?_)
                  (try simp only [pA, pB, pC, pD])
                  refine takeH 10 (y := by intro wS hSw; obtain ⟨⟨s3, s4⟩, -⟩ := hSw; go_simp; (try with_reducible rfl)) (h := ?_)
                  (try simp only [pA, pB, pC, pD])
                  refine wpAnyH_done (by kernel_rfl) ?_ _
                  have Q11 : Hid (Below w.heap.size w wq.drew ∧ Ready wq.drew er ∧ TabW wq.drew (.slice (some ⟨bb, off, none⟩) m lc) L ∧ Nice L) := Lib.hid ⟨HJ.out.1.trans ((drew_below wq).mono HJ.out.1.size), HJ.out.2.1.below (drew_below wq), HJ.out.2.2.1.below (drew_below wq), HJ.out.2.2.2.1⟩
                  clear y3 y4 y34 z1 lrp lrf e5w e6w hHeld
                  obtain ⟨wz, hwz⟩ : ∃ wz, wz = wq.drew := ⟨_, rfl⟩
                  rw [← hwz]
                  rw [← hwz] at Q11
                  clear hwz
                  go_upto_region 19 with fail
                  refine wp_region_held_drew (S := (fun W : World => Below wz.heap.size wz W)) (by kernel_rfl) ((Below.refl _ _).drew) (fun hHeld => ?_)
                  refine takeH 0 (y := by intro wS hSw; clear hSw; go_simp; (try with_reducible rfl)) (h := ?_)
                  (try simp only [pA, pB, pC, pD])
                  refine takeH 1 (y := by intro wS hSw; clear hSw; go_simp; (try with_reducible rfl)) (h := ?_)
                  (try simp only [pA, pB, pC, pD])
                  refine takeH 2 (y := by intro wS hSw; clear hSw; go_simp; (try with_reducible rfl)) (h := ?_)
                  (try simp only [pA, pB, pC, pD])
                  refine takeH 3 (y := by intro wS hSw; clear hSw; go_simp; (try with_reducible rfl)) (h := ?_)
                  (try simp only [pA, pB, pC, pD])
                  refine takeH 4 (y := by intro wS hSw; clear hSw; go_simp; (try with_reducible rfl)) (h := ?_)
                  (try simp only [pA, pB, pC, pD])
                  refine takeH 5 (y := by intro wS hSw; clear hSw; go_simp; (try with_reducible rfl)) (h := ?_)
                  (try simp only [pA, pB, pC, pD])
                  refine takeH 6 (y := by intro wS hSw; clear hSw; go_simp; (try with_reducible rfl)) (h := ?_)
                  (try simp only [pA, pB, pC, pD])
                  refine takeH 7 (y := by intro wS hSw; clear hSw; go_simp; (try with_reducible rfl)) (h := ?_)
                  (try simp only [pA, pB, pC, pD])
                  refine takeH 8 (y := by intro wS hSw; clear hSw; go_simp; (try with_reducible rfl)) (h := ?_)
                  (try simp only [pA, pB, pC, pD])
                  refine takeH 9 (y := by intro wS hSw; clear hSw; go_simp; (try with_reducible rfl)) (h := ?_)
                  (try simp only [pA, pB, pC, pD])
                  refine takeH 13 (y := by intro wS hSw; clear hSw; go_simp; (try with_reducible rfl)) (h := ?_)
                  (try simp only [pA, pB, pC, pD])
                  refine takeH 14 (y := by intro wS hSw; clear hSw; go_simp; (try with_reducible rfl)) (h := ?_)
                  (try simp only [pA, pB, pC, pD])
                  refine takeH 15 (y := by intro wS hSw; clear hSw; go_simp; (try with_reducible rfl)) (h := ?_)
                  (try simp only [pA, pB, pC, pD])
                  refine takeH 16 (y := by intro wS hSw; clear hSw; go_simp; (try with_reducible rfl)) (h := ?_)
                  (try simp only [pA, pB, pC, pD])
                  obtain ⟨W0, hW0⟩ : ∃ W0, W0 = wz.drew := ⟨_, rfl⟩
                  rw [← hW0] at hHeld ⊢
                  clear hW0
                  refine wpAnyH_ready (rs := [10, 23]) (by kernel_rfl) (by simp) ?_
                  refine AllReadyH.cons (o := ?oA26) ?hA26 ?kA26 (AllReadyH.cons (o := ?oB26) ?hB26 ?kB26 AllReadyH.nil)
                  case hA26 => (simp only [List.getElem?_toArray, List.getElem?_cons_zero, List.getElem?_cons_succ]; rfl)
                  case hB26 => (simp only [List.getElem?_toArray, List.getElem?_cons_zero, List.getElem?_cons_succ]; rfl)
                  case kA26 =>
                    intro K hK
                    go_simp
                    have hB1 := hHeld.trans ((bx (w := W0) (.cells #[.int .u8 (z : Nat)] 5)).mono hHeld.size)
                    refine hK.out _ _ hB1 (fun _ => ?_)
                    clear hK K
                    (try simp only [pA, pB, pC, pD])
                    have hz1 := Blk.new W0 5 #[.int .u8 (z : Nat)]
                    obtain ⟨rz, hrz⟩ : ∃ q, q = W0.heap.size := ⟨_, rfl⟩
                    rw [← hrz] at hz1 ⊢
                    generalize W0.alloc (.cells #[.int .u8 (z : Nat)] 5) = W1 at *
                    clear hrz
                    refine wpAnyH_ready (rs := [11, 23]) (by kernel_rfl) (by simp) ?_
                    refine AllReadyH.cons (o := ?oA27) ?hA27 ?kA27 (AllReadyH.cons (o := ?oB27) ?hB27 ?kB27 AllReadyH.nil)
                    case hA27 => (simp only [List.getElem?_toArray, List.getElem?_cons_zero, List.getElem?_cons_succ]; rfl)
                    case hB27 => (simp only [List.getElem?_toArray, List.getElem?_cons_zero, List.getElem?_cons_succ]; rfl)
                    case kA27 =>
                      intro K hK
                      have hcv := conv_one W1 rz z hz1
                      go_simp
                      refine hK.out _ _ hB1 (fun _ => ?_)
                      clear hK K
                      (try simp only [pA, pB, pC, pD])
                      clear hcv
                      refine takeH 12 (y := by intro wS hSw; clear hSw; go_simp; (try with_reducible rfl)) (h := ?_)
                      (try simp only [pA, pB, pC, pD])
                      refine takeH 17 (y := by intro wS hSw; clear hSw; go_simp; (try with_reducible rfl)) (h := ?_)
                      (try simp only [pA, pB, pC, pD])
                      rw [← HN2.out.2]
                      refine wpAnyH_ready (rs := [18, 23]) (by kernel_rfl) (by simp) ?_
                      refine AllReadyH.cons (o := ?oA30) ?hA30 ?kA30 (AllReadyH.cons (o := ?oB30) ?hB30 ?kB30 AllReadyH.nil)
                      case hA30 => (simp only [List.getElem?_toArray, List.getElem?_cons_zero, List.getElem?_cons_succ]; rfl)
                      case hB30 => (simp only [List.getElem?_toArray, List.getElem?_cons_zero, List.getElem?_cons_succ]; rfl)
                      case kA30 =>
                        intro K hK
                        go_simp
                        refine (match_use (Q11.out.2.1.below hB1) (Q11.out.2.2.1.below hB1) HN2.out.1 rfl).mono ?_
                        rintro e W3 ⟨ga, gc, rfl, hb3, -⟩
                        have hB3 := hB1.trans (hb3.mono hB1.size)
                        refine hK.out _ _ hB3 (fun _ => ?_)
                        clear hK K
                        (try simp only [pA, pB, pC, pD])
                        refine takeH 19 (y := by intro wS hSw; clear hSw; go_simp; (try with_reducible rfl)) (h := ?_)
                        (try simp only [pA, pB, pC, pD])
                        refine takeH 20 (y := by intro wS hSw; clear hSw; go_simp; (try with_reducible rfl)) (h := ?_)
                        (try simp only [pA, pB, pC, pD])
                        refine takeH 21 (y := by intro wS hSw; clear hSw; go_simp; (try with_reducible rfl)) (h := ?_)
                        (try simp only [pA, pB, pC, pD])
                        refine takeH 22 (y := by intro wS hSw; clear hSw; go_simp; (try with_reducible rfl)) (h := ?_)
                        (try simp only [pA, pB, pC, pD])
                        refine wpAnyH_ready (rs := [23]) (by kernel_rfl) (by simp) ?_
                        refine AllReadyH.cons (o := ?oA35) ?hA35 ?kA35 AllReadyH.nil
                        case hA35 => (simp only [List.getElem?_toArray, List.getElem?_cons_zero, List.getElem?_cons_succ]; rfl)
                        case kA35 =>
                          intro K hK
                          go_simp
                          have hB4 := hB3.trans ((bx (w := W3) (.cells #[.int .i64 0, .int .i64 0, .int .i64 0, .int .i64 0] 40)).mono hB3.size)
                          refine hK.out _ _ hB4 (fun _ => ?_)
                          clear hK K
                          (try simp only [pA, pB, pC, pD])
                          have hr4 := Blk.new W3 40 #[.int .i64 0, .int .i64 0, .int .i64 0, .int .i64 0]
                          have hle : wz.heap.size ≤ W3.heap.size := hB3.size
                          obtain ⟨rr, hrr⟩ : ∃ q, q = W3.heap.size := ⟨_, rfl⟩
                          rw [← hrr] at hr4 hle ⊢
                          generalize W3.alloc (.cells #[.int .i64 0, .int .i64 0, .int .i64 0, .int .i64 0] 40) = W4 at *
                          clear hrr
                          refine takeH 24 (y := by intro wS hSw; clear hSw; go_simp; (try with_reducible rfl)) (h := ?_)
                          (try simp only [pA, pB, pC, pD])
                          have z0_5 := hr4.cell 0
                          have y0_5 := hr4.frozen 0
                          have z1_5 := hr4.cell 1
                          have y1_5 := hr4.frozen 1
                          have z2_5 := hr4.cell 2
                          have y2_5 := hr4.frozen 2
                          have z3_5 := hr4.cell 3
                          have y3_5 := hr4.frozen 3
                          simp only [List.getElem?_toArray, List.getElem?_cons_zero, List.getElem?_cons_succ] at z0_5 z1_5 z2_5 z3_5
                          refine wpAnyH_ready (rs := [25]) (by kernel_rfl) (by simp) ?_
                          refine AllReadyH.cons (o := ?oB37) ?hB37 ?kB37 AllReadyH.nil
                          case hB37 => (simp only [List.getElem?_toArray, List.getElem?_cons_zero, List.getElem?_cons_succ]; rfl)
                          case kB37 =>
                            intro K hK
                            go_simp
                            have hBs := (((hB4.setCell (p := ⟨rr, 0, none⟩) hle (.int .i64 n0)).setCell (p := ⟨rr, 1, none⟩) hle (.int .i64 n1)).setCell (p := ⟨rr, 2, none⟩) hle (.int .i64 n2)).setCell (p := ⟨rr, 3, none⟩) hle (.int .i64 n3)
                            refine hK.out _ _ hBs (fun _ => ?_)
                            clear hK K
                            (try simp only [pA, pB, pC, pD])
                            refine takeH 26 (y := by intro wS hSw; clear hSw; go_simp; (try with_reducible rfl)) (h := ?_)
                            (try simp only [pA, pB, pC, pD])
                            refine wpAnyH_done (by kernel_rfl) ?_ _
                            have HBS := Lib.hid hBs
                            clear hBs
                            clear z0_5 y0_5 z1_5 y1_5 z2_5 y2_5 z3_5 y3_5
                            go_wp2_with fail
                            first | go_end0 | go_ret
                            exact ⟨rfl, Q11.out.1.trans (HBS.out.mono Q11.out.1.size)⟩
                      case kB30 =>
                        intro K hK
                        go_simp
                        have hB6 := hB1.trans ((bx (w := W1) (.cells #[.int .i64 0, .int .i64 0, .int .i64 0, .int .i64 0] 40)).mono hB1.size)
                        refine hK.out _ _ hB6 (fun _ => ?_)
                        clear hK K
                        (try simp only [pA, pB, pC, pD])
                        have hr6 := Blk.new W1 40 #[.int .i64 0, .int .i64 0, .int .i64 0, .int .i64 0]
                        have hz6 := blk_stays hz1 (bx (w := W1) (.cells #[.int .i64 0, .int .i64 0, .int .i64 0, .int .i64 0] 40))
                        have hle : wz.heap.size ≤ W1.heap.size := hB1.size
                        obtain ⟨rr, hrr⟩ : ∃ q, q = W1.heap.size := ⟨_, rfl⟩
                        rw [← hrr] at hr6 hle ⊢
                        generalize W1.alloc (.cells #[.int .i64 0, .int .i64 0, .int .i64 0, .int .i64 0] 40) = W6 at *
                        clear hrr
                        refine wpAnyH_ready (rs := [18]) (by kernel_rfl) (by simp) ?_
                        refine AllReadyH.cons (o := ?oA39) ?hA39 ?kA39 AllReadyH.nil
                        case hA39 => (simp only [List.getElem?_toArray, List.getElem?_cons_zero, List.getElem?_cons_succ]; rfl)
                        case kA39 =>
                          intro K hK
                          go_simp
                          refine (match_use (Q11.out.2.1.below hB6) (Q11.out.2.2.1.below hB6) HN2.out.1 rfl).mono ?_
                          rintro e W7 ⟨ga, gc, rfl, hb7, -⟩
                          have hB7 := hB6.trans (hb7.mono hB6.size)
                          refine hK.out _ _ hB7 (fun _ => ?_)
                          clear hK K
                          (try simp only [pA, pB, pC, pD])
                          have hr7 := blk_stays hr6 hb7
                          refine takeH 19 (y := by intro wS hSw; clear hSw; go_simp; (try with_reducible rfl)) (h := ?_)
                          (try simp only [pA, pB, pC, pD])
                          refine takeH 20 (y := by intro wS hSw; clear hSw; go_simp; (try with_reducible rfl)) (h := ?_)
                          (try simp only [pA, pB, pC, pD])
                          refine takeH 21 (y := by intro wS hSw; clear hSw; go_simp; (try with_reducible rfl)) (h := ?_)
                          (try simp only [pA, pB, pC, pD])
                          refine takeH 22 (y := by intro wS hSw; clear hSw; go_simp; (try with_reducible rfl)) (h := ?_)
                          (try simp only [pA, pB, pC, pD])
                          refine takeH 24 (y := by intro wS hSw; clear hSw; go_simp; (try with_reducible rfl)) (h := ?_)
                          (try simp only [pA, pB, pC, pD])
                          have z0_8 := hr7.cell 0
                          have y0_8 := hr7.frozen 0
                          have z1_8 := hr7.cell 1
                          have y1_8 := hr7.frozen 1
                          have z2_8 := hr7.cell 2
                          have y2_8 := hr7.frozen 2
                          have z3_8 := hr7.cell 3
                          have y3_8 := hr7.frozen 3
                          simp only [List.getElem?_toArray, List.getElem?_cons_zero, List.getElem?_cons_succ] at z0_8 z1_8 z2_8 z3_8
                          refine wpAnyH_ready (rs := [25]) (by kernel_rfl) (by simp) ?_
                          refine AllReadyH.cons (o := ?oB45) ?hB45 ?kB45 AllReadyH.nil
                          case hB45 => (simp only [List.getElem?_toArray, List.getElem?_cons_zero, List.getElem?_cons_succ]; rfl)
                          case kB45 =>
                            intro K hK
                            go_simp
                            have hBs := (((hB7.setCell (p := ⟨rr, 0, none⟩) hle (.int .i64 n0)).setCell (p := ⟨rr, 1, none⟩) hle (.int .i64 n1)).setCell (p := ⟨rr, 2, none⟩) hle (.int .i64 n2)).setCell (p := ⟨rr, 3, none⟩) hle (.int .i64 n3)
                            refine hK.out _ _ hBs (fun _ => ?_)
                            clear hK K
                            (try simp only [pA, pB, pC, pD])
                            refine takeH 26 (y := by intro wS hSw; clear hSw; go_simp; (try with_reducible rfl)) (h := ?_)
                            (try simp only [pA, pB, pC, pD])
                            refine wpAnyH_done (by kernel_rfl) ?_ _
                            have HBS := Lib.hid hBs
                            clear hBs
                            clear z0_8 y0_8 z1_8 y1_8 z2_8 y2_8 z3_8 y3_8
                            go_wp2_with fail
                            first | go_end0 | go_ret
                            exact ⟨rfl, Q11.out.1.trans (HBS.out.mono Q11.out.1.size)⟩
                    case kB27 =>
                      intro K hK
                      go_simp
                      have hB9 := hB1.trans ((bx (w := W1) (.cells #[.int .i64 0, .int .i64 0, .int .i64 0, .int .i64 0] 40)).mono hB1.size)
                      refine hK.out _ _ hB9 (fun _ => ?_)
                      clear hK K
                      (try simp only [pA, pB, pC, pD])
                      have hr9 := Blk.new W1 40 #[.int .i64 0, .int .i64 0, .int .i64 0, .int .i64 0]
                      have hz9 := blk_stays hz1 (bx (w := W1) (.cells #[.int .i64 0, .int .i64 0, .int .i64 0, .int .i64 0] 40))
                      have hle : wz.heap.size ≤ W1.heap.size := hB1.size
                      obtain ⟨rr, hrr⟩ : ∃ q, q = W1.heap.size := ⟨_, rfl⟩
                      rw [← hrr] at hr9 hle ⊢
                      generalize W1.alloc (.cells #[.int .i64 0, .int .i64 0, .int .i64 0, .int .i64 0] 40) = W9 at *
                      clear hrr
                      refine wpAnyH_ready (rs := [11]) (by kernel_rfl) (by simp) ?_
                      refine AllReadyH.cons (o := ?oA47) ?hA47 ?kA47 AllReadyH.nil
                      case hA47 => (simp only [List.getElem?_toArray, List.getElem?_cons_zero, List.getElem?_cons_succ]; rfl)
                      case kA47 =>
                        intro K hK
                        have hcv := conv_one W9 rz z hz9
                        go_simp
                        refine hK.out _ _ hB9 (fun _ => ?_)
                        clear hK K
                        (try simp only [pA, pB, pC, pD])
                        clear hcv
                        refine takeH 12 (y := by intro wS hSw; clear hSw; go_simp; (try with_reducible rfl)) (h := ?_)
                        (try simp only [pA, pB, pC, pD])
                        refine takeH 17 (y := by intro wS hSw; clear hSw; go_simp; (try with_reducible rfl)) (h := ?_)
                        (try simp only [pA, pB, pC, pD])
                        rw [← HN2.out.2]
                        refine wpAnyH_ready (rs := [18]) (by kernel_rfl) (by simp) ?_
                        refine AllReadyH.cons (o := ?oA50) ?hA50 ?kA50 AllReadyH.nil
                        case hA50 => (simp only [List.getElem?_toArray, List.getElem?_cons_zero, List.getElem?_cons_succ]; rfl)
                        case kA50 =>
                          intro K hK
                          go_simp
                          refine (match_use (Q11.out.2.1.below hB9) (Q11.out.2.2.1.below hB9) HN2.out.1 rfl).mono ?_
                          rintro e W11 ⟨ga, gc, rfl, hb11, -⟩
                          have hB11 := hB9.trans (hb11.mono hB9.size)
                          refine hK.out _ _ hB11 (fun _ => ?_)
                          clear hK K
                          (try simp only [pA, pB, pC, pD])
                          have hr11 := blk_stays hr9 hb11
                          refine takeH 19 (y := by intro wS hSw; clear hSw; go_simp; (try with_reducible rfl)) (h := ?_)
                          (try simp only [pA, pB, pC, pD])
                          refine takeH 20 (y := by intro wS hSw; clear hSw; go_simp; (try with_reducible rfl)) (h := ?_)
                          (try simp only [pA, pB, pC, pD])
                          refine takeH 21 (y := by intro wS hSw; clear hSw; go_simp; (try with_reducible rfl)) (h := ?_)
                          (try simp only [pA, pB, pC, pD])
                          refine takeH 22 (y := by intro wS hSw; clear hSw; go_simp; (try with_reducible rfl)) (h := ?_)
                          (try simp only [pA, pB, pC, pD])
                          refine takeH 24 (y := by intro wS hSw; clear hSw; go_simp; (try with_reducible rfl)) (h := ?_)
                          (try simp only [pA, pB, pC, pD])
                          have z0_12 := hr11.cell 0
                          have y0_12 := hr11.frozen 0
                          have z1_12 := hr11.cell 1
                          have y1_12 := hr11.frozen 1
                          have z2_12 := hr11.cell 2
                          have y2_12 := hr11.frozen 2
                          have z3_12 := hr11.cell 3
                          have y3_12 := hr11.frozen 3
                          simp only [List.getElem?_toArray, List.getElem?_cons_zero, List.getElem?_cons_succ] at z0_12 z1_12 z2_12 z3_12
                          refine wpAnyH_ready (rs := [25]) (by kernel_rfl) (by simp) ?_
                          refine AllReadyH.cons (o := ?oB56) ?hB56 ?kB56 AllReadyH.nil
                          case hB56 => (simp only [List.getElem?_toArray, List.getElem?_cons_zero, List.getElem?_cons_succ]; rfl)
                          case kB56 =>
                            intro K hK
                            go_simp
                            have hBs := (((hB11.setCell (p := ⟨rr, 0, none⟩) hle (.int .i64 n0)).setCell (p := ⟨rr, 1, none⟩) hle (.int .i64 n1)).setCell (p := ⟨rr, 2, none⟩) hle (.int .i64 n2)).setCell (p := ⟨rr, 3, none⟩) hle (.int .i64 n3)
                            refine hK.out _ _ hBs (fun _ => ?_)
                            clear hK K
                            (try simp only [pA, pB, pC, pD])
                            refine takeH 26 (y := by intro wS hSw; clear hSw; go_simp; (try with_reducible rfl)) (h := ?_)
                            (try simp only [pA, pB, pC, pD])
                            refine wpAnyH_done (by kernel_rfl) ?_ _
                            have HBS := Lib.hid hBs
                            clear hBs
                            clear z0_12 y0_12 z1_12 y1_12 z2_12 y2_12 z3_12 y3_12
                            go_wp2_with fail
                            first | go_end0 | go_ret
                            exact ⟨rfl, Q11.out.1.trans (HBS.out.mono Q11.out.1.size)⟩
                  case kB26 =>
                    intro K hK
                    go_simp
                    have hB13 := hHeld.trans ((bx (w := W0) (.cells #[.int .i64 0, .int .i64 0, .int .i64 0, .int .i64 0] 40)).mono hHeld.size)
                    refine hK.out _ _ hB13 (fun _ => ?_)
                    clear hK K
                    (try simp only [pA, pB, pC, pD])
                    have hr13 := Blk.new W0 40 #[.int .i64 0, .int .i64 0, .int .i64 0, .int .i64 0]
                    have hle : wz.heap.size ≤ W0.heap.size := hHeld.size
                    obtain ⟨rr, hrr⟩ : ∃ q, q = W0.heap.size := ⟨_, rfl⟩
                    rw [← hrr] at hr13 hle ⊢
                    generalize W0.alloc (.cells #[.int .i64 0, .int .i64 0, .int .i64 0, .int .i64 0] 40) = W13 at *
                    clear hrr
                    refine wpAnyH_ready (rs := [10]) (by kernel_rfl) (by simp) ?_
                    refine AllReadyH.cons (o := ?oA58) ?hA58 ?kA58 AllReadyH.nil
                    case hA58 => (simp only [List.getElem?_toArray, List.getElem?_cons_zero, List.getElem?_cons_succ]; rfl)
                    case kA58 =>
                      intro K hK
                      go_simp
                      have hB14 := hB13.trans ((bx (w := W13) (.cells #[.int .u8 (z : Nat)] 5)).mono hB13.size)
                      refine hK.out _ _ hB14 (fun _ => ?_)
                      clear hK K
                      (try simp only [pA, pB, pC, pD])
                      have hz14 := Blk.new W13 5 #[.int .u8 (z : Nat)]
                      have hr14 := blk_stays hr13 (bx (w := W13) (.cells #[.int .u8 (z : Nat)] 5))
                      obtain ⟨rz, hrz⟩ : ∃ q, q = W13.heap.size := ⟨_, rfl⟩
                      rw [← hrz] at hz14 ⊢
                      generalize W13.alloc (.cells #[.int .u8 (z : Nat)] 5) = W14 at *
                      clear hrz
                      refine wpAnyH_ready (rs := [11]) (by kernel_rfl) (by simp) ?_
                      refine AllReadyH.cons (o := ?oA59) ?hA59 ?kA59 AllReadyH.nil
                      case hA59 => (simp only [List.getElem?_toArray, List.getElem?_cons_zero, List.getElem?_cons_succ]; rfl)
                      case kA59 =>
                        intro K hK
                        have hcv := conv_one W14 rz z hz14
                        go_simp
                        refine hK.out _ _ hB14 (fun _ => ?_)
                        clear hK K
                        (try simp only [pA, pB, pC, pD])
                        clear hcv
                        refine takeH 12 (y := by intro wS hSw; clear hSw; go_simp; (try with_reducible rfl)) (h := ?_)
                        (try simp only [pA, pB, pC, pD])
                        refine takeH 17 (y := by intro wS hSw; clear hSw; go_simp; (try with_reducible rfl)) (h := ?_)
                        (try simp only [pA, pB, pC, pD])
                        rw [← HN2.out.2]
                        refine wpAnyH_ready (rs := [18]) (by kernel_rfl) (by simp) ?_
                        refine AllReadyH.cons (o := ?oA62) ?hA62 ?kA62 AllReadyH.nil
                        case hA62 => (simp only [List.getElem?_toArray, List.getElem?_cons_zero, List.getElem?_cons_succ]; rfl)
                        case kA62 =>
                          intro K hK
                          go_simp
                          refine (match_use (Q11.out.2.1.below hB14) (Q11.out.2.2.1.below hB14) HN2.out.1 rfl).mono ?_
                          rintro e W16 ⟨ga, gc, rfl, hb16, -⟩
                          have hB16 := hB14.trans (hb16.mono hB14.size)
                          refine hK.out _ _ hB16 (fun _ => ?_)
                          clear hK K
                          (try simp only [pA, pB, pC, pD])
                          have hr16 := blk_stays hr14 hb16
                          refine takeH 19 (y := by intro wS hSw; clear hSw; go_simp; (try with_reducible rfl)) (h := ?_)
                          (try simp only [pA, pB, pC, pD])
                          refine takeH 20 (y := by intro wS hSw; clear hSw; go_simp; (try with_reducible rfl)) (h := ?_)
                          (try simp only [pA, pB, pC, pD])
                          refine takeH 21 (y := by intro wS hSw; clear hSw; go_simp; (try with_reducible rfl)) (h := ?_)
                          (try simp only [pA, pB, pC, pD])
                          refine takeH 22 (y := by intro wS hSw; clear hSw; go_simp; (try with_reducible rfl)) (h := ?_)
                          (try simp only [pA, pB, pC, pD])
                          refine takeH 24 (y := by intro wS hSw; clear hSw; go_simp; (try with_reducible rfl)) (h := ?_)
                          (try simp only [pA, pB, pC, pD])
                          have z0_17 := hr16.cell 0
                          have y0_17 := hr16.frozen 0
                          have z1_17 := hr16.cell 1
                          have y1_17 := hr16.frozen 1
                          have z2_17 := hr16.cell 2
                          have y2_17 := hr16.frozen 2
                          have z3_17 := hr16.cell 3
                          have y3_17 := hr16.frozen 3
                          simp only [List.getElem?_toArray, List.getElem?_cons_zero, List.getElem?_cons_succ] at z0_17 z1_17 z2_17 z3_17
                          refine wpAnyH_ready (rs := [25]) (by kernel_rfl) (by simp) ?_
                          refine AllReadyH.cons (o := ?oB68) ?hB68 ?kB68 AllReadyH.nil
                          case hB68 => (simp only [List.getElem?_toArray, List.getElem?_cons_zero, List.getElem?_cons_succ]; rfl)
                          case kB68 =>
                            intro K hK
                            go_simp
                            have hBs := (((hB16.setCell (p := ⟨rr, 0, none⟩) hle (.int .i64 n0)).setCell (p := ⟨rr, 1, none⟩) hle (.int .i64 n1)).setCell (p := ⟨rr, 2, none⟩) hle (.int .i64 n2)).setCell (p := ⟨rr, 3, none⟩) hle (.int .i64 n3)
                            refine hK.out _ _ hBs (fun _ => ?_)
                            clear hK K
                            (try simp only [pA, pB, pC, pD])
                            refine takeH 26 (y := by intro wS hSw; clear hSw; go_simp; (try with_reducible rfl)) (h := ?_)
                            (try simp only [pA, pB, pC, pD])
                            refine wpAnyH_done (by kernel_rfl) ?_ _
                            have HBS := Lib.hid hBs
                            clear hBs
                            clear z0_17 y0_17 z1_17 y1_17 z2_17 y2_17 z3_17 y3_17
                            go_wp2_with fail
                            first | go_end0 | go_ret
                            exact ⟨rfl, Q11.out.1.trans (HBS.out.mono Q11.out.1.size)⟩
  · subst hE
    go_wp2_with fail
    rw [← hW6]
    first | go_end0 | go_ret
    exact ⟨rfl, Q7.out.1⟩
end Go.Proofs.YtdndmhlmbpgdeaaGreatDoor
