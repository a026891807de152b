/- The law RecogniseReasons: it returns true. Conditions: rows of four numbers, two numbers, a byte, a list of numbers and a string that can be read; the variables of the errors are laid. -/
import Derived.Test.YtdndmhlmbpgdeaaGreatDoorPb01
import Derived.Test.YtdndmhlmbpgdeaaGreatDoorPb20
import Derived.Test.YtdndmhlmbpgdeaaGreatDoorPe02
namespace Go.Proofs.YtdndmhlmbpgdeaaGreatDoor
open Go.RowKit Go.Sort Fx Rec Rt

theorem qs_below {w w' : World} {v : Value} {n : Nat} (h : QsAt w v n) (hb : Below w.heap.size w w') : QsAt w' v n := by
  rcases h with h | ⟨b, off, cap, rfl, h1, h2, h3, h4, h5⟩
  · exact .inl h
  · refine .inr ⟨b, off, cap, rfl, h1, h2, h3, Nat.lt_of_lt_of_le h4 hb.size, fun i j hi hj => ?_⟩
    obtain ⟨z, e, h6⟩ := h5 i j hi hj
    exact ⟨z, (hb.cell (p := ⟨b, off + i * 4 + j, none⟩) h4).trans e, h6⟩
theorem nice_fs {L : List Fm} (h : Nice L) : ∀ j, j < L.length → (L.getD j zm).fs.length ≤ 1000 := fun j hj => by have := h.fs j hj; omega
theorem blk_stays {w w' : World} {b : Nat} {t : TypeId} {cs : Array Value} (h : Blk w b t cs) (hb : Below w.heap.size w w') : Blk w' b t cs := (hb.block _ h.lt).trans h
theorem wres_size {L : List Fm} {id : Int} {l : List ByteArray} {S : ByteArray} {E : Int} (h : wres (writ L id l) = (S, E)) (hs : Short l) : S.size ≤ 65536 := by
  rcases wres_code h with rfl | ⟨-, rfl, -⟩
  · obtain ⟨ps, hm, -⟩ := wrote (wres_ok h) hs
    exact (mtch_ok hm).2.1
  · decide
set_option maxRecDepth 20000 in
theorem lleast_any (v : Value) (l : List Fm) (id r : Int) (w : World) (hV : FmsAt (· < w.heap.size) w v l) (hI : IntsL l) (hl : l.length ≤ 1000) (hr : least l id = r) :
    Calls Tryz.prog 31 #[v, .int .i64 id] w fun e w' => e = .returned (.int .i64 r) ∧ Below w.heap.size w w' := by
  have H := Lib.hid (rLeast_any v l id r w hV hI hl hr)
  obtain ⟨la, lc, rfl, -⟩ := hV.slice_
  clear hV hI hr
  go_enter Tryz.func31, Tryz.ntmps31
  go_wp2_with fail
  refine H.out.mono ?_
  rintro e w5 ⟨rfl, hB⟩
  have HB := Lib.hid hB
  clear hB
  go_wp2_with fail
  first | go_end0 | go_ret
  exact ⟨rfl, HB.out⟩
/-- Strings that begin as another one. -/
def Begins (s : ByteArray) (E : Nat) (z : ByteArray) : Prop := ∀ j, j < E → s.data.toList[j]? = z.data.toList[j]?
theorem begins_ext {s : ByteArray} {E : Nat} (hE : E ≤ s.size) : Begins s E (s.extract 0 E) ∧ E ≤ (s.extract 0 E).size := by
  have e1 := ext_seg s 0 E
  rw [Nat.zero_add] at e1
  refine ⟨fun j hj => ?_, by rw [ByteArray.size_extract]; omega⟩
  rw [e1, bytes_list, seg_get, if_pos hj, Nat.zero_add]
theorem begins_app {s z : ByteArray} {E : Nat} (h : Begins s E z ∧ E ≤ z.size) (c : ByteArray) : Begins s E (z ++ c) ∧ E ≤ (z ++ c).size := by
  refine ⟨fun j hj => ?_, by rw [ByteArray.size_append]; omega⟩
  rw [ByteArray.data_append, Array.toList_append, List.getElem?_append_left (by rw [size_list]; omega)]
  exact h.1 j hj
theorem one_of_four {s : ByteArray} {E : Nat} {a b c d : ByteArray} {j : Nat} (hj : j < 4) (ha : Begins s E a) (hb : Begins s E b) (hc : Begins s E c) (hd : Begins s E d) : ∃ z : ByteArray, (#[.string a, .string b, .string c, .string d] : Array Value)[j]? = some (.string z) ∧ Begins s E z := by
  obtain rfl | rfl | rfl | rfl : j = 0 ∨ j = 1 ∨ j = 2 ∨ j = 3 := by omega
  · exact ⟨a, rfl, ha⟩
  · exact ⟨b, rfl, hb⟩
  · exact ⟨c, rfl, hc⟩
  · exact ⟨d, rfl, hd⟩
set_option maxRecDepth 100000 in
set_option maxHeartbeats 4000000 in
theorem reasons_law (xv vv : Value) (xn : Nat) (b a c : Int) (R0 : ByteArray) (er : Addr) (w : World) (hQ : QsAt w xv xn) (hV : IntsR w vv) (b1 : -9223372036854775808 ≤ b) (b2 : b ≤ 9223372036854775807) (a1 : -9223372036854775808 ≤ a) (a2 : a ≤ 9223372036854775807) (hR : Ready w er) :
    Calls Tryz.prog 8 #[xv, .int .i64 b, vv, .int .i64 a, .int .u8 c, .string R0] w fun e w' => e = .returned (.bool true) ∧ Below w.heap.size w w' := by
  obtain ⟨xa, xc, rfl, -⟩ := hQ.slice_
  have hV' := hV
  obtain ⟨va, vn, vc, rfl, -⟩ := hV'
  have HA := Lib.hid (And.intro (And.intro b1 b2) (And.intro a1 a2))
  have Q1 : Hid (Below w.heap.size w w ∧ Ready w er ∧ IntsR w (.slice va vn vc) ∧ QsAt w (.slice xa xn xc) xn) := Lib.hid ⟨Below.refl _ _, hR, hV, hQ⟩
  clear hR hV hQ b1 b2 a1 a2
  go_enter Tryz.func8, Tryz.ntmps8
  go_wp2_with fail
  refine (sane_any er w Q1.out.2.1).mono ?_
  rintro e w1 ⟨rfl, hB⟩
  have Q2 : Hid (Below w.heap.size w w1 ∧ Ready w1 er ∧ IntsR w1 (.slice va vn vc) ∧ QsAt w1 (.slice xa xn xc) xn) := Lib.hid ⟨below_more Q1.out.1 (Nat.le_refl _) hB, Q1.out.2.1.below hB, Q1.out.2.2.1.below hB, qs_below Q1.out.2.2.2 hB⟩
  clear hB
  go_wp2_with fail
  refine (formats_any _ xn b w1 Q2.out.2.2.2 HA.out.1.1 HA.out.1.2).mono ?_
  rintro e w2 ⟨u, L, id, i, rfl, hF⟩
  obtain ⟨bb, off, lc, rfl⟩ := hF.sl
  obtain ⟨m, hm⟩ : ∃ m, m = L.length := ⟨_, rfl⟩
  have hT := hF.tab
  rw [← hm] at hT ⊢
  obtain ⟨c3, hc3⟩ : ∃ c3 : Nat, c3 = min R0.size 60 := ⟨_, rfl⟩
  have hmn : ∀ ts t W, (Builtin.min_ ts t #[.int .i64 (R0.size : Nat), .int .i64 60]).run Tryz.prog W = .ok (.int .i64 (c3 : Nat)) W := fun ts t W => by
    subst hc3
    simp [Builtin.min_, Builtin.min2]
    first | omega | (split <;> simp <;> omega) | skip
  have hc4 : (0 : Int) ≤ (c3 : Int) ∧ (c3 : Int) ≤ (R0.size : Int) := by omega
  have hc60 : c3 ≤ 60 := by omega
  have Q3 : Hid (Below w.heap.size w w2 ∧ Ready w2 er ∧ IntsR w2 (.slice va vn vc) ∧ TabW w2 (.slice (some ⟨bb, off, none⟩) m lc) L ∧ Nice L ∧ At L id i) := Lib.hid ⟨Q2.out.1.trans (hF.b.mono Q2.out.1.size), Q2.out.2.1.below hF.b, Q2.out.2.2.1.below hF.b, hT, hF.nice, hF.at_⟩
  clear hF hT hm hc3
  go_wp2_with fail
  obtain ⟨Rx, hRx⟩ : ∃ Rx, Rx = R0.extract 0 c3 := ⟨_, rfl⟩
  have hRs : Rx.size ≤ 60 := by rw [hRx, ByteArray.size_extract]; omega
  rw [← hRx]
  clear hRx hmn hc4 hc60
  refine (chosen_use Q3.out.2.2.2.2.1 Q3.out.2.2.2.1 Q3.out.2.2.1).mono ?_
  rintro e w3 ⟨l, n, x, y, rfl, hB, hn, hn9, hs, hA⟩
  obtain ⟨⟨S, E⟩, hw⟩ : ∃ r, wres (writ L id l) = r := ⟨_, rfl⟩
  have Q4 : Hid (Below w.heap.size w w3 ∧ Ready w3 er ∧ TabW w3 (.slice (some ⟨bb, off, none⟩) m lc) L ∧ Nice L ∧ At L id i ∧ RowA w3 1 (.slice x n y) n (strG l) ∧ n = l.length ∧ Short l ∧ wres (writ L id l) = (S, E)) := Lib.hid ⟨Q3.out.1.trans (hB.mono Q3.out.1.size), Q3.out.2.1.below hB, Q3.out.2.2.2.1.below hB, Q3.out.2.2.2.2.1, Q3.out.2.2.2.2.2, hA, hn, hs, hw⟩
  clear hB hA hn hs hw
  go_wp2_with fail
  refine (write_use (S := S) (E := E) Q4.out.2.1 Q4.out.2.2.1 Q4.out.2.2.2.2.2.2.1 Q4.out.2.2.2.2.2.1 Q4.out.2.2.2.2.2.2.2.1 Q4.out.2.2.2.2.2.2.2.2).mono ?_
  rintro e w4 ⟨rfl, hB⟩
  have hS6 := wres_size Q4.out.2.2.2.2.2.2.2.2 Q4.out.2.2.2.2.2.2.2.1
  have Q5 : Hid (Below w.heap.size w w4 ∧ Ready w4 er ∧ TabW w4 (.slice (some ⟨bb, off, none⟩) m lc) L ∧ Nice L ∧ At L id i) := Lib.hid ⟨Q4.out.1.trans (hB.mono Q4.out.1.size), Q4.out.2.1.below hB, Q4.out.2.2.1.below hB, Q4.out.2.2.2.1, Q4.out.2.2.2.2.1⟩
  clear hB
  go_wp2_with fail
  refine (changed_any S a c w4 (by omega) HA.out.2.1 HA.out.2.2).mono ?_
  rintro e w5 ⟨s, rfl, hss, hB⟩
  have hs6 : s.size ≤ 65536 := by omega
  obtain ⟨⟨ps, ⟨r0, r1, r2, r3⟩, E1⟩, hm⟩ : ∃ r, mres (mtch L id s) = r := ⟨_, rfl⟩
  obtain ⟨np, hnp⟩ : ∃ np, np = ps.length := ⟨_, rfl⟩
  have Q6 : Hid (Below w.heap.size w w5 ∧ Ready w5 er ∧ TabW w5 (.slice (some ⟨bb, off, none⟩) m lc) L ∧ Nice L ∧ At L id i) := Lib.hid ⟨Q5.out.1.trans (hB.mono Q5.out.1.size), Q5.out.2.1.below hB, Q5.out.2.2.1.below hB, Q5.out.2.2.2.1, Q5.out.2.2.2.2⟩
  have HM := Lib.hid (And.intro hm hnp)
  clear hB hm hnp hss
  go_wp2_with fail
  refine (match_use Q6.out.2.1 Q6.out.2.2.1 HM.out.1 HM.out.2).mono ?_
  rintro e w6 ⟨pa, pc, rfl, hB, -⟩
  have Q7 : Hid (Below w.heap.size w w6 ∧ Ready w6 er ∧ TabW w6 (.slice (some ⟨bb, off, none⟩) m lc) L ∧ Nice L ∧ At L id i) := Lib.hid ⟨Q6.out.1.trans (hB.mono Q6.out.1.size), Q6.out.2.1.below hB, Q6.out.2.2.1.below hB, Q6.out.2.2.2.1, Q6.out.2.2.2.2⟩
  clear hB
  obtain ⟨w7, hW7⟩ : ∃ W, W = w6.alloc (.cells #[.int .i64 r0, .int .i64 r1, .int .i64 r2, .int .i64 r3] 40) := ⟨_, rfl⟩
  have hb : Below w6.heap.size w6 w7 := by rw [hW7]; exact bx _
  have hbl : Blk w7 w6.heap.size 40 #[.int .i64 r0, .int .i64 r1, .int .i64 r2, .int .i64 r3] := by rw [hW7]; exact Blk.new w6 _ _
  obtain ⟨rb, hrb⟩ : ∃ q, q = w6.heap.size := ⟨_, rfl⟩
  rw [← hrb] at hbl
  have Q8 : Hid (Below w.heap.size w w7 ∧ Ready w7 er ∧ TabW w7 (.slice (some ⟨bb, off, none⟩) m lc) L ∧ Nice L ∧ At L id i ∧ Blk w7 rb 40 #[.int .i64 r0, .int .i64 r1, .int .i64 r2, .int .i64 r3]) := Lib.hid ⟨Q7.out.1.trans (hb.mono Q7.out.1.size), Q7.out.2.1.below hb, Q7.out.2.2.1.below hb, Q7.out.2.2.2.1, Q7.out.2.2.2.2, hbl⟩
  clear hb hbl
  rcases mres_code HM.out.1 with hE | ⟨hE, hps, hme⟩
  · subst hE
    go_wp2_with fail
    rw [← hW7]
    rw [← hrb]
    clear hW7 hrb
    go_loopw [22] (fun k wr => ∃ j : Nat, j ≤ s.size ∧ k = .int .i64 j ∧ Hid (Below w.heap.size w wr ∧ Ready wr er ∧ TabW wr (.slice (some ⟨bb, off, none⟩) m lc) L ∧ Nice L ∧ At L id i ∧ Blk wr rb 40 #[.int .i64 r0, .int .i64 r1, .int .i64 r2, .int .i64 r3])) (fun k _ => s.size - (intOf k).toNat)
    case atStart => exact ⟨0, Nat.zero_le _, rfl, Q8⟩
    case round =>
      obtain ⟨j, hj, rfl, HJ⟩ := hrel
      obtain ⟨wq, rfl⟩ : ∃ wq, wq = wr := ⟨_, rfl⟩
      by_cases hlt : j < s.size
      · obtain ⟨Z, hZ⟩ : ∃ Z, Z = s.extract 0 j := ⟨_, rfl⟩
        obtain ⟨⟨qs, ⟨n0, n1, n2, n3⟩, E2⟩, hm2⟩ : ∃ r, mres (mtch L id Z) = r := ⟨_, rfl⟩
        obtain ⟨nq, hnq⟩ : ∃ nq, nq = qs.length := ⟨_, rfl⟩
        have HM2 := Lib.hid (And.intro hm2 (And.intro hnq hZ))
        have e1 : (0 : Int) ≤ (j : Int) ∧ (j : Int) ≤ (s.size : Int) ∧ (j : Int) < (s.size : Int) := by omega
        clear hm2 hnq
        go_wp2_with fail
        rw [← hZ]
        clear hZ
        refine (match_use HJ.out.2.1 HJ.out.2.2.1 HM2.out.1 HM2.out.2.1).mono ?_
        rintro e w8 ⟨ga, gc, rfl, hB, -⟩
        have Q9 : Hid (Below w.heap.size w w8 ∧ Ready w8 er ∧ TabW w8 (.slice (some ⟨bb, off, none⟩) m lc) L ∧ Nice L ∧ At L id i ∧ Blk w8 rb 40 #[.int .i64 r0, .int .i64 r1, .int .i64 r2, .int .i64 r3]) := Lib.hid ⟨HJ.out.1.trans (hB.mono HJ.out.1.size), HJ.out.2.1.below hB, HJ.out.2.2.1.below hB, HJ.out.2.2.2.1, HJ.out.2.2.2.2.1, blk_stays HJ.out.2.2.2.2.2 hB⟩
        clear hB
        obtain ⟨W9, hW9⟩ : ∃ W, W = w8.alloc (.cells #[.int .i64 n0, .int .i64 n1, .int .i64 n2, .int .i64 n3] 40) := ⟨_, rfl⟩
        have hb : Below w8.heap.size w8 W9 := by rw [hW9]; exact bx _
        have Q10 : Hid (Below w.heap.size w W9 ∧ Ready W9 er ∧ TabW W9 (.slice (some ⟨bb, off, none⟩) m lc) L ∧ Nice L ∧ At L id i ∧ Blk W9 rb 40 #[.int .i64 r0, .int .i64 r1, .int .i64 r2, .int .i64 r3]) := Lib.hid ⟨Q9.out.1.trans (hb.mono Q9.out.1.size), Q9.out.2.1.below hb, Q9.out.2.2.1.below hb, Q9.out.2.2.2.1, Q9.out.2.2.2.2.1, blk_stays Q9.out.2.2.2.2.2 hb⟩
        clear hb
        rcases mres_code HM2.out.1 with hE | ⟨hE, -, -⟩
        · subst hE
          obtain ⟨le, hle⟩ : ∃ le, le = least L id := ⟨_, rfl⟩
          have hlj : le ≤ (j : Int) := by
            have := mtch_least (mres_ok HM2.out.1).1
            rw [HM2.out.2.2, ByteArray.size_extract] at this
            rw [hle]
            omega
          have t1 : decide ((j : Int) < le) = false := by simp; omega
          have hLE := lleast_any (.slice (some ⟨bb, off, none⟩) m lc) L id le W9 Q10.out.2.2.1.at_ Q10.out.2.2.1.ints (by have := Q10.out.2.2.2.1.few; omega) hle.symm
          have HLE := Lib.hid hLE
          clear hLE hle hlj
          go_wp2_with fail
          rw [← hW9]
          clear hW9
          refine HLE.out.mono ?_
          rintro e wA ⟨rfl, hB⟩
          have Q11 : Hid (Below w.heap.size w wA ∧ Ready wA er ∧ TabW wA (.slice (some ⟨bb, off, none⟩) m lc) L ∧ Nice L ∧ At L id i ∧ Blk wA rb 40 #[.int .i64 r0, .int .i64 r1, .int .i64 r2, .int .i64 r3]) := Lib.hid ⟨Q10.out.1.trans (hB.mono Q10.out.1.size), Q10.out.2.1.below hB, Q10.out.2.2.1.below hB, Q10.out.2.2.2.1, Q10.out.2.2.2.2.1, blk_stays Q10.out.2.2.2.2.2 hB⟩
          clear hB
          go_wp2_with fail
          go_roundw
          case rel => first | exact ⟨j + 1, by omega, by go_num, Q11⟩ | ((repeat apply Exists.intro); exact ⟨⟨j + 1, by omega, by go_num, Q11⟩, rfl⟩)
          case measure => simp [intOf]; omega
        · subst hE
          go_wp2_with fail
          rw [← hW9]
          clear hW9
          go_roundw
          case rel => first | exact ⟨j + 1, by omega, by go_num, Q10⟩ | ((repeat apply Exists.intro); exact ⟨⟨j + 1, by omega, by go_num, Q10⟩, rfl⟩)
          case measure => simp [intOf]; omega
      · obtain rfl : j = s.size := by omega
        obtain ⟨-, hz⟩ := mres_ok HM.out.1
        simp only [zRf, Rf.mk.injEq] at hz
        obtain ⟨z0, z1, z2, z3⟩ := hz
        subst z0; subst z1; subst z2; subst z3
        have y0 : wq.cell? ⟨rb, 0, none⟩ = some (.int .i64 0) := by rw [HJ.out.2.2.2.2.2.cell]; rfl
        have y1 : wq.cell? ⟨rb, 1, none⟩ = some (.int .i64 0) := by rw [HJ.out.2.2.2.2.2.cell]; rfl
        have y2 : wq.cell? ⟨rb, 2, none⟩ = some (.int .i64 0) := by rw [HJ.out.2.2.2.2.2.cell]; rfl
        have y3 : wq.cell? ⟨rb, 3, none⟩ = some (.int .i64 0) := by rw [HJ.out.2.2.2.2.2.cell]; rfl
        go_wp2_with fail
        first | go_end0 | go_ret
        exact ⟨rfl, HJ.out.1⟩
  · subst hE
    obtain ⟨hEO, -⟩ := mtch_err Q8.out.2.2.2.1.ok Q8.out.2.2.2.2.1 hs6 hme
    obtain ⟨ie, ke, oe, q1, q2, q3, q4, q5, q6, q7, q8, q9⟩ := hEO
    simp only at q1 q2 q4 q7 q8 q9
    subst q2; subst q4
    obtain rfl : np = 0 := by rw [HM.out.2, hps]; rfl
    have HE := Lib.hid (And.intro hme (And.intro q1 (And.intro q3 (And.intro q6 q9))))
    have hFD := rFind3_any _ L r1 w7 Q8.out.2.2.1.at_ (nice_fs Q8.out.2.2.2.1)
    rw [find_at Q8.out.2.2.2.1.ok q1] at hFD
    have HFD := Lib.hid hFD
    have y1 : w7.cell? ⟨rb, 1, none⟩ = some (.int .i64 r1) := by rw [Q8.out.2.2.2.2.2.cell]; rfl
    have y1x := y1
    rw [hW7, hrb] at y1x
    clear hFD hme q1 q5 q9 hps
    go_wp2_with fail
    rw [← hW7]
    rw [← hrb]
    clear hW7 y1 y1x hrb
    refine HFD.out.mono ?_
    rintro e w8 ⟨⟨v, rfl, hv1, hv2⟩, hB8⟩
    obtain ⟨fa, fc, rfl, -⟩ := hv1.slice_
    obtain ⟨fq, hfq⟩ : ∃ fq, fq = (L.getD ie zm).fs := ⟨_, rfl⟩
    obtain ⟨mq, hmq⟩ : ∃ mq, mq = fq.length := ⟨_, rfl⟩
    rw [← hfq] at hv1 ⊢
    rw [← hmq] at hv1 ⊢
    have Q12 : Hid (Below w.heap.size w w8 ∧ Ready w8 er ∧ TabW w8 (.slice (some ⟨bb, off, none⟩) m lc) L ∧ Nice L ∧ At L id i ∧ Blk w8 rb 40 #[.int .i64 (oe : Nat), .int .i64 r1, .int .i64 (ke : Nat), .int .i64 r3] ∧ FldsAt w8 (.slice fa mq fc) fq ∧ fq = (L.getD ie zm).fs ∧ mq = fq.length) := Lib.hid ⟨Q8.out.1.trans (hB8.mono Q8.out.1.size), Q8.out.2.1.below hB8, Q8.out.2.2.1.below hB8, Q8.out.2.2.2.1, Q8.out.2.2.2.2.1, blk_stays Q8.out.2.2.2.2.2 hB8, by rw [hmq] at hv1 ⊢; exact hv1, hfq, hmq⟩
    have hkm : ke ≤ mq := by rw [hmq, hfq]; exact q3
    clear hB8 hv1 hv2 hfq hmq q3
    obtain ⟨W9, hW9⟩ : ∃ W9, W9 = w8.alloc (.cells #[.int .i64 r1, .slice fa mq fc] 52) := ⟨_, rfl⟩
    have hb9 : Below w8.heap.size w8 W9 := by rw [hW9]; exact bx _
    have hB9 : Blk W9 w8.heap.size 52 #[.int .i64 r1, .slice fa mq fc] := by rw [hW9]; exact Blk.new w8 _ _
    obtain ⟨rf, hrf⟩ : ∃ r, r = w8.heap.size := ⟨_, rfl⟩
    rw [← hrf] at hB9
    have Q13 : Hid (Below w.heap.size w W9 ∧ Ready W9 er ∧ TabW W9 (.slice (some ⟨bb, off, none⟩) m lc) L ∧ Nice L ∧ At L id i ∧ Blk W9 rb 40 #[.int .i64 (oe : Nat), .int .i64 r1, .int .i64 (ke : Nat), .int .i64 r3] ∧ FldsAt W9 (.slice fa mq fc) fq ∧ fq = (L.getD ie zm).fs ∧ mq = fq.length ∧ Blk W9 rf 52 #[.int .i64 r1, .slice fa mq fc]) := Lib.hid ⟨Q12.out.1.trans (hb9.mono Q12.out.1.size), Q12.out.2.1.below hb9, Q12.out.2.2.1.below hb9, Q12.out.2.2.2.1, Q12.out.2.2.2.2.1, blk_stays Q12.out.2.2.2.2.2.1 hb9, FldsAt.below Q12.out.2.2.2.2.2.2.1 hb9, Q12.out.2.2.2.2.2.2.2.1, Q12.out.2.2.2.2.2.2.2.2, hB9⟩
    clear hb9 hB9
    have y0 : W9.cell? ⟨rb, 0, none⟩ = some (.int .i64 (oe : Nat)) := by rw [Q13.out.2.2.2.2.2.1.cell]; rfl
    have y2 : W9.cell? ⟨rb, 2, none⟩ = some (.int .i64 (ke : Nat)) := by rw [Q13.out.2.2.2.2.2.1.cell]; rfl
    have y3 : W9.cell? ⟨rb, 3, none⟩ = some (.int .i64 r3) := by rw [Q13.out.2.2.2.2.2.1.cell]; rfl
    have z1 : W9.cell? ⟨rf, 1, none⟩ = some (.slice fa mq fc) := by rw [Q13.out.2.2.2.2.2.2.2.2.2.cell]; rfl
    have HY := Lib.hid (And.intro y0 (And.intro y2 (And.intro y3 z1)))
    have y0x := y0
    have y2x := y2
    have y3x := y3
    have z1x := z1
    rw [hW9] at y0x y2x y3x z1x
    rw [hrf] at z1x
    have t1 : decide ((oe : Int) < 0) = false := by simp
    have t2 : decide ((oe : Int) > (s.size : Int)) = false := by simp; omega
    have t3 : decide ((ke : Int) < 0) = false := by simp
    have t4 : decide ((ke : Int) > (mq : Int)) = false := by simp; omega
    clear y0 y2 y3 z1
    by_cases hr : r3 = 2 ∨ r3 = 3
    · have HR := Lib.hid hr
      obtain ⟨hk2, hend, hn0⟩ := HE.out.2.2.2.2 hr
      have hkm2 : ke < mq := by rw [Q13.out.2.2.2.2.2.2.2.2.1, Q13.out.2.2.2.2.2.2.2.1]; exact hk2
      obtain ⟨f, hf⟩ : ∃ f, f = fq.getD ke zf := ⟨_, rfl⟩
      rw [← Q13.out.2.2.2.2.2.2.2.1, ← hf] at hend hn0
      have hflA := Q13.out.2.2.2.2.2.2.1
      rw [Q13.out.2.2.2.2.2.2.2.2.1] at hflA
      obtain ⟨ub, uo, rfl, -, lub, -, hum, hfc⟩ := hflA.at_ (by rw [← Q13.out.2.2.2.2.2.2.2.2.1]; omega)
      have hfa := hfc ke (by rw [← Q13.out.2.2.2.2.2.2.2.2.1]; exact hkm2)
      rw [← hf] at hfa
      obtain ⟨fk, hfk⟩ : ∃ z, z = f.kind := ⟨_, rfl⟩
      obtain ⟨fn, hfn⟩ : ∃ z : Nat, z = f.n.toNat := ⟨_, rfl⟩
      obtain ⟨ff, hff⟩ : ∃ z, z = f.frm := ⟨_, rfl⟩
      obtain ⟨ft, hft⟩ : ∃ z, z = f.text := ⟨_, rfl⟩
      have k0 : W9.cell? ⟨ub, uo + ke * 4, none⟩ = some (.int .i64 fk) := by rw [hfk]; exact hfa.c0
      have k1 : W9.cell? ⟨ub, uo + ke * 4 + 1, none⟩ = some (.int .i64 (fn : Nat)) := by rw [hfn, show ((f.n.toNat : Nat) : Int) = f.n by omega]; exact hfa.c1
      have k2 : W9.cell? ⟨ub, uo + ke * 4 + 2, none⟩ = some (.int .i64 ff) := by rw [hff]; exact hfa.c2
      have k3 : W9.cell? ⟨ub, uo + ke * 4 + 3, none⟩ = some (.string ft) := by rw [hft]; exact hfa.c3
      obtain ⟨En, hEn⟩ : ∃ En, En = oe + fn + ft.size := ⟨_, rfl⟩
      have hEs : En ≤ s.size := by rw [hEn, hfn, hft]; exact hend
      have hearly : Early L En ⟨(oe : Nat), r1, (ke : Nat), r3⟩ := ⟨hr, ie, ke, oe, HE.out.2.1, rfl, rfl, by rw [← Q13.out.2.2.2.2.2.2.2.1, ← hf, hEn, hfn, hft]; exact Nat.le_refl _⟩
      have hno : ∀ z, Begins s En z → ∃ x, mtch L id z = .error x := fun z hz => by
        cases hq : mtch L id z with
        | error x => exact ⟨x, rfl⟩
        | ok qs => exact absurd hq (reasons Q13.out.2.2.2.1.ok Q13.out.2.2.2.2.1 hs6 HE.out.1 hearly hz)
      have HN := Lib.hid hno
      have e1 : (0 : Int) ≤ (ke : Int) ∧ (ke : Int) < (mq : Int) := by omega
      have e2 : (oe : Int) + (fn : Int) + (ft.size : Int) = (En : Nat) := by omega
      have e3 : decide ((En : Int) > (s.size : Int)) = false := by simp; omega
      have e4 : (oe : Int) ≤ 65536 ∧ (fn : Int) ≤ 65536 ∧ (ft.size : Int) ≤ 65536 := by omega
      have hr2 : (((r3 : Int) == 2) = true ∧ r3 = 2) ∨ (((r3 : Int) == 2) = false ∧ ((r3 : Int) == 3) = true ∧ r3 = 3) := by
        rcases hr with h | h
        · exact .inl ⟨by simp [h], h⟩
        · exact .inr ⟨by simp [h], by simp [h], h⟩
      obtain ⟨c5, hc5⟩ : ∃ c5 : Nat, c5 = min En S.size := ⟨_, rfl⟩
      have hmn : ∀ ts t W, (Builtin.min_ ts t #[.int .i64 (En : Nat), .int .i64 (S.size : Nat)]).run Tryz.prog W = .ok (.int .i64 (c5 : Nat)) W := fun ts t W => by
        subst hc5
        simp [Builtin.min_, Builtin.min2]
        first | omega | (split <;> simp <;> omega) | skip
      have e5 : (0 : Int) ≤ (c5 : Int) ∧ (c5 : Int) ≤ (S.size : Int) ∧ (0 : Int) ≤ (En : Int) ∧ (En : Int) ≤ (s.size : Int) := by omega
      have k0x := k0
      have k1x := k1
      have k2x := k2
      have k3x := k3
      rw [hW9] at k0x k1x k2x k3x
      clear hk2 hend hn0 hflA hum hfc hfa hf hfk hfn hff hft hearly hno hEn hc5 k0 k1 k2 k3 hr
      obtain ⟨W10, hW10⟩ : ∃ W, W = W9.alloc (.cells #[.int .i64 fk, .int .i64 (fn : Nat), .int .i64 ff, .string ft] 56) := ⟨_, rfl⟩
      have hb10 : Below W9.heap.size W9 W10 := by rw [hW10]; exact bx _
      rcases hr2 with ⟨t5, rfl⟩ | ⟨t5, t6, rfl⟩
      · have hx := True.intro
        clear hx
        go_upto_region 21 with fail
        rw [← hW9]
        rw [← hW10]
        rw [← hrf]
        have hrg0 : W9.heap.size = rf + 1 := by rw [hW9, hrf]; first | rfl | simp
        have hfb : Blk W10 (rf + 1) 56 #[.int .i64 fk, .int .i64 (fn : Nat), .int .i64 ff, .string ft] := by rw [hW10, ← hrg0]; exact Blk.new W9 _ _
        obtain ⟨rg, hrg⟩ : ∃ q, q = rf + 1 := ⟨_, rfl⟩
        rw [← hrg] at hfb ⊢
        clear hrg hrg0 hW9 hW10 hrf
        have Q14 : Hid (Below w.heap.size w W10 ∧ Ready W10 er ∧ TabW W10 (.slice (some ⟨bb, off, none⟩) m lc) L ∧ Nice L ∧ At L id i ∧ Blk W10 rb 40 #[.int .i64 (oe : Nat), .int .i64 r1, .int .i64 (ke : Nat), .int .i64 2] ∧ FldsAt W10 (.slice (some ⟨ub, uo, none⟩) mq fc) fq ∧ fq = (L.getD ie zm).fs ∧ mq = fq.length ∧ Blk W10 rf 52 #[.int .i64 r1, .slice (some ⟨ub, uo, none⟩) mq fc] ∧ Blk W10 rg 56 #[.int .i64 fk, .int .i64 (fn : Nat), .int .i64 ff, .string ft]) := Lib.hid ⟨Q13.out.1.trans (hb10.mono Q13.out.1.size), Q13.out.2.1.below hb10, Q13.out.2.2.1.below hb10, Q13.out.2.2.2.1, Q13.out.2.2.2.2.1, blk_stays Q13.out.2.2.2.2.2.1 hb10, FldsAt.below Q13.out.2.2.2.2.2.2.1 hb10, Q13.out.2.2.2.2.2.2.2.1, Q13.out.2.2.2.2.2.2.2.2.1, blk_stays Q13.out.2.2.2.2.2.2.2.2.2 hb10, hfb⟩
        clear hfb hb10 k0x k1x k2x k3x y0x y2x y3x z1x
        have y0 : W10.cell? ⟨rb, 0, none⟩ = some (.int .i64 (oe : Nat)) := by rw [Q14.out.2.2.2.2.2.1.cell]; rfl
        have f1 : W10.cell? ⟨rg, 1, none⟩ = some (.int .i64 (fn : Nat)) := by rw [Q14.out.2.2.2.2.2.2.2.2.2.2.cell]; rfl
        have f3 : W10.cell? ⟨rg, 3, none⟩ = some (.string ft) := by rw [Q14.out.2.2.2.2.2.2.2.2.2.2.cell]; rfl
        go_upto_region 24 with fail
        clear y0 f1 f3
        have cn1 : ¬ (9223372036854775807 < En + Rx.size) := by omega
        have cn2 : ¬ (9223372036854775807 < En + Rx.size + (s.size - En)) := by omega
        have cn3 : ¬ (9223372036854775807 < En + (S.size - c5)) := by omega
        refine wp_region_held_drew (S := (fun W : World => Below W10.heap.size W10 W)) (by kernel_rfl) ((Below.refl _ _).drew) (fun hHeld => ?_)
        refine takeH 0 (y := by intro wS hSw; clear hSw; go_simp; (try with_reducible rfl)) (h := ?_)
        (try simp only [pA, pB, pC, pD])
        refine takeH 1 (y := by intro wS hSw; clear hSw; go_simp; (try with_reducible rfl)) (h := ?_)
        (try simp only [pA, pB, pC, pD])
        refine takeH 2 (y := by intro wS hSw; clear hSw; go_simp; (try with_reducible rfl)) (h := ?_)
        (try simp only [pA, pB, pC, pD])
        refine takeH 3 (y := by intro wS hSw; clear hSw; go_simp; (try with_reducible rfl)) (h := ?_)
        (try simp only [pA, pB, pC, pD])
        refine takeH 4 (y := by intro wS hSw; clear hSw; go_simp; (try with_reducible rfl)) (h := ?_)
        (try simp only [pA, pB, pC, pD])
        refine takeH 5 (y := by intro wS hSw; clear hSw; go_simp; (try with_reducible rfl)) (h := ?_)
        (try simp only [pA, pB, pC, pD])
        refine takeH 6 (y := by intro wS hSw; clear hSw; go_simp; (try with_reducible rfl)) (h := ?_)
        (try simp only [pA, pB, pC, pD])
        refine takeH 7 (y := by intro wS hSw; clear hSw; go_simp; (try with_reducible rfl)) (h := ?_)
        (try simp only [pA, pB, pC, pD])
        refine takeH 8 (y := by intro wS hSw; clear hSw; go_simp; (try with_reducible rfl)) (h := ?_)
        (try simp only [pA, pB, pC, pD])
        refine takeH 9 (y := by intro wS hSw; clear hSw; go_simp; (try with_reducible rfl)) (h := ?_)
        (try simp only [pA, pB, pC, pD])
        refine takeH 10 (y := by intro wS hSw; clear hSw; go_simp; (try with_reducible rfl)) (h := ?_)
        (try simp only [pA, pB, pC, pD])
        refine takeH 11 (y := by intro wS hSw; clear hSw; go_simp; (try with_reducible rfl)) (h := ?_)
        (try simp only [pA, pB, pC, pD])
        refine takeH 12 (y := by intro wS hSw; clear hSw; go_simp; (try with_reducible rfl)) (h := ?_)
        (try simp only [pA, pB, pC, pD])
        refine takeH 13 (y := by intro wS hSw; clear hSw; go_simp; (try with_reducible rfl)) (h := ?_)
        (try simp only [pA, pB, pC, pD])
        refine takeH 14 (y := by intro wS hSw; clear hSw; go_simp; (try with_reducible rfl)) (h := ?_)
        (try simp only [pA, pB, pC, pD])
        refine takeH 15 (y := by intro wS hSw; clear hSw; go_simp; (try with_reducible rfl)) (h := ?_)
        (try simp only [pA, pB, pC, pD])
        refine takeH 16 (y := by intro wS hSw; clear hSw; go_simp; (try with_reducible rfl)) (h := ?_)
        (try simp only [pA, pB, pC, pD])
        refine takeH 17 (y := by intro wS hSw; clear hSw; go_simp; (try with_reducible rfl)) (h := ?_)
        (try simp only [pA, pB, pC, pD])
        refine takeH 18 (y := by intro wS hSw; clear hSw; go_simp; (try with_reducible rfl)) (h := ?_)
        (try simp only [pA, pB, pC, pD])
        refine takeH 19 (y := by intro wS hSw; clear hSw; go_simp; (try with_reducible rfl)) (h := ?_)
        (try simp only [pA, pB, pC, pD])
        refine takeH 20 (y := by intro wS hSw; clear hSw; go_simp; (try with_reducible rfl)) (h := ?_)
        (try simp only [pA, pB, pC, pD])
        refine takeH 21 (y := by intro wS hSw; clear hSw; go_simp; (try with_reducible rfl)) (h := ?_)
        (try simp only [pA, pB, pC, pD])
        refine takeH 22 (y := by intro wS hSw; clear hSw; go_simp; (try with_reducible rfl)) (h := ?_)
        (try simp only [pA, pB, pC, pD])
        refine takeH 23 (y := by intro wS hSw; clear hSw; go_simp; (try with_reducible rfl)) (h := ?_)
        (try simp only [pA, pB, pC, pD])
        refine takeH 24 (y := by intro wS hSw; clear hSw; go_simp; (try with_reducible rfl)) (h := ?_)
        (try simp only [pA, pB, pC, pD])
        refine takeH 25 (y := by intro wS hSw; clear hSw; go_simp; (try with_reducible rfl)) (h := ?_)
        (try simp only [pA, pB, pC, pD])
        refine takeH 26 (y := by intro wS hSw; clear hSw; go_simp; (try with_reducible rfl)) (h := ?_)
        (try simp only [pA, pB, pC, pD])
        refine takeH 29 (y := by intro wS hSw; clear hSw; go_simp; (try with_reducible rfl)) (h := ?_)
        (try simp only [pA, pB, pC, pD])
        refine wpAnyH_ready (rs := [27]) (by kernel_rfl) (by simp) ?_
        refine AllReadyH.cons (o := ?oB29) ?hB29 ?kB29 AllReadyH.nil
        case hB29 => (simp only [List.getElem?_toArray, List.getElem?_cons_zero, List.getElem?_cons_succ]; rfl)
        case kB29 =>
          intro K hK
          go_simp
          refine hK.out _ _ (hHeld.trans ((bx _).mono hHeld.size)) (fun _ => ?_)
          clear hK K
          (try simp only [pA, pB, pC, pD])
          refine takeH 28 (y := by intro wS hSw; clear hSw; go_simp; (try with_reducible rfl)) (h := ?_)
          (try simp only [pA, pB, pC, pD])
          refine wpAnyH_done (by kernel_rfl) ?_ _
          clear hHeld hmn cn1 cn2 cn3 e2 e3 e4
          have bA := begins_ext hEs
          have bB := begins_app bA Rx
          have bC := begins_app bB (s.extract En s.size)
          have bD := begins_app bA (S.extract c5 S.size)
          obtain ⟨A0, hA0⟩ : ∃ z, z = s.extract 0 En := ⟨_, rfl⟩
          obtain ⟨A3, hA3⟩ : ∃ z, z = s.extract 0 En ++ S.extract c5 S.size := ⟨_, rfl⟩
          obtain ⟨A2, hA2⟩ : ∃ z, z = s.extract 0 En ++ Rx ++ s.extract En s.size := ⟨_, rfl⟩
          obtain ⟨A1, hA1⟩ : ∃ z, z = s.extract 0 En ++ Rx := ⟨_, rfl⟩
          rw [← hA2] at bC ⊢
          rw [← hA3] at bD ⊢
          rw [← hA1] at bB ⊢
          rw [← hA0] at bA ⊢
          have HBG := Lib.hid (And.intro bA.1 (And.intro bB.1 (And.intro bC.1 bD.1)))
          clear bA bB bC bD hA0 hA1 hA2 hA3
          have hn := Blk.new W10 9 #[.string A0, .string A1, .string A2, .string A3]
          have hb := bx (w := W10) (.cells #[.string A0, .string A1, .string A2, .string A3] 9)
          generalize W10.alloc (.cells #[.string A0, .string A1, .string A2, .string A3] 9) = w11 at *
          obtain ⟨ra, hra⟩ : ∃ r, r = W10.heap.size := ⟨_, rfl⟩
          rw [← hra] at hn ⊢
          have Q15 : Hid (Below w.heap.size w w11 ∧ Ready w11 er ∧ TabW w11 (.slice (some ⟨bb, off, none⟩) m lc) L ∧ Nice L ∧ At L id i ∧ Blk w11 rb 40 #[.int .i64 (oe : Nat), .int .i64 r1, .int .i64 (ke : Nat), .int .i64 2] ∧ Blk w11 ra 9 #[.string A0, .string A1, .string A2, .string A3]) := Lib.hid ⟨Q14.out.1.trans (hb.mono Q14.out.1.size), Q14.out.2.1.below hb, Q14.out.2.2.1.below hb, Q14.out.2.2.2.1, Q14.out.2.2.2.2.1, blk_stays Q14.out.2.2.2.2.2.1 hb, hn⟩
          clear hn hb hra
          have hd : Below w11.heap.size w11 w11.drew := (Below.refl _ _).drew
          generalize w11.drew = w1d at *
          have Q16 : Hid (Below w.heap.size w w1d ∧ Ready w1d er ∧ TabW w1d (.slice (some ⟨bb, off, none⟩) m lc) L ∧ Nice L ∧ At L id i ∧ Blk w1d rb 40 #[.int .i64 (oe : Nat), .int .i64 r1, .int .i64 (ke : Nat), .int .i64 2] ∧ Blk w1d ra 9 #[.string A0, .string A1, .string A2, .string A3]) := Lib.hid ⟨Q15.out.1.trans (hd.mono Q15.out.1.size), Q15.out.2.1.below hd, Q15.out.2.2.1.below hd, Q15.out.2.2.2.1, Q15.out.2.2.2.2.1, blk_stays Q15.out.2.2.2.2.2.1 hd, Q15.out.2.2.2.2.2.2.stays hd⟩
          clear hd
          go_wp2_with fail
          go_loopw [213] (fun c wr => ∃ j : Nat, j ≤ 4 ∧ c = .int .i64 j ∧ Hid (Below w.heap.size w wr ∧ Ready wr er ∧ TabW wr (.slice (some ⟨bb, off, none⟩) m lc) L ∧ Nice L ∧ At L id i ∧ Blk wr rb 40 #[.int .i64 (oe : Nat), .int .i64 r1, .int .i64 (ke : Nat), .int .i64 2] ∧ Blk wr ra 9 #[.string A0, .string A1, .string A2, .string A3])) (fun c _ => 4 - (intOf c).toNat)
          case atStart => exact ⟨0, by omega, rfl, Q16⟩
          case round =>
            obtain ⟨j, hj, rfl, HJ⟩ := hrel
            obtain ⟨wq, rfl⟩ : ∃ wq, wq = wr := ⟨_, rfl⟩
            by_cases hlt : j < 4
            · obtain ⟨Z, hZ, hZb⟩ := one_of_four hlt HBG.out.1 HBG.out.2.1 HBG.out.2.2.1 HBG.out.2.2.2
              obtain ⟨⟨n0, n1, n2, n3⟩, hno⟩ := HN.out Z hZb
              have HX := Lib.hid (show mres (mtch L id Z) = ([], ⟨n0, n1, n2, n3⟩, 50) by rw [hno]; rfl)
              have cy : wq.cell? ⟨ra, j, none⟩ = some (.string Z) := by rw [HJ.out.2.2.2.2.2.2.cell]; exact hZ
              have ly := HJ.out.2.2.2.2.2.2.lt
              clear hZ hZb hno
              go_wp2_with fail
              clear cy ly
              refine (match_use HJ.out.2.1 HJ.out.2.2.1 HX.out rfl).mono ?_
              rintro e w12 ⟨ga, gc, rfl, hB, -⟩
              have Q17 : Hid (Below w.heap.size w w12 ∧ Ready w12 er ∧ TabW w12 (.slice (some ⟨bb, off, none⟩) m lc) L ∧ Nice L ∧ At L id i ∧ Blk w12 rb 40 #[.int .i64 (oe : Nat), .int .i64 r1, .int .i64 (ke : Nat), .int .i64 2] ∧ Blk w12 ra 9 #[.string A0, .string A1, .string A2, .string A3]) := Lib.hid ⟨HJ.out.1.trans (hB.mono HJ.out.1.size), HJ.out.2.1.below hB, HJ.out.2.2.1.below hB, HJ.out.2.2.2.1, HJ.out.2.2.2.2.1, blk_stays HJ.out.2.2.2.2.2.1 hB, HJ.out.2.2.2.2.2.2.stays hB⟩
              clear hB
              go_wp2_with fail
              have hb := bx (w := w12) (.cells #[.int .i64 n0, .int .i64 n1, .int .i64 n2, .int .i64 n3] 40)
              generalize w12.alloc (.cells #[.int .i64 n0, .int .i64 n1, .int .i64 n2, .int .i64 n3] 40) = w13 at *
              have Q18 : Hid (Below w.heap.size w w13 ∧ Ready w13 er ∧ TabW w13 (.slice (some ⟨bb, off, none⟩) m lc) L ∧ Nice L ∧ At L id i ∧ Blk w13 rb 40 #[.int .i64 (oe : Nat), .int .i64 r1, .int .i64 (ke : Nat), .int .i64 2] ∧ Blk w13 ra 9 #[.string A0, .string A1, .string A2, .string A3]) := Lib.hid ⟨Q17.out.1.trans (hb.mono Q17.out.1.size), Q17.out.2.1.below hb, Q17.out.2.2.1.below hb, Q17.out.2.2.2.1, Q17.out.2.2.2.2.1, blk_stays Q17.out.2.2.2.2.2.1 hb, Q17.out.2.2.2.2.2.2.stays hb⟩
              clear hb
              go_roundw
              case rel => first | exact ⟨j + 1, by omega, by go_num, Q18⟩ | ((repeat apply Exists.intro); exact ⟨⟨j + 1, by omega, by go_num, Q18⟩, rfl⟩)
              case measure => simp [intOf]; omega
            · obtain rfl : j = 4 := by omega
              go_wp2_with fail
              first | go_end0 | go_ret
              exact ⟨rfl, HJ.out.1⟩
      · have hx := True.intro
        clear hx
        go_upto_region 21 with fail
        rw [← hW9]
        rw [← hW10]
        rw [← hrf]
        have hrg0 : W9.heap.size = rf + 1 := by rw [hW9, hrf]; first | rfl | simp
        have hfb : Blk W10 (rf + 1) 56 #[.int .i64 fk, .int .i64 (fn : Nat), .int .i64 ff, .string ft] := by rw [hW10, ← hrg0]; exact Blk.new W9 _ _
        obtain ⟨rg, hrg⟩ : ∃ q, q = rf + 1 := ⟨_, rfl⟩
        rw [← hrg] at hfb ⊢
        clear hrg hrg0 hW9 hW10 hrf
        have Q19 : Hid (Below w.heap.size w W10 ∧ Ready W10 er ∧ TabW W10 (.slice (some ⟨bb, off, none⟩) m lc) L ∧ Nice L ∧ At L id i ∧ Blk W10 rb 40 #[.int .i64 (oe : Nat), .int .i64 r1, .int .i64 (ke : Nat), .int .i64 3] ∧ FldsAt W10 (.slice (some ⟨ub, uo, none⟩) mq fc) fq ∧ fq = (L.getD ie zm).fs ∧ mq = fq.length ∧ Blk W10 rf 52 #[.int .i64 r1, .slice (some ⟨ub, uo, none⟩) mq fc] ∧ Blk W10 rg 56 #[.int .i64 fk, .int .i64 (fn : Nat), .int .i64 ff, .string ft]) := Lib.hid ⟨Q13.out.1.trans (hb10.mono Q13.out.1.size), Q13.out.2.1.below hb10, Q13.out.2.2.1.below hb10, Q13.out.2.2.2.1, Q13.out.2.2.2.2.1, blk_stays Q13.out.2.2.2.2.2.1 hb10, FldsAt.below Q13.out.2.2.2.2.2.2.1 hb10, Q13.out.2.2.2.2.2.2.2.1, Q13.out.2.2.2.2.2.2.2.2.1, blk_stays Q13.out.2.2.2.2.2.2.2.2.2 hb10, hfb⟩
        clear hfb hb10 k0x k1x k2x k3x y0x y2x y3x z1x
        have y0 : W10.cell? ⟨rb, 0, none⟩ = some (.int .i64 (oe : Nat)) := by rw [Q19.out.2.2.2.2.2.1.cell]; rfl
        have f1 : W10.cell? ⟨rg, 1, none⟩ = some (.int .i64 (fn : Nat)) := by rw [Q19.out.2.2.2.2.2.2.2.2.2.2.cell]; rfl
        have f3 : W10.cell? ⟨rg, 3, none⟩ = some (.string ft) := by rw [Q19.out.2.2.2.2.2.2.2.2.2.2.cell]; rfl
        go_upto_region 24 with fail
        clear y0 f1 f3
        have cn1 : ¬ (9223372036854775807 < En + Rx.size) := by omega
        have cn2 : ¬ (9223372036854775807 < En + Rx.size + (s.size - En)) := by omega
        have cn3 : ¬ (9223372036854775807 < En + (S.size - c5)) := by omega
        refine wp_region_held_drew (S := (fun W : World => Below W10.heap.size W10 W)) (by kernel_rfl) ((Below.refl _ _).drew) (fun hHeld => ?_)
        refine takeH 0 (y := by intro wS hSw; clear hSw; go_simp; (try with_reducible rfl)) (h := ?_)
        (try simp only [pA, pB, pC, pD])
        refine takeH 1 (y := by intro wS hSw; clear hSw; go_simp; (try with_reducible rfl)) (h := ?_)
        (try simp only [pA, pB, pC, pD])
        refine takeH 2 (y := by intro wS hSw; clear hSw; go_simp; (try with_reducible rfl)) (h := ?_)
        (try simp only [pA, pB, pC, pD])
        refine takeH 3 (y := by intro wS hSw; clear hSw; go_simp; (try with_reducible rfl)) (h := ?_)
        (try simp only [pA, pB, pC, pD])
        refine takeH 4 (y := by intro wS hSw; clear hSw; go_simp; (try with_reducible rfl)) (h := ?_)
        (try simp only [pA, pB, pC, pD])
        refine takeH 5 (y := by intro wS hSw; clear hSw; go_simp; (try with_reducible rfl)) (h := ?_)
        (try simp only [pA, pB, pC, pD])
        refine takeH 6 (y := by intro wS hSw; clear hSw; go_simp; (try with_reducible rfl)) (h := ?_)
        (try simp only [pA, pB, pC, pD])
        refine takeH 7 (y := by intro wS hSw; clear hSw; go_simp; (try with_reducible rfl)) (h := ?_)
        (try simp only [pA, pB, pC, pD])
        refine takeH 8 (y := by intro wS hSw; clear hSw; go_simp; (try with_reducible rfl)) (h := ?_)
        (try simp only [pA, pB, pC, pD])
        refine takeH 9 (y := by intro wS hSw; clear hSw; go_simp; (try with_reducible rfl)) (h := ?_)
        (try simp only [pA, pB, pC, pD])
        refine takeH 10 (y := by intro wS hSw; clear hSw; go_simp; (try with_reducible rfl)) (h := ?_)
        (try simp only [pA, pB, pC, pD])
        refine takeH 11 (y := by intro wS hSw; clear hSw; go_simp; (try with_reducible rfl)) (h := ?_)
        (try simp only [pA, pB, pC, pD])
        refine takeH 12 (y := by intro wS hSw; clear hSw; go_simp; (try with_reducible rfl)) (h := ?_)
        (try simp only [pA, pB, pC, pD])
        refine takeH 13 (y := by intro wS hSw; clear hSw; go_simp; (try with_reducible rfl)) (h := ?_)
        (try simp only [pA, pB, pC, pD])
        refine takeH 14 (y := by intro wS hSw; clear hSw; go_simp; (try with_reducible rfl)) (h := ?_)
        (try simp only [pA, pB, pC, pD])
        refine takeH 15 (y := by intro wS hSw; clear hSw; go_simp; (try with_reducible rfl)) (h := ?_)
        (try simp only [pA, pB, pC, pD])
        refine takeH 16 (y := by intro wS hSw; clear hSw; go_simp; (try with_reducible rfl)) (h := ?_)
        (try simp only [pA, pB, pC, pD])
        refine takeH 17 (y := by intro wS hSw; clear hSw; go_simp; (try with_reducible rfl)) (h := ?_)
        (try simp only [pA, pB, pC, pD])
        refine takeH 18 (y := by intro wS hSw; clear hSw; go_simp; (try with_reducible rfl)) (h := ?_)
        (try simp only [pA, pB, pC, pD])
        refine takeH 19 (y := by intro wS hSw; clear hSw; go_simp; (try with_reducible rfl)) (h := ?_)
        (try simp only [pA, pB, pC, pD])
        refine takeH 20 (y := by intro wS hSw; clear hSw; go_simp; (try with_reducible rfl)) (h := ?_)
        (try simp only [pA, pB, pC, pD])
        refine takeH 21 (y := by intro wS hSw; clear hSw; go_simp; (try with_reducible rfl)) (h := ?_)
        (try simp only [pA, pB, pC, pD])
        refine takeH 22 (y := by intro wS hSw; clear hSw; go_simp; (try with_reducible rfl)) (h := ?_)
        (try simp only [pA, pB, pC, pD])
        refine takeH 23 (y := by intro wS hSw; clear hSw; go_simp; (try with_reducible rfl)) (h := ?_)
        (try simp only [pA, pB, pC, pD])
        refine takeH 24 (y := by intro wS hSw; clear hSw; go_simp; (try with_reducible rfl)) (h := ?_)
        (try simp only [pA, pB, pC, pD])
        refine takeH 25 (y := by intro wS hSw; clear hSw; go_simp; (try with_reducible rfl)) (h := ?_)
        (try simp only [pA, pB, pC, pD])
        refine takeH 26 (y := by intro wS hSw; clear hSw; go_simp; (try with_reducible rfl)) (h := ?_)
        (try simp only [pA, pB, pC, pD])
        refine takeH 29 (y := by intro wS hSw; clear hSw; go_simp; (try with_reducible rfl)) (h := ?_)
        (try simp only [pA, pB, pC, pD])
        refine wpAnyH_ready (rs := [27]) (by kernel_rfl) (by simp) ?_
        refine AllReadyH.cons (o := ?oB59) ?hB59 ?kB59 AllReadyH.nil
        case hB59 => (simp only [List.getElem?_toArray, List.getElem?_cons_zero, List.getElem?_cons_succ]; rfl)
        case kB59 =>
          intro K hK
          go_simp
          refine hK.out _ _ (hHeld.trans ((bx _).mono hHeld.size)) (fun _ => ?_)
          clear hK K
          (try simp only [pA, pB, pC, pD])
          refine takeH 28 (y := by intro wS hSw; clear hSw; go_simp; (try with_reducible rfl)) (h := ?_)
          (try simp only [pA, pB, pC, pD])
          refine wpAnyH_done (by kernel_rfl) ?_ _
          clear hHeld hmn cn1 cn2 cn3 e2 e3 e4
          have bA := begins_ext hEs
          have bB := begins_app bA Rx
          have bC := begins_app bB (s.extract En s.size)
          have bD := begins_app bA (S.extract c5 S.size)
          obtain ⟨A0, hA0⟩ : ∃ z, z = s.extract 0 En := ⟨_, rfl⟩
          obtain ⟨A3, hA3⟩ : ∃ z, z = s.extract 0 En ++ S.extract c5 S.size := ⟨_, rfl⟩
          obtain ⟨A2, hA2⟩ : ∃ z, z = s.extract 0 En ++ Rx ++ s.extract En s.size := ⟨_, rfl⟩
          obtain ⟨A1, hA1⟩ : ∃ z, z = s.extract 0 En ++ Rx := ⟨_, rfl⟩
          rw [← hA2] at bC ⊢
          rw [← hA3] at bD ⊢
          rw [← hA1] at bB ⊢
          rw [← hA0] at bA ⊢
          have HBG := Lib.hid (And.intro bA.1 (And.intro bB.1 (And.intro bC.1 bD.1)))
          clear bA bB bC bD hA0 hA1 hA2 hA3
          have hn := Blk.new W10 9 #[.string A0, .string A1, .string A2, .string A3]
          have hb := bx (w := W10) (.cells #[.string A0, .string A1, .string A2, .string A3] 9)
          generalize W10.alloc (.cells #[.string A0, .string A1, .string A2, .string A3] 9) = w11 at *
          obtain ⟨ra, hra⟩ : ∃ r, r = W10.heap.size := ⟨_, rfl⟩
          rw [← hra] at hn ⊢
          have Q20 : Hid (Below w.heap.size w w11 ∧ Ready w11 er ∧ TabW w11 (.slice (some ⟨bb, off, none⟩) m lc) L ∧ Nice L ∧ At L id i ∧ Blk w11 rb 40 #[.int .i64 (oe : Nat), .int .i64 r1, .int .i64 (ke : Nat), .int .i64 3] ∧ Blk w11 ra 9 #[.string A0, .string A1, .string A2, .string A3]) := Lib.hid ⟨Q19.out.1.trans (hb.mono Q19.out.1.size), Q19.out.2.1.below hb, Q19.out.2.2.1.below hb, Q19.out.2.2.2.1, Q19.out.2.2.2.2.1, blk_stays Q19.out.2.2.2.2.2.1 hb, hn⟩
          clear hn hb hra
          have hd : Below w11.heap.size w11 w11.drew := (Below.refl _ _).drew
          generalize w11.drew = w1d at *
          have Q21 : Hid (Below w.heap.size w w1d ∧ Ready w1d er ∧ TabW w1d (.slice (some ⟨bb, off, none⟩) m lc) L ∧ Nice L ∧ At L id i ∧ Blk w1d rb 40 #[.int .i64 (oe : Nat), .int .i64 r1, .int .i64 (ke : Nat), .int .i64 3] ∧ Blk w1d ra 9 #[.string A0, .string A1, .string A2, .string A3]) := Lib.hid ⟨Q20.out.1.trans (hd.mono Q20.out.1.size), Q20.out.2.1.below hd, Q20.out.2.2.1.below hd, Q20.out.2.2.2.1, Q20.out.2.2.2.2.1, blk_stays Q20.out.2.2.2.2.2.1 hd, Q20.out.2.2.2.2.2.2.stays hd⟩
          clear hd
          go_wp2_with fail
          go_loopw [213] (fun c wr => ∃ j : Nat, j ≤ 4 ∧ c = .int .i64 j ∧ Hid (Below w.heap.size w wr ∧ Ready wr er ∧ TabW wr (.slice (some ⟨bb, off, none⟩) m lc) L ∧ Nice L ∧ At L id i ∧ Blk wr rb 40 #[.int .i64 (oe : Nat), .int .i64 r1, .int .i64 (ke : Nat), .int .i64 3] ∧ Blk wr ra 9 #[.string A0, .string A1, .string A2, .string A3])) (fun c _ => 4 - (intOf c).toNat)
          case atStart => exact ⟨0, by omega, rfl, Q21⟩
          case round =>
            obtain ⟨j, hj, rfl, HJ⟩ := hrel
            obtain ⟨wq, rfl⟩ : ∃ wq, wq = wr := ⟨_, rfl⟩
            by_cases hlt : j < 4
            · obtain ⟨Z, hZ, hZb⟩ := one_of_four hlt HBG.out.1 HBG.out.2.1 HBG.out.2.2.1 HBG.out.2.2.2
              obtain ⟨⟨n0, n1, n2, n3⟩, hno⟩ := HN.out Z hZb
              have HX := Lib.hid (show mres (mtch L id Z) = ([], ⟨n0, n1, n2, n3⟩, 50) by rw [hno]; rfl)
              have cy : wq.cell? ⟨ra, j, none⟩ = some (.string Z) := by rw [HJ.out.2.2.2.2.2.2.cell]; exact hZ
              have ly := HJ.out.2.2.2.2.2.2.lt
              clear hZ hZb hno
              go_wp2_with fail
              clear cy ly
              refine (match_use HJ.out.2.1 HJ.out.2.2.1 HX.out rfl).mono ?_
              rintro e w12 ⟨ga, gc, rfl, hB, -⟩
              have Q22 : Hid (Below w.heap.size w w12 ∧ Ready w12 er ∧ TabW w12 (.slice (some ⟨bb, off, none⟩) m lc) L ∧ Nice L ∧ At L id i ∧ Blk w12 rb 40 #[.int .i64 (oe : Nat), .int .i64 r1, .int .i64 (ke : Nat), .int .i64 3] ∧ Blk w12 ra 9 #[.string A0, .string A1, .string A2, .string A3]) := Lib.hid ⟨HJ.out.1.trans (hB.mono HJ.out.1.size), HJ.out.2.1.below hB, HJ.out.2.2.1.below hB, HJ.out.2.2.2.1, HJ.out.2.2.2.2.1, blk_stays HJ.out.2.2.2.2.2.1 hB, HJ.out.2.2.2.2.2.2.stays hB⟩
              clear hB
              go_wp2_with fail
              have hb := bx (w := w12) (.cells #[.int .i64 n0, .int .i64 n1, .int .i64 n2, .int .i64 n3] 40)
              generalize w12.alloc (.cells #[.int .i64 n0, .int .i64 n1, .int .i64 n2, .int .i64 n3] 40) = w13 at *
              have Q23 : Hid (Below w.heap.size w w13 ∧ Ready w13 er ∧ TabW w13 (.slice (some ⟨bb, off, none⟩) m lc) L ∧ Nice L ∧ At L id i ∧ Blk w13 rb 40 #[.int .i64 (oe : Nat), .int .i64 r1, .int .i64 (ke : Nat), .int .i64 3] ∧ Blk w13 ra 9 #[.string A0, .string A1, .string A2, .string A3]) := Lib.hid ⟨Q22.out.1.trans (hb.mono Q22.out.1.size), Q22.out.2.1.below hb, Q22.out.2.2.1.below hb, Q22.out.2.2.2.1, Q22.out.2.2.2.2.1, blk_stays Q22.out.2.2.2.2.2.1 hb, Q22.out.2.2.2.2.2.2.stays hb⟩
              clear hb
              go_roundw
              case rel => first | exact ⟨j + 1, by omega, by go_num, Q23⟩ | ((repeat apply Exists.intro); exact ⟨⟨j + 1, by omega, by go_num, Q23⟩, rfl⟩)
              case measure => simp [intOf]; omega
            · obtain rfl : j = 4 := by omega
              go_wp2_with fail
              first | go_end0 | go_ret
              exact ⟨rfl, HJ.out.1⟩
    · have hr3 : r3 = 1 ∨ r3 = 4 ∨ r3 = 5 := by omega
      have t5 : ((r3 : Int) == 2) = false := by simp; omega
      have t6 : ((r3 : Int) == 3) = false := by simp; omega
      clear HE
      rcases hr3 with rfl | rfl | rfl
      · go_wp2_with fail
        first | go_end0 | go_ret
        exact ⟨rfl, by first | exact Q13.out.1 | (rw [← hW9]; exact Q13.out.1) | (rw [hW9] at Q13; exact Q13.out.1)⟩
      · go_wp2_with fail
        first | go_end0 | go_ret
        exact ⟨rfl, by first | exact Q13.out.1 | (rw [← hW9]; exact Q13.out.1) | (rw [hW9] at Q13; exact Q13.out.1)⟩
      · go_wp2_with fail
        first | go_end0 | go_ret
        exact ⟨rfl, by first | exact Q13.out.1 | (rw [← hW9]; exact Q13.out.1) | (rw [hW9] at Q13; exact Q13.out.1)⟩
end Go.Proofs.YtdndmhlmbpgdeaaGreatDoor
