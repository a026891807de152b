/- The recognisers of literals, of numbers and of bytes. Conditions: the reader and the value lie in memory, the value's numbers are small, the field is a right one. -/
import Derived.Test.YtlhobhfmombjjaaGreatDoorPa07
namespace Go.Proofs.YtlhobhfmombjjaaGreatDoor
open Go.RowKit Fx Rec

/-- What comes of a recogniser. -/
def KPost (w : World) (P : Nat → Prop) (o : Ro) (rb : Nat) (L : List Fm) (s : ByteArray) (ps : List Pt) (r : Except Rf (Nat × Int × List Pt)) (e : Ending) (w' : World) : Prop :=
  Kept P w w' ∧ match r with
  | .ok x => e = .returned (.tuple #[.int .i64 (x.1 : Nat), .int .i64 x.2.1]) ∧ Rd w' P o rb L s (ps ++ x.2.2)
  | .error f => e = Stops f ∧ ∃ ps', Rd w' P o rb L s ps'
theorem KPost.no {w w' : World} {P : Nat → Prop} {o : Ro} {rb : Nat} {L : List Fm} {s : ByteArray} {ps : List Pt} {f : Rf} {r : Except Rf (Nat × Int × List Pt)} (hr : r = .error f) (h : Rd w P o rb L s ps) (hb : Below w.heap.size w w') : KPost w P o rb L s ps r (Stops f) w' := by
  subst hr
  exact ⟨Kept.of_below hb h.1.pin, rfl, ps, h.below hb⟩
theorem KPost.yes {w w' : World} {P : Nat → Prop} {o : Ro} {rb : Nat} {L : List Fm} {s : ByteArray} {ps : List Pt} {E : Int} {n : Int} {en : Nat} {r : Except Rf (Nat × Int × List Pt)} (hr : r = .ok (en, n, [])) (he : E = en) (h : Rd w P o rb L s ps) (hb : Below w.heap.size w w') :
    KPost w P o rb L s ps r (.returned (.tuple #[.int .i64 E, .int .i64 n])) w' := by
  subst hr he
  exact ⟨Kept.of_below hb h.1.pin, rfl, by rw [List.append_nil]; exact h.below hb⟩
theorem short_no {id : Int} {k a l n : Nat} {x : Except Rf (Nat × Int × List Pt)} (h : l < a + n) : short id k a l n x = .error ⟨a, id, k, 1⟩ := if_pos h
theorem short_yes {id : Int} {k a l n : Nat} {x : Except Rf (Nat × Int × List Pt)} (h : ¬ l < a + n) : short id k a l n x = x := if_neg h
/-- The value's field is a natural number. -/
structure VNat (v : Vl) (a l st k : Nat) : Prop where
  a : v.at_ = a
  l : v.limit = l
  st : v.start = st
  k : v.field = k
theorem VOk.nat {v : Vl} (h : VOk v) {k : Nat} (hk : v.field = k) : ∃ a l st : Nat, VNat v a l st k :=
  ⟨v.at_.toNat, v.limit.toNat, v.start.toNat, by have := h.at0; omega, by have := h.at0; have := h.lim; omega, by have := h.st0; omega, hk⟩
/-- The blocks of a field that is captured. -/
theorem box_cells (w : World) (f : Fld) : let W := w.alloc (.cells #[.int .i64 f.kind, .int .i64 f.n, .int .i64 f.frm, .string f.text] 56)
    W.cell? ⟨w.heap.size, 0, none⟩ = some (.int .i64 f.kind) ∧ W.cell? ⟨w.heap.size, 1, none⟩ = some (.int .i64 f.n) ∧ W.cell? ⟨w.heap.size, 2, none⟩ = some (.int .i64 f.frm) ∧ W.cell? ⟨w.heap.size, 3, none⟩ = some (.string f.text) := by
  have h := heap_alloc_new w (.cells #[.int .i64 f.kind, .int .i64 f.n, .int .i64 f.frm, .string f.text] 56)
  exact ⟨cell_of_row _ _ 0 _ _ _ h, cell_of_row _ _ 1 _ _ _ h, cell_of_row _ _ 2 _ _ _ h, cell_of_row _ _ 3 _ _ _ h⟩
theorem drewN_below (w : World) (n : Nat) : Below w.heap.size w (w.drewN n) := ⟨rfl, rfl, rfl, Nat.le_refl _, fun _ _ => rfl⟩
theorem drew2_below (w : World) (n : Nat) : Below w.heap.size w (w.drew.drewN n) := ⟨rfl, rfl, rfl, Nat.le_refl _, fun _ _ => rfl⟩
theorem Rd.stream {w : World} {P : Nat → Prop} {o : Ro} {rb : Nat} {L : List Fm} {s : ByteArray} {ps : List Pt} (h : Rd w P o rb L s ps) : w.cell? ⟨rb, 2, none⟩ = some (.string s) := by
  obtain ⟨_, vp, k, vs, hm⟩ := h
  rw [hm.blk.cell]; rfl

theorem str_eq {a b : ByteArray} (h : a = b) : (a.toList == b.toList) = true := by rw [h]; simp
theorem str_ne {a b : ByteArray} (h : a ≠ b) : (a.toList == b.toList) = false := by
  rw [beq_eq_false_iff_ne]
  intro e
  rw [ByteArray.toList_eq, ByteArray.toList_eq] at e
  exact h (ByteArray.ext (Array.toList_inj.1 e))
theorem str_slice {s : ByteArray} {x y : Int} {a n : Nat} (hx : x = a) (hy : y = (a : Int) + (n : Nat)) (h : a + n ≤ s.size) (W : World) :
    (Instr.slice 9 (.string s) (some (.int .i64 x)) (some (.int .i64 y)) none).run Tryz.prog W = .ok (.string (s.extract a (a + n))) W := by
  rw [run_slice_string W _ s .i64 .i64 x y Tryz.underlying9 (by omega) (by omega) (by omega)]
  rw [show x.toNat = a by omega, show y.toNat = a + n by omega]
section
variable {w : World} {P : Nat → Prop} {o : Ro} {rb vb : Nat} {L : List Fm} {s : ByteArray} {ps : List Pt} {v : Vl} {f : Fld} {a l st k : Nat}
set_option maxRecDepth 20000 in
set_option maxHeartbeats 2000000 in
theorem rd_literal (h : Rd w P o rb L s ps) (hv : VAt w vb v) (ok : VOk v) (hN : VNat v a l st k) (hl : l ≤ s.size) (ht : f.text.size ≤ 16) :
    Calls Tryz.prog 67 #[ptr rb, ptr vb, fldV f] w fun e w' =>
      KPost w P o rb L s ps (short v.format k a l f.text.size (unlessB (decide (s.extract a (a + f.text.size) = f.text)) ⟨a, v.format, k, 2⟩ (.ok (a + f.text.size, 0, [])))) e w' := by
  have na := hN.a
  have nl := hN.l
  have b0 := ok.at0
  have b1 := ok.lim
  have b2 := ok.max
  obtain ⟨n, hn⟩ : ∃ n : Int, (f.text.size : Int) = n := ⟨_, rfl⟩
  have HH := Lib.hid (And.intro h (And.intro hv (And.intro ok hN)))
  have HBX := Lib.hid (box_cells w f)
  have HV2 : Hid (∀ W, Below w.heap.size w W → VAt W vb v) := Lib.hid fun W hb => hv.keep (hb.block vb hv.blk.lt)
  clear h hv ok hN
  go_enter Tryz.func67, Tryz.ntmps67
  go_wp2_with fail
  by_cases hfit : n ≤ v.limit - v.at_
  · refine (after_yes vb v n _ (HV2.out _ (bx _)) HH.out.2.2.1 (by omega) (by omega) hfit).mono ?_
    rintro e w5 ⟨rfl, m5, hw⟩
    have hB : Below w.heap.size w w5 := by rw [hw]; exact (bx _).trans ((drewN_below _ _).mono (by simp))
    have c3 : w5.cell? ⟨w.heap.size, 3, none⟩ = some (.string f.text) := by rw [hw]; exact HBX.out.2.2.2
    obtain ⟨-, -, -, -, c4, -⟩ := (HV2.out _ hB).cells
    have cs := (HH.out.1.below hB).stream
    obtain ⟨X, hX⟩ : ∃ X, X = s.extract a (a + f.text.size) := ⟨_, rfl⟩
    have hsl : ∀ W, (Instr.slice 9 (.string s) (some (.int .i64 (a : Int))) (some (.int .i64 ((a : Int) + n))) none).run Tryz.prog W = .ok (.string X) W := by rw [hX]; exact str_slice rfl (by rw [hn]) (by omega)
    have HB := Lib.hid hB
    have HE := Lib.hid (And.intro hX hn)
    clear hw hB hX
    by_cases hXT : X = f.text
    · have hq := str_eq hXT
      have HY : Hid (∀ W, Below w5.heap.size w5 W → KPost w P o rb L s ps (short v.format k a l f.text.size (unlessB (decide (s.extract a (a + f.text.size) = f.text)) ⟨a, v.format, k, 2⟩ (.ok (a + f.text.size, 0, [])))) (.returned (.tuple #[.int .i64 ((a : Int) + n), .int .i64 0])) W) := Lib.hid fun W hb => by
        refine KPost.yes (en := a + f.text.size) ?_ (by rw [← HE.out.2]; omega) HH.out.1 (HB.out.trans (hb.mono HB.out.size))
        rw [short_yes (by omega), decide_eq_true (by rw [← HE.out.1]; exact hXT)]; rfl
      clear hXT
      go_wp2_with fail
      refine wp_region_held_drew (S := (fun w' : World => ∃ n : Nat, w' = w5.drewN n)) (by kernel_rfl) ⟨1, rfl⟩ (fun hHeld => ?_)
      refine wpAnyH_take (i := 0) (oi := ?o1) (v := ?v1) ?h1 ?a1 ?b1 ?c1 ?q1 (Or.inl ⟨?g1, ?y1⟩) ?s1 ?r1
      case h1 => (simp only [List.getElem?_toArray, List.getElem?_cons_zero]; rfl)
      case a1 => kernel_rfl
      case b1 => kernel_rfl
      case c1 => kernel_rfl
      case q1 => exact fun _ _ _ h => h
      case g1 => rfl
      case y1 => (intro wS hSw; obtain ⟨nS, rfl⟩ := hSw; go_simp; (try with_reducible rfl))
      case s1 => assumption
      (try simp only [Act.put, List.setIfInBounds_toArray, List.set_cons_zero, List.set_cons_succ])
      refine wpAnyH_take (i := 1) (oi := ?o2) (v := ?v2) ?h2 ?a2 ?b2 ?c2 ?q2 (Or.inl ⟨?g2, ?y2⟩) ?s2 ?r2
      case h2 => (simp only [List.getElem?_toArray, List.getElem?_cons_zero, List.getElem?_cons_succ]; rfl)
      case a2 => kernel_rfl
      case b2 => kernel_rfl
      case c2 => kernel_rfl
      case q2 => exact fun _ _ _ h => h
      case g2 => rfl
      case y2 => (intro wS hSw; obtain ⟨nS, rfl⟩ := hSw; go_simp; (try with_reducible rfl))
      case s2 => assumption
      (try simp only [Act.put, List.setIfInBounds_toArray, List.set_cons_zero, List.set_cons_succ])
      refine wpAnyH_take (i := 2) (oi := ?o3) (v := ?v3) ?h3 ?a3 ?b3 ?c3 ?q3 (Or.inl ⟨?g3, ?y3⟩) ?s3 ?r3
      case h3 => (simp only [List.getElem?_toArray, List.getElem?_cons_zero, List.getElem?_cons_succ]; rfl)
      case a3 => kernel_rfl
      case b3 => kernel_rfl
      case c3 => kernel_rfl
      case q3 => exact fun _ _ _ h => h
      case g3 => rfl
      case y3 => (intro wS hSw; obtain ⟨nS, rfl⟩ := hSw; go_simp; (try with_reducible rfl))
      case s3 => assumption
      (try simp only [Act.put, List.setIfInBounds_toArray, List.set_cons_zero, List.set_cons_succ])
      refine wpAnyH_take (i := 3) (oi := ?o4) (v := ?v4) ?h4 ?a4 ?b4 ?c4 ?q4 (Or.inl ⟨?g4, ?y4⟩) ?s4 ?r4
      case h4 => (simp only [List.getElem?_toArray, List.getElem?_cons_zero, List.getElem?_cons_succ]; rfl)
      case a4 => kernel_rfl
      case b4 => kernel_rfl
      case c4 => kernel_rfl
      case q4 => exact fun _ _ _ h => h
      case g4 => rfl
      case y4 => (intro wS hSw; obtain ⟨nS, rfl⟩ := hSw; go_simp; (try with_reducible rfl))
      case s4 => assumption
      (try simp only [Act.put, List.setIfInBounds_toArray, List.set_cons_zero, List.set_cons_succ])
      refine wpAnyH_take (i := 4) (oi := ?o5) (v := ?v5) ?h5 ?a5 ?b5 ?c5 ?q5 (Or.inl ⟨?g5, ?y5⟩) ?s5 ?r5
      case h5 => (simp only [List.getElem?_toArray, List.getElem?_cons_zero, List.getElem?_cons_succ]; rfl)
      case a5 => kernel_rfl
      case b5 => kernel_rfl
      case c5 => kernel_rfl
      case q5 => exact fun _ _ _ h => h
      case g5 => rfl
      case y5 => (intro wS hSw; obtain ⟨nS, rfl⟩ := hSw; go_simp; (try with_reducible rfl))
      case s5 => assumption
      (try simp only [Act.put, List.setIfInBounds_toArray, List.set_cons_zero, List.set_cons_succ])
      refine wpAnyH_take (i := 5) (oi := ?o6) (v := ?v6) ?h6 ?a6 ?b6 ?c6 ?q6 (Or.inl ⟨?g6, ?y6⟩) ?s6 ?r6
      case h6 => (simp only [List.getElem?_toArray, List.getElem?_cons_zero, List.getElem?_cons_succ]; rfl)
      case a6 => kernel_rfl
      case b6 => kernel_rfl
      case c6 => kernel_rfl
      case q6 => exact fun _ _ _ h => h
      case g6 => rfl
      case y6 => (intro wS hSw; obtain ⟨nS, rfl⟩ := hSw; go_simp; (try with_reducible rfl))
      case s6 => assumption
      (try simp only [Act.put, List.setIfInBounds_toArray, List.set_cons_zero, List.set_cons_succ])
      refine wpAnyH_take (i := 6) (oi := ?o7) (v := ?v7) ?h7 ?a7 ?b7 ?c7 ?q7 (Or.inl ⟨?g7, ?y7⟩) ?s7 ?r7
      case h7 => (simp only [List.getElem?_toArray, List.getElem?_cons_zero, List.getElem?_cons_succ]; rfl)
      case a7 => kernel_rfl
      case b7 => kernel_rfl
      case c7 => kernel_rfl
      case q7 => exact fun _ _ _ h => h
      case g7 => rfl
      case y7 => (intro wS hSw; obtain ⟨nS, rfl⟩ := hSw; go_simp; (try with_reducible rfl))
      case s7 => assumption
      (try simp only [Act.put, List.setIfInBounds_toArray, List.set_cons_zero, List.set_cons_succ])
      refine wpAnyH_take (i := 7) (oi := ?o8) (v := ?v8) ?h8 ?a8 ?b8 ?c8 ?q8 (Or.inl ⟨?g8, ?y8⟩) ?s8 ?r8
      case h8 => (simp only [List.getElem?_toArray, List.getElem?_cons_zero, List.getElem?_cons_succ]; rfl)
      case a8 => kernel_rfl
      case b8 => kernel_rfl
      case c8 => kernel_rfl
      case q8 => exact fun _ _ _ h => h
      case g8 => rfl
      case y8 => (intro wS hSw; obtain ⟨nS, rfl⟩ := hSw; go_simp; (try with_reducible rfl))
      case s8 => assumption
      (try simp only [Act.put, List.setIfInBounds_toArray, List.set_cons_zero, List.set_cons_succ])
      refine wpAnyH_take (i := 8) (oi := ?o9) (v := ?v9) ?h9 ?a9 ?b9 ?c9 ?q9 (Or.inl ⟨?g9, ?y9⟩) ?s9 ?r9
      case h9 => (simp only [List.getElem?_toArray, List.getElem?_cons_zero, List.getElem?_cons_succ]; rfl)
      case a9 => kernel_rfl
      case b9 => kernel_rfl
      case c9 => kernel_rfl
      case q9 => exact fun _ _ _ h => h
      case g9 => rfl
      case y9 => (intro wS hSw; obtain ⟨nS, rfl⟩ := hSw; go_simp; (try with_reducible rfl))
      case s9 => assumption
      (try simp only [Act.put, List.setIfInBounds_toArray, List.set_cons_zero, List.set_cons_succ])
      refine wpAnyH_take (i := 9) (oi := ?o10) (v := ?v10) ?h10 ?a10 ?b10 ?c10 ?q10 (Or.inl ⟨?g10, ?y10⟩) ?s10 ?r10
      case h10 => (simp only [List.getElem?_toArray, List.getElem?_cons_zero, List.getElem?_cons_succ]; rfl)
      case a10 => kernel_rfl
      case b10 => kernel_rfl
      case c10 => kernel_rfl
      case q10 => exact fun _ _ _ h => h
      case g10 => rfl
      case y10 => (intro wS hSw; obtain ⟨nS, rfl⟩ := hSw; go_simp; (try with_reducible rfl))
      case s10 => assumption
      (try simp only [Act.put, List.setIfInBounds_toArray, List.set_cons_zero, List.set_cons_succ])
      refine wpAnyH_take (i := 10) (oi := ?o11) (v := ?v11) ?h11 ?a11 ?b11 ?c11 ?q11 (Or.inl ⟨?g11, ?y11⟩) ?s11 ?r11
      case h11 => (simp only [List.getElem?_toArray, List.getElem?_cons_zero, List.getElem?_cons_succ]; rfl)
      case a11 => kernel_rfl
      case b11 => kernel_rfl
      case c11 => kernel_rfl
      case q11 => exact fun _ _ _ h => h
      case g11 => rfl
      case y11 => (intro wS hSw; obtain ⟨nS, rfl⟩ := hSw; go_simp; (try with_reducible rfl))
      case s11 => assumption
      (try simp only [Act.put, List.setIfInBounds_toArray, List.set_cons_zero, List.set_cons_succ])
      refine wpAnyH_take (i := 11) (oi := ?o12) (v := ?v12) ?h12 ?a12 ?b12 ?c12 ?q12 (Or.inl ⟨?g12, ?y12⟩) ?s12 ?r12
      case h12 => (simp only [List.getElem?_toArray, List.getElem?_cons_zero, List.getElem?_cons_succ]; rfl)
      case a12 => kernel_rfl
      case b12 => kernel_rfl
      case c12 => kernel_rfl
      case q12 => exact fun _ _ _ h => h
      case g12 => rfl
      case y12 => (intro wS hSw; obtain ⟨nS, rfl⟩ := hSw; go_simp; (try with_reducible rfl))
      case s12 => assumption
      (try simp only [Act.put, List.setIfInBounds_toArray, List.set_cons_zero, List.set_cons_succ])
      refine wpAnyH_take (i := 12) (oi := ?o13) (v := ?v13) ?h13 ?a13 ?b13 ?c13 ?q13 (Or.inl ⟨?g13, ?y13⟩) ?s13 ?r13
      case h13 => (simp only [List.getElem?_toArray, List.getElem?_cons_zero, List.getElem?_cons_succ]; rfl)
      case a13 => kernel_rfl
      case b13 => kernel_rfl
      case c13 => kernel_rfl
      case q13 => exact fun _ _ _ h => h
      case g13 => rfl
      case y13 => (intro wS hSw; obtain ⟨nS, rfl⟩ := hSw; go_simp; (try with_reducible rfl))
      case s13 => assumption
      (try simp only [Act.put, List.setIfInBounds_toArray, List.set_cons_zero, List.set_cons_succ])
      refine wpAnyH_take (i := 13) (oi := ?o14) (v := ?v14) ?h14 ?a14 ?b14 ?c14 ?q14 (Or.inl ⟨?g14, ?y14⟩) ?s14 ?r14
      case h14 => (simp only [List.getElem?_toArray, List.getElem?_cons_zero, List.getElem?_cons_succ]; rfl)
      case a14 => kernel_rfl
      case b14 => kernel_rfl
      case c14 => kernel_rfl
      case q14 => exact fun _ _ _ h => h
      case g14 => rfl
      case y14 => (intro wS hSw; obtain ⟨nS, rfl⟩ := hSw; go_simp; (try with_reducible rfl))
      case s14 => assumption
      (try simp only [Act.put, List.setIfInBounds_toArray, List.set_cons_zero, List.set_cons_succ])
      refine wpAnyH_ready (rs := [14]) (by kernel_rfl) (by simp) ?_
      refine AllReadyH.cons (o := ?oB15) ?hB15 ?kB15 AllReadyH.nil
      case hB15 => (simp only [List.getElem?_toArray, List.getElem?_cons_zero, List.getElem?_cons_succ]; rfl)
      case kB15 =>
        intro K hK
        go_simp
        refine (vrequire_yes _ _ w5.drew).mono ?_
        rintro e w6 ⟨rfl, rfl⟩
        refine hK.out _ _ ⟨1, rfl⟩ (fun _ => ?_)
        clear hK K
        (try simp only [Act.put, List.setIfInBounds_toArray, List.set_cons_zero, List.set_cons_succ])
        refine wpAnyH_done (by kernel_rfl) ?_ _
        go_wp2
        go_ret2
        exact HY.out _ (drewN_below _ 1)
    · have hq := str_ne hXT
      have HNO : Hid (∀ W, Below w5.heap.size w5 W → KPost w P o rb L s ps (short v.format k a l f.text.size (unlessB (decide (s.extract a (a + f.text.size) = f.text)) ⟨a, v.format, k, 2⟩ (.ok (a + f.text.size, 0, [])))) (Stops ⟨v.at_, v.format, v.field, 2⟩) W) := Lib.hid fun W hb => by
        rw [HH.out.2.2.2.a, HH.out.2.2.2.k]
        refine KPost.no ?_ HH.out.1 (HB.out.trans (hb.mono HB.out.size))
        rw [short_yes (by omega), decide_eq_false (by rw [← HE.out.1]; exact hXT)]; rfl
      clear hXT
      go_wp2_with fail
      refine wp_region_held_drew (S := (fun w' : World => ∃ n : Nat, w' = w5.drewN n)) (by kernel_rfl) ⟨1, rfl⟩ (fun hHeld => ?_)
      refine wpAnyH_take (i := 0) (oi := ?o16) (v := ?v16) ?h16 ?a16 ?b16 ?c16 ?q16 (Or.inl ⟨?g16, ?y16⟩) ?s16 ?r16
      case h16 => (simp only [List.getElem?_toArray, List.getElem?_cons_zero]; rfl)
      case a16 => kernel_rfl
      case b16 => kernel_rfl
      case c16 => kernel_rfl
      case q16 => exact fun _ _ _ h => h
      case g16 => rfl
      case y16 => (intro wS hSw; obtain ⟨nS, rfl⟩ := hSw; go_simp; (try with_reducible rfl))
      case s16 => assumption
      (try simp only [Act.put, List.setIfInBounds_toArray, List.set_cons_zero, List.set_cons_succ])
      refine wpAnyH_take (i := 1) (oi := ?o17) (v := ?v17) ?h17 ?a17 ?b17 ?c17 ?q17 (Or.inl ⟨?g17, ?y17⟩) ?s17 ?r17
      case h17 => (simp only [List.getElem?_toArray, List.getElem?_cons_zero, List.getElem?_cons_succ]; rfl)
      case a17 => kernel_rfl
      case b17 => kernel_rfl
      case c17 => kernel_rfl
      case q17 => exact fun _ _ _ h => h
      case g17 => rfl
      case y17 => (intro wS hSw; obtain ⟨nS, rfl⟩ := hSw; go_simp; (try with_reducible rfl))
      case s17 => assumption
      (try simp only [Act.put, List.setIfInBounds_toArray, List.set_cons_zero, List.set_cons_succ])
      refine wpAnyH_take (i := 2) (oi := ?o18) (v := ?v18) ?h18 ?a18 ?b18 ?c18 ?q18 (Or.inl ⟨?g18, ?y18⟩) ?s18 ?r18
      case h18 => (simp only [List.getElem?_toArray, List.getElem?_cons_zero, List.getElem?_cons_succ]; rfl)
      case a18 => kernel_rfl
      case b18 => kernel_rfl
      case c18 => kernel_rfl
      case q18 => exact fun _ _ _ h => h
      case g18 => rfl
      case y18 => (intro wS hSw; obtain ⟨nS, rfl⟩ := hSw; go_simp; (try with_reducible rfl))
      case s18 => assumption
      (try simp only [Act.put, List.setIfInBounds_toArray, List.set_cons_zero, List.set_cons_succ])
      refine wpAnyH_take (i := 3) (oi := ?o19) (v := ?v19) ?h19 ?a19 ?b19 ?c19 ?q19 (Or.inl ⟨?g19, ?y19⟩) ?s19 ?r19
      case h19 => (simp only [List.getElem?_toArray, List.getElem?_cons_zero, List.getElem?_cons_succ]; rfl)
      case a19 => kernel_rfl
      case b19 => kernel_rfl
      case c19 => kernel_rfl
      case q19 => exact fun _ _ _ h => h
      case g19 => rfl
      case y19 => (intro wS hSw; obtain ⟨nS, rfl⟩ := hSw; go_simp; (try with_reducible rfl))
      case s19 => assumption
      (try simp only [Act.put, List.setIfInBounds_toArray, List.set_cons_zero, List.set_cons_succ])
      refine wpAnyH_take (i := 4) (oi := ?o20) (v := ?v20) ?h20 ?a20 ?b20 ?c20 ?q20 (Or.inl ⟨?g20, ?y20⟩) ?s20 ?r20
      case h20 => (simp only [List.getElem?_toArray, List.getElem?_cons_zero, List.getElem?_cons_succ]; rfl)
      case a20 => kernel_rfl
      case b20 => kernel_rfl
      case c20 => kernel_rfl
      case q20 => exact fun _ _ _ h => h
      case g20 => rfl
      case y20 => (intro wS hSw; obtain ⟨nS, rfl⟩ := hSw; go_simp; (try with_reducible rfl))
      case s20 => assumption
      (try simp only [Act.put, List.setIfInBounds_toArray, List.set_cons_zero, List.set_cons_succ])
      refine wpAnyH_take (i := 5) (oi := ?o21) (v := ?v21) ?h21 ?a21 ?b21 ?c21 ?q21 (Or.inl ⟨?g21, ?y21⟩) ?s21 ?r21
      case h21 => (simp only [List.getElem?_toArray, List.getElem?_cons_zero, List.getElem?_cons_succ]; rfl)
      case a21 => kernel_rfl
      case b21 => kernel_rfl
      case c21 => kernel_rfl
      case q21 => exact fun _ _ _ h => h
      case g21 => rfl
      case y21 => (intro wS hSw; obtain ⟨nS, rfl⟩ := hSw; go_simp; (try with_reducible rfl))
      case s21 => assumption
      (try simp only [Act.put, List.setIfInBounds_toArray, List.set_cons_zero, List.set_cons_succ])
      refine wpAnyH_take (i := 6) (oi := ?o22) (v := ?v22) ?h22 ?a22 ?b22 ?c22 ?q22 (Or.inl ⟨?g22, ?y22⟩) ?s22 ?r22
      case h22 => (simp only [List.getElem?_toArray, List.getElem?_cons_zero, List.getElem?_cons_succ]; rfl)
      case a22 => kernel_rfl
      case b22 => kernel_rfl
      case c22 => kernel_rfl
      case q22 => exact fun _ _ _ h => h
      case g22 => rfl
      case y22 => (intro wS hSw; obtain ⟨nS, rfl⟩ := hSw; go_simp; (try with_reducible rfl))
      case s22 => assumption
      (try simp only [Act.put, List.setIfInBounds_toArray, List.set_cons_zero, List.set_cons_succ])
      refine wpAnyH_take (i := 7) (oi := ?o23) (v := ?v23) ?h23 ?a23 ?b23 ?c23 ?q23 (Or.inl ⟨?g23, ?y23⟩) ?s23 ?r23
      case h23 => (simp only [List.getElem?_toArray, List.getElem?_cons_zero, List.getElem?_cons_succ]; rfl)
      case a23 => kernel_rfl
      case b23 => kernel_rfl
      case c23 => kernel_rfl
      case q23 => exact fun _ _ _ h => h
      case g23 => rfl
      case y23 => (intro wS hSw; obtain ⟨nS, rfl⟩ := hSw; go_simp; (try with_reducible rfl))
      case s23 => assumption
      (try simp only [Act.put, List.setIfInBounds_toArray, List.set_cons_zero, List.set_cons_succ])
      refine wpAnyH_take (i := 8) (oi := ?o24) (v := ?v24) ?h24 ?a24 ?b24 ?c24 ?q24 (Or.inl ⟨?g24, ?y24⟩) ?s24 ?r24
      case h24 => (simp only [List.getElem?_toArray, List.getElem?_cons_zero, List.getElem?_cons_succ]; rfl)
      case a24 => kernel_rfl
      case b24 => kernel_rfl
      case c24 => kernel_rfl
      case q24 => exact fun _ _ _ h => h
      case g24 => rfl
      case y24 => (intro wS hSw; obtain ⟨nS, rfl⟩ := hSw; go_simp; (try with_reducible rfl))
      case s24 => assumption
      (try simp only [Act.put, List.setIfInBounds_toArray, List.set_cons_zero, List.set_cons_succ])
      refine wpAnyH_take (i := 9) (oi := ?o25) (v := ?v25) ?h25 ?a25 ?b25 ?c25 ?q25 (Or.inl ⟨?g25, ?y25⟩) ?s25 ?r25
      case h25 => (simp only [List.getElem?_toArray, List.getElem?_cons_zero, List.getElem?_cons_succ]; rfl)
      case a25 => kernel_rfl
      case b25 => kernel_rfl
      case c25 => kernel_rfl
      case q25 => exact fun _ _ _ h => h
      case g25 => rfl
      case y25 => (intro wS hSw; obtain ⟨nS, rfl⟩ := hSw; go_simp; (try with_reducible rfl))
      case s25 => assumption
      (try simp only [Act.put, List.setIfInBounds_toArray, List.set_cons_zero, List.set_cons_succ])
      refine wpAnyH_take (i := 10) (oi := ?o26) (v := ?v26) ?h26 ?a26 ?b26 ?c26 ?q26 (Or.inl ⟨?g26, ?y26⟩) ?s26 ?r26
      case h26 => (simp only [List.getElem?_toArray, List.getElem?_cons_zero, List.getElem?_cons_succ]; rfl)
      case a26 => kernel_rfl
      case b26 => kernel_rfl
      case c26 => kernel_rfl
      case q26 => exact fun _ _ _ h => h
      case g26 => rfl
      case y26 => (intro wS hSw; obtain ⟨nS, rfl⟩ := hSw; go_simp; (try with_reducible rfl))
      case s26 => assumption
      (try simp only [Act.put, List.setIfInBounds_toArray, List.set_cons_zero, List.set_cons_succ])
      refine wpAnyH_take (i := 11) (oi := ?o27) (v := ?v27) ?h27 ?a27 ?b27 ?c27 ?q27 (Or.inl ⟨?g27, ?y27⟩) ?s27 ?r27
      case h27 => (simp only [List.getElem?_toArray, List.getElem?_cons_zero, List.getElem?_cons_succ]; rfl)
      case a27 => kernel_rfl
      case b27 => kernel_rfl
      case c27 => kernel_rfl
      case q27 => exact fun _ _ _ h => h
      case g27 => rfl
      case y27 => (intro wS hSw; obtain ⟨nS, rfl⟩ := hSw; go_simp; (try with_reducible rfl))
      case s27 => assumption
      (try simp only [Act.put, List.setIfInBounds_toArray, List.set_cons_zero, List.set_cons_succ])
      refine wpAnyH_take (i := 12) (oi := ?o28) (v := ?v28) ?h28 ?a28 ?b28 ?c28 ?q28 (Or.inl ⟨?g28, ?y28⟩) ?s28 ?r28
      case h28 => (simp only [List.getElem?_toArray, List.getElem?_cons_zero, List.getElem?_cons_succ]; rfl)
      case a28 => kernel_rfl
      case b28 => kernel_rfl
      case c28 => kernel_rfl
      case q28 => exact fun _ _ _ h => h
      case g28 => rfl
      case y28 => (intro wS hSw; obtain ⟨nS, rfl⟩ := hSw; go_simp; (try with_reducible rfl))
      case s28 => assumption
      (try simp only [Act.put, List.setIfInBounds_toArray, List.set_cons_zero, List.set_cons_succ])
      refine wpAnyH_take (i := 13) (oi := ?o29) (v := ?v29) ?h29 ?a29 ?b29 ?c29 ?q29 (Or.inl ⟨?g29, ?y29⟩) ?s29 ?r29
      case h29 => (simp only [List.getElem?_toArray, List.getElem?_cons_zero, List.getElem?_cons_succ]; rfl)
      case a29 => kernel_rfl
      case b29 => kernel_rfl
      case c29 => kernel_rfl
      case q29 => exact fun _ _ _ h => h
      case g29 => rfl
      case y29 => (intro wS hSw; obtain ⟨nS, rfl⟩ := hSw; go_simp; (try with_reducible rfl))
      case s29 => assumption
      (try simp only [Act.put, List.setIfInBounds_toArray, List.set_cons_zero, List.set_cons_succ])
      refine wpAnyH_ready (rs := [14]) (by kernel_rfl) (by simp) ?_
      refine AllReadyH.cons (o := ?oB30) ?hB30 ?kB30 AllReadyH.nil
      case hB30 => (simp only [List.getElem?_toArray, List.getElem?_cons_zero, List.getElem?_cons_succ]; rfl)
      case kB30 =>
        intro K hK
        go_simp
        refine (vrequire_no vb v 2 w5.drew (HV2.out _ HB.out).drew).mono ?_
        rintro e w6 ⟨rfl, n5, rfl⟩
        exact ⟨rfl, HNO.out _ (drew2_below w5 n5)⟩
  · refine (after_no vb v n _ (HV2.out _ (bx _)) HH.out.2.2.1 hfit).mono ?_
    rintro e w5 ⟨rfl, m5, hw⟩
    have hB : Below w.heap.size w w5 := by rw [hw]; exact (bx _).trans ((drewN_below _ _).mono (by simp))
    refine ⟨rfl, ?_⟩
    rw [HH.out.2.2.2.a, HH.out.2.2.2.k]
    exact KPost.no (short_no (by omega)) HH.out.1 hB
set_option maxRecDepth 20000 in
set_option maxHeartbeats 2000000 in
theorem rd_number (h : Rd w P o rb L s ps) (hv : VAt w vb v) (ok : VOk v) (hN : VNat v a l st k) (hl : l ≤ s.size) (f1 : 1 ≤ f.n) (f3 : f.n ≤ 3) :
    Calls Tryz.prog 68 #[ptr rb, ptr vb, fldV f] w fun e w' =>
      KPost w P o rb L s ps (short v.format k a l f.n.toNat (.ok (a + f.n.toNat, num (s.extract a (a + f.n.toNat)), []))) e w' := by
  have na := hN.a
  have nl := hN.l
  have b0 := ok.at0
  have b1 := ok.lim
  have b2 := ok.max
  obtain ⟨n, hn⟩ : ∃ n : Int, f.n = n := ⟨_, rfl⟩
  have HH := Lib.hid (And.intro h (And.intro hv (And.intro ok hN)))
  have HBX := Lib.hid (box_cells w f)
  have HV2 : Hid (∀ W, Below w.heap.size w W → VAt W vb v) := Lib.hid fun W hb => hv.keep (hb.block vb hv.blk.lt)
  clear h hv ok hN
  go_enter Tryz.func68, Tryz.ntmps68
  go_wp2_with fail
  by_cases hfit : n ≤ v.limit - v.at_
  · refine (after_yes vb v n _ (HV2.out _ (bx _)) HH.out.2.2.1 (by omega) (by omega) hfit).mono ?_
    rintro e w5 ⟨rfl, m5, hw⟩
    have hB : Below w.heap.size w w5 := by rw [hw]; exact (bx _).trans ((drewN_below _ _).mono (by simp))
    obtain ⟨-, -, -, -, c4, -⟩ := (HV2.out _ hB).cells
    have cs := (HH.out.1.below hB).stream
    obtain ⟨X, hX⟩ : ∃ X, X = s.extract a (a + f.n.toNat) := ⟨_, rfl⟩
    have hsl : ∀ W, (Instr.slice 9 (.string s) (some (.int .i64 (a : Int))) (some (.int .i64 ((a : Int) + n))) none).run Tryz.prog W = .ok (.string X) W := by rw [hX]; exact str_slice rfl (by omega) (by omega)
    have hxs : X.size ≤ 3 := by rw [hX, ByteArray.size_extract]; omega
    have HY : Hid (∀ W, Below w5.heap.size w5 W → KPost w P o rb L s ps (short v.format k a l f.n.toNat (.ok (a + f.n.toNat, num (s.extract a (a + f.n.toNat)), []))) (.returned (.tuple #[.int .i64 ((a : Int) + n), .int .i64 (num X)])) W) := Lib.hid fun W hb => by
      rw [hX]
      exact KPost.yes (en := a + f.n.toNat) (short_yes (by omega)) (by omega) HH.out.1 (hB.trans (hb.mono hB.size))
    clear hw hB hX
    go_wp2_with fail
    refine wp_region_held_drew (S := (fun w' : World => ∃ n : Nat, w' = w5.drewN n)) (by kernel_rfl) ⟨1, rfl⟩ (fun hHeld => ?_)
    refine wpAnyH_take (i := 0) (oi := ?o31) (v := ?v31) ?h31 ?a31 ?b31 ?c31 ?q31 (Or.inl ⟨?g31, ?y31⟩) ?s31 ?r31
    case h31 => (simp only [List.getElem?_toArray, List.getElem?_cons_zero]; rfl)
    case a31 => kernel_rfl
    case b31 => kernel_rfl
    case c31 => kernel_rfl
    case q31 => exact fun _ _ _ h => h
    case g31 => rfl
    case y31 => (intro wS hSw; obtain ⟨nS, rfl⟩ := hSw; go_simp; (try with_reducible rfl))
    case s31 => assumption
    (try simp only [Act.put, List.setIfInBounds_toArray, List.set_cons_zero, List.set_cons_succ])
    refine wpAnyH_take (i := 1) (oi := ?o32) (v := ?v32) ?h32 ?a32 ?b32 ?c32 ?q32 (Or.inl ⟨?g32, ?y32⟩) ?s32 ?r32
    case h32 => (simp only [List.getElem?_toArray, List.getElem?_cons_zero, List.getElem?_cons_succ]; rfl)
    case a32 => kernel_rfl
    case b32 => kernel_rfl
    case c32 => kernel_rfl
    case q32 => exact fun _ _ _ h => h
    case g32 => rfl
    case y32 => (intro wS hSw; obtain ⟨nS, rfl⟩ := hSw; go_simp; (try with_reducible rfl))
    case s32 => assumption
    (try simp only [Act.put, List.setIfInBounds_toArray, List.set_cons_zero, List.set_cons_succ])
    refine wpAnyH_take (i := 2) (oi := ?o33) (v := ?v33) ?h33 ?a33 ?b33 ?c33 ?q33 (Or.inl ⟨?g33, ?y33⟩) ?s33 ?r33
    case h33 => (simp only [List.getElem?_toArray, List.getElem?_cons_zero, List.getElem?_cons_succ]; rfl)
    case a33 => kernel_rfl
    case b33 => kernel_rfl
    case c33 => kernel_rfl
    case q33 => exact fun _ _ _ h => h
    case g33 => rfl
    case y33 => (intro wS hSw; obtain ⟨nS, rfl⟩ := hSw; go_simp; (try with_reducible rfl))
    case s33 => assumption
    (try simp only [Act.put, List.setIfInBounds_toArray, List.set_cons_zero, List.set_cons_succ])
    refine wpAnyH_take (i := 3) (oi := ?o34) (v := ?v34) ?h34 ?a34 ?b34 ?c34 ?q34 (Or.inl ⟨?g34, ?y34⟩) ?s34 ?r34
    case h34 => (simp only [List.getElem?_toArray, List.getElem?_cons_zero, List.getElem?_cons_succ]; rfl)
    case a34 => kernel_rfl
    case b34 => kernel_rfl
    case c34 => kernel_rfl
    case q34 => exact fun _ _ _ h => h
    case g34 => rfl
    case y34 => (intro wS hSw; obtain ⟨nS, rfl⟩ := hSw; go_simp; (try with_reducible rfl))
    case s34 => assumption
    (try simp only [Act.put, List.setIfInBounds_toArray, List.set_cons_zero, List.set_cons_succ])
    refine wpAnyH_take (i := 4) (oi := ?o35) (v := ?v35) ?h35 ?a35 ?b35 ?c35 ?q35 (Or.inl ⟨?g35, ?y35⟩) ?s35 ?r35
    case h35 => (simp only [List.getElem?_toArray, List.getElem?_cons_zero, List.getElem?_cons_succ]; rfl)
    case a35 => kernel_rfl
    case b35 => kernel_rfl
    case c35 => kernel_rfl
    case q35 => exact fun _ _ _ h => h
    case g35 => rfl
    case y35 => (intro wS hSw; obtain ⟨nS, rfl⟩ := hSw; go_simp; (try with_reducible rfl))
    case s35 => assumption
    (try simp only [Act.put, List.setIfInBounds_toArray, List.set_cons_zero, List.set_cons_succ])
    refine wpAnyH_take (i := 5) (oi := ?o36) (v := ?v36) ?h36 ?a36 ?b36 ?c36 ?q36 (Or.inl ⟨?g36, ?y36⟩) ?s36 ?r36
    case h36 => (simp only [List.getElem?_toArray, List.getElem?_cons_zero, List.getElem?_cons_succ]; rfl)
    case a36 => kernel_rfl
    case b36 => kernel_rfl
    case c36 => kernel_rfl
    case q36 => exact fun _ _ _ h => h
    case g36 => rfl
    case y36 => (intro wS hSw; obtain ⟨nS, rfl⟩ := hSw; go_simp; (try with_reducible rfl))
    case s36 => assumption
    (try simp only [Act.put, List.setIfInBounds_toArray, List.set_cons_zero, List.set_cons_succ])
    refine wpAnyH_take (i := 6) (oi := ?o37) (v := ?v37) ?h37 ?a37 ?b37 ?c37 ?q37 (Or.inl ⟨?g37, ?y37⟩) ?s37 ?r37
    case h37 => (simp only [List.getElem?_toArray, List.getElem?_cons_zero, List.getElem?_cons_succ]; rfl)
    case a37 => kernel_rfl
    case b37 => kernel_rfl
    case c37 => kernel_rfl
    case q37 => exact fun _ _ _ h => h
    case g37 => rfl
    case y37 => (intro wS hSw; obtain ⟨nS, rfl⟩ := hSw; go_simp; (try with_reducible rfl))
    case s37 => assumption
    (try simp only [Act.put, List.setIfInBounds_toArray, List.set_cons_zero, List.set_cons_succ])
    refine wpAnyH_take (i := 7) (oi := ?o38) (v := ?v38) ?h38 ?a38 ?b38 ?c38 ?q38 (Or.inl ⟨?g38, ?y38⟩) ?s38 ?r38
    case h38 => (simp only [List.getElem?_toArray, List.getElem?_cons_zero, List.getElem?_cons_succ]; rfl)
    case a38 => kernel_rfl
    case b38 => kernel_rfl
    case c38 => kernel_rfl
    case q38 => exact fun _ _ _ h => h
    case g38 => rfl
    case y38 => (intro wS hSw; obtain ⟨nS, rfl⟩ := hSw; go_simp; (try with_reducible rfl))
    case s38 => assumption
    (try simp only [Act.put, List.setIfInBounds_toArray, List.set_cons_zero, List.set_cons_succ])
    refine wpAnyH_take (i := 8) (oi := ?o39) (v := ?v39) ?h39 ?a39 ?b39 ?c39 ?q39 (Or.inl ⟨?g39, ?y39⟩) ?s39 ?r39
    case h39 => (simp only [List.getElem?_toArray, List.getElem?_cons_zero, List.getElem?_cons_succ]; rfl)
    case a39 => kernel_rfl
    case b39 => kernel_rfl
    case c39 => kernel_rfl
    case q39 => exact fun _ _ _ h => h
    case g39 => rfl
    case y39 => (intro wS hSw; obtain ⟨nS, rfl⟩ := hSw; go_simp; (try with_reducible rfl))
    case s39 => assumption
    (try simp only [Act.put, List.setIfInBounds_toArray, List.set_cons_zero, List.set_cons_succ])
    refine wpAnyH_take (i := 9) (oi := ?o40) (v := ?v40) ?h40 ?a40 ?b40 ?c40 ?q40 (Or.inl ⟨?g40, ?y40⟩) ?s40 ?r40
    case h40 => (simp only [List.getElem?_toArray, List.getElem?_cons_zero, List.getElem?_cons_succ]; rfl)
    case a40 => kernel_rfl
    case b40 => kernel_rfl
    case c40 => kernel_rfl
    case q40 => exact fun _ _ _ h => h
    case g40 => rfl
    case y40 => (intro wS hSw; obtain ⟨nS, rfl⟩ := hSw; go_simp; (try with_reducible rfl))
    case s40 => assumption
    (try simp only [Act.put, List.setIfInBounds_toArray, List.set_cons_zero, List.set_cons_succ])
    refine wpAnyH_take (i := 10) (oi := ?o41) (v := ?v41) ?h41 ?a41 ?b41 ?c41 ?q41 (Or.inl ⟨?g41, ?y41⟩) ?s41 ?r41
    case h41 => (simp only [List.getElem?_toArray, List.getElem?_cons_zero, List.getElem?_cons_succ]; rfl)
    case a41 => kernel_rfl
    case b41 => kernel_rfl
    case c41 => kernel_rfl
    case q41 => exact fun _ _ _ h => h
    case g41 => rfl
    case y41 => (intro wS hSw; obtain ⟨nS, rfl⟩ := hSw; go_simp; (try with_reducible rfl))
    case s41 => assumption
    (try simp only [Act.put, List.setIfInBounds_toArray, List.set_cons_zero, List.set_cons_succ])
    refine wpAnyH_ready (rs := [11]) (by kernel_rfl) (by simp) ?_
    refine AllReadyH.cons (o := ?oB42) ?hB42 ?kB42 AllReadyH.nil
    case hB42 => (simp only [List.getElem?_toArray, List.getElem?_cons_zero, List.getElem?_cons_succ]; rfl)
    case kB42 =>
      intro K hK
      go_simp
      refine (number_any X w5.drew hxs).mono ?_
      rintro e w6 ⟨rfl, rfl⟩
      refine hK.out _ _ ⟨1, rfl⟩ (fun _ => ?_)
      clear hK K
      (try simp only [Act.put, List.setIfInBounds_toArray, List.set_cons_zero, List.set_cons_succ])
      refine wpAnyH_take (i := 12) (oi := ?o43) (v := ?v43) ?h43 ?a43 ?b43 ?c43 ?q43 (Or.inl ⟨?g43, ?y43⟩) ?s43 ?r43
      case h43 => (simp only [List.getElem?_toArray, List.getElem?_cons_zero, List.getElem?_cons_succ]; rfl)
      case a43 => kernel_rfl
      case b43 => kernel_rfl
      case c43 => kernel_rfl
      case q43 => exact fun _ _ _ h => h
      case g43 => rfl
      case y43 => (intro wS hSw; obtain ⟨nS, rfl⟩ := hSw; go_simp; (try with_reducible rfl))
      case s43 => assumption
      (try simp only [Act.put, List.setIfInBounds_toArray, List.set_cons_zero, List.set_cons_succ])
      refine wpAnyH_take (i := 13) (oi := ?o44) (v := ?v44) ?h44 ?a44 ?b44 ?c44 ?q44 (Or.inl ⟨?g44, ?y44⟩) ?s44 ?r44
      case h44 => (simp only [List.getElem?_toArray, List.getElem?_cons_zero, List.getElem?_cons_succ]; rfl)
      case a44 => kernel_rfl
      case b44 => kernel_rfl
      case c44 => kernel_rfl
      case q44 => exact fun _ _ _ h => h
      case g44 => rfl
      case y44 => (intro wS hSw; obtain ⟨nS, rfl⟩ := hSw; go_simp; (try with_reducible rfl))
      case s44 => assumption
      (try simp only [Act.put, List.setIfInBounds_toArray, List.set_cons_zero, List.set_cons_succ])
      refine wpAnyH_done (by kernel_rfl) ?_ _
      go_wp2
      go_ret2
      exact HY.out _ (drewN_below _ 1)
  · refine (after_no vb v n _ (HV2.out _ (bx _)) HH.out.2.2.1 hfit).mono ?_
    rintro e w5 ⟨rfl, m5, hw⟩
    have hB : Below w.heap.size w w5 := by rw [hw]; exact (bx _).trans ((drewN_below _ _).mono (by simp))
    refine ⟨rfl, ?_⟩
    rw [HH.out.2.2.2.a, HH.out.2.2.2.k]
    exact KPost.no (short_no (by omega)) HH.out.1 hB

set_option maxRecDepth 20000 in
set_option maxHeartbeats 2000000 in
theorem rd_bytes_n (h : Rd w P o rb L s ps) (hv : VAt w vb v) (ok : VOk v) (hN : VNat v a l st k) (hfr : f.frm = -1) (f1 : 0 ≤ f.n) (f3 : f.n ≤ 4096) :
    Calls Tryz.prog 69 #[ptr rb, ptr vb, fldV f] w fun e w' =>
      KPost w P o rb L s ps (short v.format k a l f.n.toNat (.ok (a + f.n.toNat, 0, []))) e w' := by
  have na := hN.a
  have nl := hN.l
  have b0 := ok.at0
  have b1 := ok.lim
  have b2 := ok.max
  obtain ⟨n, hn⟩ : ∃ n : Int, f.n = n := ⟨_, rfl⟩
  have HH := Lib.hid (And.intro h (And.intro hv (And.intro ok hN)))
  have HV2 : Hid (∀ W, Below w.heap.size w W → VAt W vb v) := Lib.hid fun W hb => hv.keep (hb.block vb hv.blk.lt)
  clear h hv ok hN
  go_enter Tryz.func69, Tryz.ntmps69
  go_wp2_with fail
  by_cases hfit : n ≤ v.limit - v.at_
  · refine (after_yes vb v n _ (HV2.out _ (bx _)) HH.out.2.2.1 (by omega) (by omega) hfit).mono ?_
    rintro e w5 ⟨rfl, m5, hw⟩
    have HB := Lib.hid (show Below w.heap.size w w5 by rw [hw]; exact (bx _).trans ((drewN_below _ _).mono (by simp)))
    clear hw
    go_wp2
    go_ret2
    exact KPost.yes (en := a + f.n.toNat) (short_yes (by omega)) (by omega) HH.out.1 HB.out
  · refine (after_no vb v n _ (HV2.out _ (bx _)) HH.out.2.2.1 hfit).mono ?_
    rintro e w5 ⟨rfl, m5, hw⟩
    have hB : Below w.heap.size w w5 := by rw [hw]; exact (bx _).trans ((drewN_below _ _).mono (by simp))
    refine ⟨rfl, ?_⟩
    rw [HH.out.2.2.2.a, HH.out.2.2.2.k]
    exact KPost.no (short_no (by omega)) HH.out.1 hB
set_option maxRecDepth 20000 in
set_option maxHeartbeats 2000000 in
theorem rd_bytes_from (h : Rd w P o rb L s ps) (hv : VAt w vb v) (ok : VOk v) (hN : VNat v a l st k) (q : Nat) (hq : f.frm = q) (hq16 : q < 16) :
    Calls Tryz.prog 69 #[ptr rb, ptr vb, fldV f] w fun e w' =>
      KPost w P o rb L s ps (short v.format k a l (told f v.nums) (.ok (a + told f v.nums, 0, []))) e w' := by
  have na := hN.a
  have nl := hN.l
  have b0 := ok.at0
  have b1 := ok.lim
  have b2 := ok.max
  have bq := ok.num q hq16
  obtain ⟨n, hn⟩ : ∃ n : Int, v.nums.getD q 0 = n := ⟨_, rfl⟩
  rw [hn] at bq
  have htl : told f v.nums = n.toNat := by unfold told; rw [hq, ← hn]; rfl
  have cq : w.cell? ⟨vb, 6 + q, none⟩ = some (.int .i64 n) := by rw [hv.num hq16, hn]
  have HBX := Lib.hid (box_cells w f)
  have lv := hv.blk.lt
  have HC : Hid (∀ W, Below w.heap.size w W → W.cell? ⟨vb, 6 + q, none⟩ = some (.int .i64 n)) := Lib.hid fun W hb => (hb.cell (p := ⟨vb, 6 + q, none⟩) lv).trans cq
  have HH := Lib.hid (And.intro h (And.intro hv (And.intro ok hN)))
  have HV2 : Hid (∀ W, Below w.heap.size w W → VAt W vb v) := Lib.hid fun W hb => hv.keep (hb.block vb hv.blk.lt)
  have hne : ((q : Int) == -1) = false := by rw [beq_eq_false_iff_ne]; omega
  have hin : (0 : Int) ≤ (q : Int) ∧ (q : Int) < 16 := by omega
  rw [htl]
  clear h hv ok hN cq hn
  go_enter Tryz.func69, Tryz.ntmps69
  go_wp2_with fail
  have hB0 := bx (w := w) (.cells #[.int .i64 f.kind, .int .i64 f.n, .int .i64 (q : Int), .string f.text] 56)
  have c2 : (w.alloc (.cells #[.int .i64 f.kind, .int .i64 f.n, .int .i64 (q : Int), .string f.text] 56)).cell? ⟨w.heap.size, 2, none⟩ = some (.int .i64 (q : Int)) := cell_of_row _ _ 2 _ _ _ (heap_alloc_new w _)
  have cq := HC.out _ hB0
  have HB0 := Lib.hid hB0
  clear hB0
  generalize w.alloc (.cells #[.int .i64 f.kind, .int .i64 f.n, .int .i64 (q : Int), .string f.text] 56) = W at *
  by_cases hfit : n ≤ v.limit - v.at_
  · have HY : Hid (∀ W', Below W.heap.size W W' → KPost w P o rb L s ps (short v.format k a l n.toNat (.ok (a + n.toNat, 0, []))) (.returned (.tuple #[.int .i64 ((a : Int) + n), .int .i64 0])) W') := Lib.hid fun W' hb =>
      KPost.yes (en := a + n.toNat) (short_yes (by omega)) (by omega) HH.out.1 (HB0.out.trans (hb.mono HB0.out.size))
    have HCL : Hid (Calls Tryz.prog 94 #[ptr vb, .int .i64 n] W.drew fun e w' => e = .returned (.int .i64 (v.at_ + n)) ∧ ∃ m, w' = W.drew.drewN m) := Lib.hid (after_yes vb v n _ (HV2.out _ HB0.out.drew) HH.out.2.2.1 bq.1 bq.2 hfit)
    clear hfit
    refine wp_region_held_drew (S := (fun w' : World => ∃ n : Nat, w' = W.drewN n)) (by kernel_rfl) ⟨1, rfl⟩ (fun hHeld => ?_)
    refine wpAnyH_take (i := 0) (oi := ?o45) (v := ?v45) ?h45 ?a45 ?b45 ?c45 ?q45 (Or.inl ⟨?g45, ?y45⟩) ?s45 ?r45
    case h45 => (simp only [List.getElem?_toArray, List.getElem?_cons_zero]; rfl)
    case a45 => kernel_rfl
    case b45 => kernel_rfl
    case c45 => kernel_rfl
    case q45 => exact fun _ _ _ h => h
    case g45 => rfl
    case y45 => (intro wS hSw; obtain ⟨nS, rfl⟩ := hSw; go_simp; (try with_reducible rfl))
    case s45 => assumption
    (try simp only [Act.put, List.setIfInBounds_toArray, List.set_cons_zero, List.set_cons_succ])
    refine wpAnyH_take (i := 1) (oi := ?o46) (v := ?v46) ?h46 ?a46 ?b46 ?c46 ?q46 (Or.inl ⟨?g46, ?y46⟩) ?s46 ?r46
    case h46 => (simp only [List.getElem?_toArray, List.getElem?_cons_zero, List.getElem?_cons_succ]; rfl)
    case a46 => kernel_rfl
    case b46 => kernel_rfl
    case c46 => kernel_rfl
    case q46 => exact fun _ _ _ h => h
    case g46 => rfl
    case y46 => (intro wS hSw; obtain ⟨nS, rfl⟩ := hSw; go_simp; (try with_reducible rfl))
    case s46 => assumption
    (try simp only [Act.put, List.setIfInBounds_toArray, List.set_cons_zero, List.set_cons_succ])
    refine wpAnyH_take (i := 2) (oi := ?o47) (v := ?v47) ?h47 ?a47 ?b47 ?c47 ?q47 (Or.inl ⟨?g47, ?y47⟩) ?s47 ?r47
    case h47 => (simp only [List.getElem?_toArray, List.getElem?_cons_zero, List.getElem?_cons_succ]; rfl)
    case a47 => kernel_rfl
    case b47 => kernel_rfl
    case c47 => kernel_rfl
    case q47 => exact fun _ _ _ h => h
    case g47 => rfl
    case y47 => (intro wS hSw; obtain ⟨nS, rfl⟩ := hSw; go_simp; (try with_reducible rfl))
    case s47 => assumption
    (try simp only [Act.put, List.setIfInBounds_toArray, List.set_cons_zero, List.set_cons_succ])
    refine wpAnyH_take (i := 3) (oi := ?o48) (v := ?v48) ?h48 ?a48 ?b48 ?c48 ?q48 (Or.inl ⟨?g48, ?y48⟩) ?s48 ?r48
    case h48 => (simp only [List.getElem?_toArray, List.getElem?_cons_zero, List.getElem?_cons_succ]; rfl)
    case a48 => kernel_rfl
    case b48 => kernel_rfl
    case c48 => kernel_rfl
    case q48 => exact fun _ _ _ h => h
    case g48 => rfl
    case y48 => (intro wS hSw; obtain ⟨nS, rfl⟩ := hSw; go_simp; (try with_reducible rfl))
    case s48 => assumption
    (try simp only [Act.put, List.setIfInBounds_toArray, List.set_cons_zero, List.set_cons_succ])
    refine wpAnyH_take (i := 4) (oi := ?o49) (v := ?v49) ?h49 ?a49 ?b49 ?c49 ?q49 (Or.inl ⟨?g49, ?y49⟩) ?s49 ?r49
    case h49 => (simp only [List.getElem?_toArray, List.getElem?_cons_zero, List.getElem?_cons_succ]; rfl)
    case a49 => kernel_rfl
    case b49 => kernel_rfl
    case c49 => kernel_rfl
    case q49 => exact fun _ _ _ h => h
    case g49 => rfl
    case y49 => (intro wS hSw; obtain ⟨nS, rfl⟩ := hSw; go_simp; (try with_reducible rfl))
    case s49 => assumption
    (try simp only [Act.put, List.setIfInBounds_toArray, List.set_cons_zero, List.set_cons_succ])
    refine wpAnyH_take (i := 5) (oi := ?o50) (v := ?v50) ?h50 ?a50 ?b50 ?c50 ?q50 (Or.inl ⟨?g50, ?y50⟩) ?s50 ?r50
    case h50 => (simp only [List.getElem?_toArray, List.getElem?_cons_zero, List.getElem?_cons_succ]; rfl)
    case a50 => kernel_rfl
    case b50 => kernel_rfl
    case c50 => kernel_rfl
    case q50 => exact fun _ _ _ h => h
    case g50 => rfl
    case y50 => (intro wS hSw; obtain ⟨nS, rfl⟩ := hSw; go_simp; (try with_reducible rfl))
    case s50 => assumption
    (try simp only [Act.put, List.setIfInBounds_toArray, List.set_cons_zero, List.set_cons_succ])
    refine wpAnyH_take (i := 6) (oi := ?o51) (v := ?v51) ?h51 ?a51 ?b51 ?c51 ?q51 (Or.inl ⟨?g51, ?y51⟩) ?s51 ?r51
    case h51 => (simp only [List.getElem?_toArray, List.getElem?_cons_zero, List.getElem?_cons_succ]; rfl)
    case a51 => kernel_rfl
    case b51 => kernel_rfl
    case c51 => kernel_rfl
    case q51 => exact fun _ _ _ h => h
    case g51 => rfl
    case y51 => (intro wS hSw; obtain ⟨nS, rfl⟩ := hSw; go_simp; (try with_reducible rfl))
    case s51 => assumption
    (try simp only [Act.put, List.setIfInBounds_toArray, List.set_cons_zero, List.set_cons_succ])
    refine wpAnyH_take (i := 7) (oi := ?o52) (v := ?v52) ?h52 ?a52 ?b52 ?c52 ?q52 (Or.inl ⟨?g52, ?y52⟩) ?s52 ?r52
    case h52 => (simp only [List.getElem?_toArray, List.getElem?_cons_zero, List.getElem?_cons_succ]; rfl)
    case a52 => kernel_rfl
    case b52 => kernel_rfl
    case c52 => kernel_rfl
    case q52 => exact fun _ _ _ h => h
    case g52 => rfl
    case y52 => (intro wS hSw; obtain ⟨nS, rfl⟩ := hSw; go_simp; (try with_reducible rfl))
    case s52 => assumption
    (try simp only [Act.put, List.setIfInBounds_toArray, List.set_cons_zero, List.set_cons_succ])
    refine wpAnyH_ready (rs := [8]) (by kernel_rfl) (by simp) ?_
    refine AllReadyH.cons (o := ?oB53) ?hB53 ?kB53 AllReadyH.nil
    case hB53 => (simp only [List.getElem?_toArray, List.getElem?_cons_zero, List.getElem?_cons_succ]; rfl)
    case kB53 =>
      intro K hK
      go_simp
      refine HCL.out.mono ?_
      rintro e w6 ⟨rfl, m6, rfl⟩
      refine hK.out _ _ ⟨m6 + 1, by rw [Nat.add_comm]; exact World.drewN_drewN _ 1 m6⟩ (fun _ => ?_)
      clear hK K
      (try simp only [Act.put, List.setIfInBounds_toArray, List.set_cons_zero, List.set_cons_succ])
      refine wpAnyH_take (i := 9) (oi := ?o54) (v := ?v54) ?h54 ?a54 ?b54 ?c54 ?q54 (Or.inl ⟨?g54, ?y54⟩) ?s54 ?r54
      case h54 => (simp only [List.getElem?_toArray, List.getElem?_cons_zero, List.getElem?_cons_succ]; rfl)
      case a54 => kernel_rfl
      case b54 => kernel_rfl
      case c54 => kernel_rfl
      case q54 => exact fun _ _ _ h => h
      case g54 => rfl
      case y54 => (intro wS hSw; obtain ⟨nS, rfl⟩ := hSw; go_simp; (try with_reducible rfl))
      case s54 => assumption
      (try simp only [Act.put, List.setIfInBounds_toArray, List.set_cons_zero, List.set_cons_succ])
      refine wpAnyH_take (i := 10) (oi := ?o55) (v := ?v55) ?h55 ?a55 ?b55 ?c55 ?q55 (Or.inl ⟨?g55, ?y55⟩) ?s55 ?r55
      case h55 => (simp only [List.getElem?_toArray, List.getElem?_cons_zero, List.getElem?_cons_succ]; rfl)
      case a55 => kernel_rfl
      case b55 => kernel_rfl
      case c55 => kernel_rfl
      case q55 => exact fun _ _ _ h => h
      case g55 => rfl
      case y55 => (intro wS hSw; obtain ⟨nS, rfl⟩ := hSw; go_simp; (try with_reducible rfl))
      case s55 => assumption
      (try simp only [Act.put, List.setIfInBounds_toArray, List.set_cons_zero, List.set_cons_succ])
      refine wpAnyH_done (by kernel_rfl) ?_ _
      go_wp2
      go_ret2
      exact HY.out _ (drew2_below W m6)
  · have HNO : Hid (∀ W', Below W.heap.size W W' → KPost w P o rb L s ps (short v.format k a l n.toNat (.ok (a + n.toNat, 0, []))) (Stops ⟨v.at_, v.format, v.field, 1⟩) W') := Lib.hid fun W' hb => by
      rw [HH.out.2.2.2.a, HH.out.2.2.2.k]
      exact KPost.no (short_no (by omega)) HH.out.1 (HB0.out.trans (hb.mono HB0.out.size))
    have HCL : Hid (Calls Tryz.prog 94 #[ptr vb, .int .i64 n] W.drew fun e w' => e = Stops ⟨v.at_, v.format, v.field, 1⟩ ∧ ∃ m, w' = W.drew.drewN m) := Lib.hid (after_no vb v n _ (HV2.out _ HB0.out.drew) HH.out.2.2.1 hfit)
    clear hfit
    refine wp_region_held_drew (S := (fun w' : World => ∃ n : Nat, w' = W.drewN n)) (by kernel_rfl) ⟨1, rfl⟩ (fun hHeld => ?_)
    refine wpAnyH_take (i := 0) (oi := ?o56) (v := ?v56) ?h56 ?a56 ?b56 ?c56 ?q56 (Or.inl ⟨?g56, ?y56⟩) ?s56 ?r56
    case h56 => (simp only [List.getElem?_toArray, List.getElem?_cons_zero]; rfl)
    case a56 => kernel_rfl
    case b56 => kernel_rfl
    case c56 => kernel_rfl
    case q56 => exact fun _ _ _ h => h
    case g56 => rfl
    case y56 => (intro wS hSw; obtain ⟨nS, rfl⟩ := hSw; go_simp; (try with_reducible rfl))
    case s56 => assumption
    (try simp only [Act.put, List.setIfInBounds_toArray, List.set_cons_zero, List.set_cons_succ])
    refine wpAnyH_take (i := 1) (oi := ?o57) (v := ?v57) ?h57 ?a57 ?b57 ?c57 ?q57 (Or.inl ⟨?g57, ?y57⟩) ?s57 ?r57
    case h57 => (simp only [List.getElem?_toArray, List.getElem?_cons_zero, List.getElem?_cons_succ]; rfl)
    case a57 => kernel_rfl
    case b57 => kernel_rfl
    case c57 => kernel_rfl
    case q57 => exact fun _ _ _ h => h
    case g57 => rfl
    case y57 => (intro wS hSw; obtain ⟨nS, rfl⟩ := hSw; go_simp; (try with_reducible rfl))
    case s57 => assumption
    (try simp only [Act.put, List.setIfInBounds_toArray, List.set_cons_zero, List.set_cons_succ])
    refine wpAnyH_take (i := 2) (oi := ?o58) (v := ?v58) ?h58 ?a58 ?b58 ?c58 ?q58 (Or.inl ⟨?g58, ?y58⟩) ?s58 ?r58
    case h58 => (simp only [List.getElem?_toArray, List.getElem?_cons_zero, List.getElem?_cons_succ]; rfl)
    case a58 => kernel_rfl
    case b58 => kernel_rfl
    case c58 => kernel_rfl
    case q58 => exact fun _ _ _ h => h
    case g58 => rfl
    case y58 => (intro wS hSw; obtain ⟨nS, rfl⟩ := hSw; go_simp; (try with_reducible rfl))
    case s58 => assumption
    (try simp only [Act.put, List.setIfInBounds_toArray, List.set_cons_zero, List.set_cons_succ])
    refine wpAnyH_take (i := 3) (oi := ?o59) (v := ?v59) ?h59 ?a59 ?b59 ?c59 ?q59 (Or.inl ⟨?g59, ?y59⟩) ?s59 ?r59
    case h59 => (simp only [List.getElem?_toArray, List.getElem?_cons_zero, List.getElem?_cons_succ]; rfl)
    case a59 => kernel_rfl
    case b59 => kernel_rfl
    case c59 => kernel_rfl
    case q59 => exact fun _ _ _ h => h
    case g59 => rfl
    case y59 => (intro wS hSw; obtain ⟨nS, rfl⟩ := hSw; go_simp; (try with_reducible rfl))
    case s59 => assumption
    (try simp only [Act.put, List.setIfInBounds_toArray, List.set_cons_zero, List.set_cons_succ])
    refine wpAnyH_take (i := 4) (oi := ?o60) (v := ?v60) ?h60 ?a60 ?b60 ?c60 ?q60 (Or.inl ⟨?g60, ?y60⟩) ?s60 ?r60
    case h60 => (simp only [List.getElem?_toArray, List.getElem?_cons_zero, List.getElem?_cons_succ]; rfl)
    case a60 => kernel_rfl
    case b60 => kernel_rfl
    case c60 => kernel_rfl
    case q60 => exact fun _ _ _ h => h
    case g60 => rfl
    case y60 => (intro wS hSw; obtain ⟨nS, rfl⟩ := hSw; go_simp; (try with_reducible rfl))
    case s60 => assumption
    (try simp only [Act.put, List.setIfInBounds_toArray, List.set_cons_zero, List.set_cons_succ])
    refine wpAnyH_take (i := 5) (oi := ?o61) (v := ?v61) ?h61 ?a61 ?b61 ?c61 ?q61 (Or.inl ⟨?g61, ?y61⟩) ?s61 ?r61
    case h61 => (simp only [List.getElem?_toArray, List.getElem?_cons_zero, List.getElem?_cons_succ]; rfl)
    case a61 => kernel_rfl
    case b61 => kernel_rfl
    case c61 => kernel_rfl
    case q61 => exact fun _ _ _ h => h
    case g61 => rfl
    case y61 => (intro wS hSw; obtain ⟨nS, rfl⟩ := hSw; go_simp; (try with_reducible rfl))
    case s61 => assumption
    (try simp only [Act.put, List.setIfInBounds_toArray, List.set_cons_zero, List.set_cons_succ])
    refine wpAnyH_take (i := 6) (oi := ?o62) (v := ?v62) ?h62 ?a62 ?b62 ?c62 ?q62 (Or.inl ⟨?g62, ?y62⟩) ?s62 ?r62
    case h62 => (simp only [List.getElem?_toArray, List.getElem?_cons_zero, List.getElem?_cons_succ]; rfl)
    case a62 => kernel_rfl
    case b62 => kernel_rfl
    case c62 => kernel_rfl
    case q62 => exact fun _ _ _ h => h
    case g62 => rfl
    case y62 => (intro wS hSw; obtain ⟨nS, rfl⟩ := hSw; go_simp; (try with_reducible rfl))
    case s62 => assumption
    (try simp only [Act.put, List.setIfInBounds_toArray, List.set_cons_zero, List.set_cons_succ])
    refine wpAnyH_take (i := 7) (oi := ?o63) (v := ?v63) ?h63 ?a63 ?b63 ?c63 ?q63 (Or.inl ⟨?g63, ?y63⟩) ?s63 ?r63
    case h63 => (simp only [List.getElem?_toArray, List.getElem?_cons_zero, List.getElem?_cons_succ]; rfl)
    case a63 => kernel_rfl
    case b63 => kernel_rfl
    case c63 => kernel_rfl
    case q63 => exact fun _ _ _ h => h
    case g63 => rfl
    case y63 => (intro wS hSw; obtain ⟨nS, rfl⟩ := hSw; go_simp; (try with_reducible rfl))
    case s63 => assumption
    (try simp only [Act.put, List.setIfInBounds_toArray, List.set_cons_zero, List.set_cons_succ])
    refine wpAnyH_ready (rs := [8]) (by kernel_rfl) (by simp) ?_
    refine AllReadyH.cons (o := ?oB64) ?hB64 ?kB64 AllReadyH.nil
    case hB64 => (simp only [List.getElem?_toArray, List.getElem?_cons_zero, List.getElem?_cons_succ]; rfl)
    case kB64 =>
      intro K hK
      go_simp
      refine HCL.out.mono ?_
      rintro e w6 ⟨rfl, n5, rfl⟩
      exact ⟨rfl, HNO.out _ (drew2_below W n5)⟩
end
end Go.Proofs.YtlhobhfmombjjaaGreatDoor
