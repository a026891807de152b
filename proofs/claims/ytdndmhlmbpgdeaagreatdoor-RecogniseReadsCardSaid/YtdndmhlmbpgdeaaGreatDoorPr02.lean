/- The values of parts. Conditions: the table and the parts lie in memory, each part belongs to a field of the table and lies in the stream. A whole list of strings is appended to a list of the call's own. Conditions: both can be read, and are short. A stream that is written is recognised, and has the values that were given: the whole. Plain facts. No condition of its own. A stream that is of a format is written from its values: plain facts. No condition of its own. A string with one byte changed: some string of the same size. Conditions: the string is short; an int and a byte. -/
import Derived.Test.YtdndmhlmbpgdeaaGreatDoorPb15
import Derived.Test.YtdndmhlmbpgdeaaGreatDoorPb17
import Derived.Test.YtdndmhlmbpgdeaaGreatDoorPr01
import Derived.Test.YtdndmhlmbpgdeaaGreatDoorPb20
namespace Go.Proofs.YtdndmhlmbpgdeaaGreatDoor
section ValA
open Go.RowKit Fx Rec Rt

theorem run_append_strB (w : World) (B : Nat) (hB : B ≤ w.heap.size) (ty : TypeId) (v : Value) (n : Nat) (xs : List Value) (hown : w.ownsRow B 9 1 v n xs) (hn : n ≤ 100000000) (g : Nat) (s : ByteArray) (hg : w.heap[g]? = some (.cells #[.string s] 9 (0, 0))) :
    ∃ v' w', (Builtin.append_ #[34, 34] ty #[v, .slice (some ⟨g, 0, none⟩) 1 1]).run Tryz.prog w = .ok v' w' ∧ Grew w w' B 9 1 v v' (n + 1) (xs ++ [.string s]) := by
  obtain ⟨i0, hi, hz0, hz1, hz2⟩ := info_parts infoStr
  obtain ⟨v', w', h1, h2, h3, _, h5⟩ := run_append_own_at (P := Tryz.prog) w B 34 ty 9 i0 _ 1 16 Tryz.underlying34 hi hz0 hz1 hz2 rfl (by decide) v n xs hown ⟨g, 0, none⟩ 1 1 [.string s] rfl
    (fun j u hu => by
      have hadd : (⟨g, 0, none⟩ : Addr).add j = ⟨g, j, none⟩ := by unfold Addr.add; split <;> simp_all
      rw [hadd, cell_of_row w g j _ _ _ hg]; simpa using hu)
    (fun u hu => by simp at hu; subst hu; rfl) (by unfold maxLen; omega) (by omega) hB
  exact ⟨v', w', h1, h2, h3, h5⟩
theorem wpList_append_strB {ops : Array Oper} {rest : List Oper} {o : Oper} {a : Act} {w : World} {Q : Exit → Act → World → Prop}
    (hg : o.guard = none) (s x : Operand) (hop : o.op = Op.call { callee := Callee.builtin Builtin.append, args := #[s, x], argTypes := #[34, 34] })
    (B : Nat) (hB : B ≤ w.heap.size) (v : Value) (n : Nat) (xs : List Value) (hs : a.eval s = v) (hown : w.ownsRow B 9 1 v n xs) (hn : n ≤ 100000000) (g : Nat) (y : ByteArray) (hx : a.eval x = .slice (some ⟨g, 0, none⟩) 1 1)
    (hb : w.heap[g]? = some (.cells #[.string y] 9 (0, 0)))
    (hK : ∀ v' w', Grew w w' B 9 1 v v' (n + 1) (xs ++ [.string y]) → wpList Tryz.prog ops Q rest (a.put o.dst v') w') : wpList Tryz.prog ops Q (o :: rest) a w :=
  wpList_plain hg fun _ hK' => by
    obtain ⟨v', w', hr, h2⟩ := run_append_strB w B hB o.type v n xs hown hn g y hb
    unfold Oper.wp
    simp [execOp, hop, resolve, invoke, builtin, hs, hx, hr, Result.andThen]
    exact hK' _ _ (hK _ _ h2)
theorem fms_below {w w' : World} {v : Value} {L : List Fm} (h : FmsAt (· < w.heap.size) w v L) (hb : Below w.heap.size w w') : FmsAt (· < w'.heap.size) w' v L :=
  (h.kept (Kept.of_below hb fun _ h => h)).mono fun k hk => by show k < _; have : k < w.heap.size := hk; have := hb.size; omega
/-- What lay below the base of a row stays when the row grows. -/
theorem grown_below {w w' : World} {B n : Nat} {v v' : Value} {xs ys : List Value} {m : Nat} {e : TypeId} (hG : Grew w w' B e 1 v v' m ys) (hown : w.ownsRow B e 1 v n xs) (hB : B ≤ w.heap.size) : Below B w w' :=
  ⟨hG.grown.os, hG.grown.tape, hG.grown.output, hG.grown.size, fun k hk => hG.grown.block k (Nat.lt_of_lt_of_le hk hB) fun e => by
    have := (hown.lt k e.symm).1
    omega⟩
set_option maxRecDepth 20000 in
set_option maxHeartbeats 4000000 in
theorem values_any (lv pv : Value) (L : List Fm) (s : ByteArray) (ps : List Pt) (w : World) (hL : Ok L) (hV : FmsAt (· < w.heap.size) w lv L) (hF : ∀ j, j < L.length → (L.getD j zm).fs.length ≤ 1000) (hP : RowA w 6 pv ps.length fun j => (flatP ps)[j]?) (hps : ∀ p, p ∈ ps → PartOk L 0 s.size p) (hn : ps.length ≤ 5000) :
    Calls Tryz.prog 30 #[lv, pv, .string s] w fun e w' => ∃ ov, e = .returned ov ∧ Below w.heap.size w w' ∧ w'.ownsRow w.heap.size 9 1 ov (valsOf L s ps).length (strsV (valsOf L s ps)) := by
  obtain ⟨la, lc, rfl, -⟩ := hV.slice_
  obtain ⟨pa, pc, rfl, pn1, pn2, hpc⟩ := hP
  obtain ⟨n, hnn⟩ : ∃ n, n = ps.length := ⟨_, rfl⟩
  rw [← hnn] at hn pn1 hpc ⊢
  have H := Lib.hid (And.intro hL (And.intro hV (And.intro hF (And.intro hpc (And.intro hps hnn)))))
  unfold maxLen at pn2
  clear hL hV hF hpc hps hnn
  go_enter Tryz.func30, Tryz.ntmps30
  go_wp2_with fail
  go_loopw [7, 8] (fun ov iv wr => ∃ (k m : Nat) (oa : Option Addr) (oc : Nat), k ≤ n ∧ m ≤ k ∧ ov = .slice oa m oc ∧ iv = .int .i64 k ∧ Hid (Below w.heap.size w wr ∧ m = (valsOf L s (ps.take k)).length ∧ wr.ownsRow w.heap.size 9 1 (.slice oa m oc) m (strsV (valsOf L s (ps.take k))))) (fun _ iv _ => n - (intOf iv).toNat)
  case atStart => exact ⟨0, 0, none, 0, Nat.zero_le _, Nat.le_refl _, rfl, rfl, Lib.hid ⟨Below.refl _ _, rfl, rfl, .inl ⟨rfl, rfl⟩⟩⟩
  case round =>
    obtain ⟨k, m, oa, oc, hk, hmk, rfl, rfl, HI⟩ := hrel
    obtain ⟨wq, rfl⟩ : ∃ wq, wq = wr := ⟨_, rfl⟩
    by_cases hlt : k < n
    · obtain ⟨p, hp⟩ : ∃ p, ps[k]? = some p := ⟨_, List.getElem?_eq_getElem (by have := H.out.2.2.2.2.2; omega)⟩
      obtain ⟨i, fk, st, en, p1, p2, p3, p4, p5, p6, p7, p8⟩ := H.out.2.2.2.2.1 p (List.mem_of_getElem? hp)
      obtain ⟨b, off, rfl, lb, hcell⟩ := H.out.2.2.2.1.resolve_left (by omega)
      have lbq : b < wq.heap.size := Nat.lt_of_lt_of_le lb HI.out.1.size
      obtain ⟨q0, hq0⟩ : ∃ z, z = p.depth := ⟨_, rfl⟩
      obtain ⟨q1, hq1⟩ : ∃ z, z = p.format := ⟨_, rfl⟩
      obtain ⟨q5, hq5⟩ : ∃ z, z = p.number := ⟨_, rfl⟩
      have hc : ∀ j, j < 6 → wq.cell? ⟨b, off + (k * 6 + j), none⟩ = (ptC p)[j]? := fun j hj => (HI.out.1.cell (p := ⟨b, off + (k * 6 + j), none⟩) lb).trans ((hcell (k * 6 + j) (by omega)).trans (flatP_get ps k j p hp hj))
      have c0 : wq.cell? ⟨b, off + k * 6, none⟩ = some (.int .i64 q0) := by have := hc 0 (by omega); rw [hq0]; exact this
      have c1 : wq.cell? ⟨b, off + k * 6 + 1, none⟩ = some (.int .i64 q1) := by have := hc 1 (by omega); rw [← Nat.add_assoc] at this; rw [hq1]; exact this
      have c2 : wq.cell? ⟨b, off + k * 6 + 2, none⟩ = some (.int .i64 (fk : Nat)) := by have := hc 2 (by omega); rw [← Nat.add_assoc] at this; rw [← p2]; exact this
      have c3 : wq.cell? ⟨b, off + k * 6 + 3, none⟩ = some (.int .i64 (st : Nat)) := by have := hc 3 (by omega); rw [← Nat.add_assoc] at this; rw [← p4]; exact this
      have c4 : wq.cell? ⟨b, off + k * 6 + 4, none⟩ = some (.int .i64 (en : Nat)) := by have := hc 4 (by omega); rw [← Nat.add_assoc] at this; rw [← p5]; exact this
      have c5 : wq.cell? ⟨b, off + k * 6 + 5, none⟩ = some (.int .i64 q5) := by have := hc 5 (by omega); rw [← Nat.add_assoc] at this; rw [hq5]; exact this
      have i0 : 0 ≤ (k : Int) := by omega
      have i1 : (k : Int) < (n : Int) := by omega
      have k0 : (0 : Int) ≤ (st : Int) ∧ (st : Int) ≤ (en : Int) ∧ (en : Int) ≤ (s.size : Int) := by omega
      obtain ⟨W1, hW1⟩ : ∃ W1, W1 = wq.alloc (.cells #[.int .i64 q0, .int .i64 q1, .int .i64 (fk : Nat), .int .i64 (st : Nat), .int .i64 (en : Nat), .int .i64 q5] 26) := ⟨_, rfl⟩
      have hb1 : Below wq.heap.size wq W1 := by rw [hW1]; exact bx _
      have hB1 : Blk W1 wq.heap.size 26 #[.int .i64 q0, .int .i64 q1, .int .i64 (fk : Nat), .int .i64 (st : Nat), .int .i64 (en : Nat), .int .i64 q5] := by rw [hW1]; exact Blk.new wq _ _
      have x1 : W1.cell? ⟨wq.heap.size, 1, none⟩ = some (.int .i64 q1) := by rw [hB1.cell]; rfl
      have x1' := x1
      rw [hW1] at x1'
      have hF := rFind3_any _ L q1 W1 (fms_below H.out.2.1 (HI.out.1.trans (hb1.mono HI.out.1.size))) H.out.2.2.1
      rw [find_at H.out.1 (by rw [hq1]; exact p1)] at hF
      have HF := Lib.hid (And.intro hF (And.intro hb1 hB1))
      have HP := Lib.hid (And.intro hp (And.intro hq1 (And.intro p1 (And.intro p2 (And.intro p3 (And.intro p4 p5))))))
      clear hc hcell hF hb1 hB1 hq0 hq5 hp hq1 p1 p2 p3 p4 p5 p6 p7 p8
      go_wp2_with fail
      rw [← hW1]
      clear hW1 x1'
      refine HF.out.1.mono ?_
      rintro e w5 ⟨⟨v, rfl, hv1, hv2⟩, hB5⟩
      obtain ⟨fa, fc, rfl, -⟩ := hv1.slice_
      obtain ⟨fq, hfq⟩ : ∃ fq, fq = (L.getD i zm).fs := ⟨_, rfl⟩
      obtain ⟨mq, hmq⟩ : ∃ mq, mq = fq.length := ⟨_, rfl⟩
      rw [← hfq] at hv1 ⊢
      rw [← hmq] at hv1 ⊢
      obtain ⟨W6, hW6⟩ : ∃ W6, W6 = w5.alloc (.cells #[.int .i64 q1, .slice fa mq fc] 52) := ⟨_, rfl⟩
      have hb6 : Below w5.heap.size w5 W6 := by rw [hW6]; exact bx _
      have hfb : Blk W6 w5.heap.size 52 #[.int .i64 q1, .slice fa mq fc] := by rw [hW6]; exact Blk.new w5 _ _
      have hpb : Blk W6 wq.heap.size 26 #[.int .i64 q0, .int .i64 q1, .int .i64 (fk : Nat), .int .i64 (st : Nat), .int .i64 (en : Nat), .int .i64 q5] := (hb6.block _ (Nat.lt_of_lt_of_le HF.out.2.2.lt hB5.size)).trans ((hB5.block _ HF.out.2.2.lt).trans HF.out.2.2)
      have hbq : Below wq.heap.size wq W6 := HF.out.2.1.trans ((hB5.mono HF.out.2.1.size).trans (hb6.mono (Nat.le_trans HF.out.2.1.size hB5.size)))
      have hgv := given_any q1 (.slice fa mq fc) fq fk W6 (by rw [hmq] at hv1 ⊢; exact hv1.below hb6) (by rw [hfq]; exact HP.out.2.2.2.2.1)
      have f0 : W6.cell? ⟨w5.heap.size, 0, none⟩ = some (.int .i64 q1) := by rw [hfb.cell]; rfl
      have f1 : W6.cell? ⟨w5.heap.size, 1, none⟩ = some (.slice fa mq fc) := by rw [hfb.cell]; rfl
      have y2 : W6.cell? ⟨wq.heap.size, 2, none⟩ = some (.int .i64 (fk : Nat)) := by rw [hpb.cell]; rfl
      have f0x := f0
      have f1x := f1
      have y2x := y2
      rw [hW6] at f0x f1x y2x
      have HG := Lib.hid (And.intro hgv (And.intro hbq (And.intro hpb (show fq = fieldsOf L q1 from by rw [hfq, HP.out.2.1]; exact (fieldsOf_at H.out.1 HP.out.2.2.1).symm))))
      clear hv1 hv2 hB5 hfq hmq hb6 hfb hpb hbq hgv x1
      go_wp2_with fail
      rw [← hW6]
      clear hW6 f0x f1x y2x f0 f1 y2
      refine HG.out.1.mono ?_
      rintro e w8 ⟨rfl, hB8⟩
      have hpb8 : Blk w8 wq.heap.size 26 #[.int .i64 q0, .int .i64 q1, .int .i64 (fk : Nat), .int .i64 (st : Nat), .int .i64 (en : Nat), .int .i64 q5] := (hB8.block _ HG.out.2.2.1.lt).trans HG.out.2.2.1
      have hbw : Below w.heap.size w w8 := HI.out.1.trans ((HG.out.2.1.trans (hB8.mono HG.out.2.1.size)).mono HI.out.1.size)
      have hrow8 := ownsRow_below HI.out.2.2 (HG.out.2.1.trans (hB8.mono HG.out.2.1.size))
      have hstep : ps.take (k + 1) = ps.take k ++ [p] := by
        rw [List.take_add_one, HP.out.1]; rfl
      obtain ⟨gv, hgq⟩ : ∃ gv, gv = givenB fq fk := ⟨_, rfl⟩
      rw [← hgq]
      have hgv2 : givenB (fieldsOf L p.format) p.field.toNat = gv := by rw [HP.out.2.2.2.1, Int.toNat_natCast, ← HP.out.2.1, ← HG.out.2.2.2, hgq]
      have HV := Lib.hid (And.intro hbw (And.intro hrow8 (And.intro hstep hgv2)))
      clear hB8 hbw hrow8 hstep hgq hgv2
      cases gv with
      | true =>
        have z3 : w8.cell? ⟨wq.heap.size, 3, none⟩ = some (.int .i64 (st : Nat)) := by rw [hpb8.cell]; rfl
        have z4 : w8.cell? ⟨wq.heap.size, 4, none⟩ = some (.int .i64 (en : Nat)) := by rw [hpb8.cell]; rfl
        clear hpb8
        go_wp2_with (at_builtin; refine wpList_append_strB rfl (.tmp 33) (.tmp 40) rfl w.heap.size (by have := HV.out.1.size; simp; omega) (.slice oa m oc) m (strsV (valsOf L s (ps.take k))) rfl (ownsRow_below HV.out.2.1 (bx _)) (by omega) w8.heap.size (s.extract st en) rfl (heap_alloc_new _ _) ?_; intro v1 wA hG; have HA := Lib.hid hG; obtain ⟨a9, c9, rfl⟩ : ∃ a c, v1 = .slice a (m + 1) c := (by rcases hG.own.2 with ⟨_, h0⟩ | ⟨g, cap, cur, rfl, _⟩ <;> first | exact ⟨_, _, rfl⟩ | omega); clear hG)
        have hvs : valsOf L s (ps.take (k + 1)) = valsOf L s (ps.take k) ++ [s.extract st en] := by
          rw [HV.out.2.2.1, valsOf_app, valsOf_yes HV.out.2.2.2, HP.out.2.2.2.2.2.1, HP.out.2.2.2.2.2.2, Int.toNat_natCast, Int.toNat_natCast]; rfl
        refine ⟨⟨k + 1, m + 1, _, _, by omega, by omega, rfl, by go_num, Lib.hid ⟨?_, ?_, ?_⟩⟩, by simp [intOf]; omega⟩
        · exact (HV.out.1.trans ((bx _).mono HV.out.1.size)).trans (grown_below HA.out (ownsRow_below HV.out.2.1 (bx _)) (by have := HV.out.1.size; simp; omega))
        · rw [hvs, List.length_append, ← HI.out.2.1]; rfl
        · rw [hvs]
          have e : strsV (valsOf L s (ps.take k) ++ [s.extract st en]) = strsV (valsOf L s (ps.take k)) ++ [.string (s.extract st en)] := by simp [strsV]
          rw [e]
          exact HA.out.own
      | false =>
        clear hpb8
        go_wp2_with fail
        have hvs : valsOf L s (ps.take (k + 1)) = valsOf L s (ps.take k) := by
          rw [HV.out.2.2.1, valsOf_app, valsOf_no HV.out.2.2.2]; simp [valsOf]
        refine ⟨⟨k + 1, m, _, _, by omega, by omega, rfl, by go_num, Lib.hid ⟨HV.out.1, ?_, ?_⟩⟩, by simp [intOf]; omega⟩
        · rw [hvs]; exact HI.out.2.1
        · rw [hvs]; exact HV.out.2.1
    · obtain rfl : k = n := by omega
      have ht : ps.take k = ps := List.take_of_length_le (by have := H.out.2.2.2.2.2; omega)
      go_wp2_with fail
      first | go_end0 | go_ret
      refine ⟨_, rfl, HI.out.1, ?_⟩
      have h2 := HI.out.2.2
      have h3 := HI.out.2.1
      rw [ht] at h2 h3
      rw [← h3]
      exact h2
end ValA
section AppA
open Go.RowKit Fx Rec

theorem szStr5 (w : World) : (sizeOf 9).run Tryz.prog w = .ok 1 w := by kernel_rfl
theorem storeCells_nil (p : Addr) (w : World) : (storeCells p []).run Tryz.prog w = .ok () w := by first | rfl | (unfold storeCells; rfl) | simp [storeCells]
theorem run_append_strs (w : World) (base : Nat) (hb : base ≤ w.heap.size) (ty : TypeId) (v vx : Value) (l l2 : List ByteArray) (n m : Nat) (hm : m = l2.length) (hown : w.ownsRow base 9 1 v n (strsV l)) (hx : RowA w 1 vx m (strG l2)) (hl : n + m ≤ 200000000) :
    ∃ v' w', (Builtin.append_ #[34, 34] ty #[v, vx]).run Tryz.prog w = .ok v' w' ∧ w'.ownsRow base 9 1 v' (n + m) (strsV (l ++ l2)) ∧ Below base w w' := by
  obtain ⟨i0, hi, hz0, hz1, hz2⟩ := info_parts infoStr
  obtain ⟨a, c, rfl, k1, k2, k3⟩ := hx
  subst hm
  have hle : strsV (l ++ l2) = strsV l ++ strsV l2 := by simp [strsV]
  rcases Nat.eq_zero_or_pos l2.length with h0 | hpos
  · have h0' : l2 = [] := List.eq_nil_of_length_eq_zero h0
    subst h0'
    have hfc : ∀ a c, (Builtin.firstCells 1 0 (.slice a 0 c)).run Tryz.prog w = .ok #[] w := by
      intro a c
      cases a with
      | none => exact run_firstCells_none w 1 0 0 c
      | some a => exact run_firstCells_some w 1 0 a 0 c [] rfl (fun j u h => by simp at h)
    have hu := Tryz.underlying34
    have hsz := szStr5 w
    refine ⟨v, w, ?_, by rw [List.append_nil]; exact hown, Below.refl _ _⟩
    rcases hown.2 with ⟨rfl, e0⟩ | ⟨g, cap, cur, rfl, _, _, e1, _⟩
    · simp [Builtin.append_, underlying, hu, hsz, Sem.run_bind, Result.andThen, Builtin.lenOf, hfc]
    · simp [Builtin.append_, underlying, hu, hsz, Sem.run_bind, Result.andThen, Builtin.lenOf, hfc, e1, storeCells_nil]
  · obtain ⟨b, off, rfl, lb, hc⟩ := k3.resolve_left (by omega)
    obtain ⟨v', w', h1, h2, h3, _⟩ := run_append_own_at (P := Tryz.prog) w base 34 ty 9 i0 _ 1 16 Tryz.underlying34 hi hz0 hz1 hz2 rfl (by decide) v n (strsV l) hown ⟨b, off, none⟩ l2.length c (strsV l2) (by simp [strsV])
      (fun j u hu => by
        have hadd : (⟨b, off, none⟩ : Addr).add j = ⟨b, off + j, none⟩ := by cases j <;> simp [Addr.add]
        have hj : j < l2.length := by
          have := (List.getElem?_eq_some_iff.1 hu).1
          simpa [strsV] using this
        rw [hadd, hc j (by omega)]
        exact hu)
      (fun u hu => by
        obtain ⟨y, _, rfl⟩ := List.mem_map.1 hu
        rfl) (by unfold maxLen; omega) (by omega) hb
    refine ⟨v', w', h1, by rw [hle]; exact h2, (Below.refl base w).grown h3 hb (fun k e => (World.ownsRow.lt hown k e).1)⟩
theorem wpList_append_strs {ops : Array Oper} {rest : List Oper} {o : Oper} {a : Act} {w : World} {Q : Exit → Act → World → Prop} (hgd : o.guard = none) (s x : Operand)
    (hop : o.op = Op.call { callee := Callee.builtin Builtin.append, args := #[s, x], argTypes := #[34, 34] })
    (base : Nat) (hb : base ≤ w.heap.size) (v vx : Value) (l l2 : List ByteArray) (n m : Nat) (hm : m = l2.length) (hs : a.eval s = v) (hown : w.ownsRow base 9 1 v n (strsV l)) (hx : a.eval x = vx) (hlx : RowA w 1 vx m (strG l2)) (hl : n + m ≤ 200000000)
    (h : ∀ v' w', w'.ownsRow base 9 1 v' (n + m) (strsV (l ++ l2)) → Below base w w' → wpList Tryz.prog ops Q rest (a.put o.dst v') w') :
    wpList Tryz.prog ops Q (o :: rest) a w := by
  refine wpList_plain hgd fun K hK => ?_
  obtain ⟨v', w', hr, h2, h3⟩ := run_append_strs w base hb o.type v vx l l2 n m hm hown hlx hl
  unfold Oper.wp execOp
  simp only [hop, resolve, invoke, builtin, Sem.run_bind, Sem.run_pure, Result.andThen_ok, List.map_toArray, List.map_cons, List.map_nil, hs, hx, hr]
  exact hK _ _ (h v' w' h2 h3)
/-- An empty row of the call's own. -/
theorem own_fresh (w : World) : (w.alloc (.cells #[] 9)).ownsRow w.heap.size 9 1 (.slice (some ⟨w.heap.size, 0, none⟩) 0 0) 0 [] :=
  ⟨rfl, .inr ⟨w.heap.size, 0, #[], rfl, Nat.le_refl _, heap_alloc_new _ _, Nat.le_refl _, by unfold maxLen; omega, rfl, rfl⟩⟩
theorem row_one (w : World) (b : Nat) (x : ByteArray) (h : Blk w b 9 #[.string x]) : RowA w 1 (.slice (some ⟨b, 0, none⟩) 1 1) 1 (strG [x]) :=
  ⟨_, 1, rfl, Nat.le_refl _, by unfold maxLen; omega, .inr ⟨b, 0, rfl, h.lt, fun j hj => by
    obtain rfl : j = 0 := by omega
    rw [Nat.zero_add, h.cell]; rfl⟩⟩
end AppA
section RtC
open Go.RowKit Fx Rec
namespace Rt

theorem fwd_flds {L : List Fm} {N : Nat} {sub : WSub} {rsub : Sub} {fs : List Fld} {s : ByteArray} {start : Nat} {id depth : Int} {limit cnt : Nat} (hG : Good L N fs) (hid : fieldsOf L id = fs)
    (hsub : ∀ k, k < fs.length → (fs.getD k zf).kind = 4 ∨ (fs.getD k zf).kind = 5 → KeepsS sub (fs.getD k zf).n ∧ FS L s sub rsub (fs.getD k zf).n) (hl2 : limit ≤ s.size) :
    ∀ (t : List Fld) (k : Nat) (d : Dr) (σ σ' : Ws) (nums : List Int) (ps : List Pt), t = fs.drop k → k ≤ fs.length → LInv s fs start k d σ nums → flds s rsub id depth start limit cnt fs k = .ok (σ.st.length, nums, ps) → cnt + ps.length = σ.parts →
      wflds sub fs start t k d σ = some σ' → Fits s.data.toList start σ' → σ'.st.length ≤ limit →
      ∃ nums' qs, flds s rsub id depth start limit cnt fs fs.length = .ok (σ'.st.length, nums', ps ++ qs) ∧ cnt + (ps ++ qs).length = σ'.parts ∧ σ.vals = valsOf L s qs ++ σ'.vals
  | [], k, d, σ, σ', nums, ps, ht, hk, hI, hr, hc, e, hF, hl => by
    rw [wflds] at e
    cases e
    have hk2 : k = fs.length := by
      have := congrArg List.length ht
      simp only [List.length_nil, List.length_drop] at this
      omega
    subst hk2
    exact ⟨nums, [], by rw [hr, List.append_nil], by rw [List.append_nil]; exact hc, rfl⟩
  | f :: t, k, d, σ, σ', nums, ps, ht, hk, hI, hr, hc, e, hF, hl => by
    obtain ⟨hk, rfl, ht2⟩ := drop_cons ht
    rw [wflds, Option.bind_eq_some_iff] at e
    obtain ⟨p, e1, e2⟩ := e
    have hks : ∀ k, k < fs.length → (fs.getD k zf).kind = 4 ∨ (fs.getD k zf).kind = 5 → KeepsS sub (fs.getD k zf).n := fun k hk hkd => (hsub k hk hkd).1
    obtain ⟨g1, g2⟩ := wnext_out (hG.ok k hk) hI.lens (fun hkd => (hks k hk hkd).grows) hI.win e1
    obtain ⟨h5, e3⟩ := wnext_eq e1
    have hK := wkind_keep (hG.ok k hk) hI.lens (hks k hk) (winMore hI.win) e3
    obtain ⟨r1, r2, r3, r5, r4⟩ := wflds_keep hG hks t (k + 1) _ _ σ' ht2 (by simp [hI.lens]) g1 e2
    have hA : Ag s start ⟨d.counts ++ [p.1], d.lens ++ [p.2.1]⟩ (fs.drop (k + 1)) p.2.2 := fun i i1 i2 i3 i4 => by
      rw [hF.st i i1 (Nat.lt_of_lt_of_le i2 r2) (r3.out i2 i3)]
      exact r4 i i2 (by rw [ht2]; exact i4)
    obtain ⟨n, qs, a1, a2, a3, a4, a5⟩ := fwd_kind hG hk hI hid (hsub k hk) e3 hA (fun c hc => hF.ck c (r3.sub hc)) (Nat.le_trans r2 hl) hl2 (id := id) (depth := depth)
    have hI2 : LInv s fs start (k + 1) ⟨d.counts ++ [p.1], d.lens ++ [p.2.1]⟩ p.2.2 (nums ++ [n]) := hI.next ⟨hK.st, hK.ck, hK.box_, hK.top⟩ g1 g2 a4 a5
    have hr2 : flds s rsub id depth start limit cnt fs (k + 1) = .ok (p.2.2.st.length, nums ++ [n], ps ++ (⟨depth, id, (k : Int), (σ.st.length : Nat), (p.2.2.st.length : Nat), n⟩ :: qs)) := by
      rw [flds, hr]
      simp only
      have hn : next s rsub id depth start limit k (fs.getD k zf) nums σ.st.length (cnt + ps.length) = .ok (p.2.2.st.length, n, qs) := by
        unfold next
        rw [if_neg (by omega), hc]
        exact a1
      rw [hn]
    obtain ⟨nums', qs', b1, b2, b3⟩ := fwd_flds hG hid hsub hl2 t (k + 1) _ p.2.2 σ' _ _ ht2 (by omega) hI2 hr2 (by rw [List.length_append, List.length_cons]; omega) e2 hF hl
    rw [List.append_assoc] at b1 b2
    exact ⟨nums', _, b1, b2, by rw [valsOf_app, List.append_assoc, ← b3]; exact a3⟩
theorem fwd_val {L : List Fm} (h : Ok L) (s : ByteArray) : ∀ (n : Nat) (id : Int) (i : Nat), At L id i → i < n → FS L s (wval L n) (val L s n) id
  | 0, _, _, _, hi => absurd hi (Nat.not_lt_zero _)
  | n + 1, id, i, hat, hi => fun σ σ' e ht hF depth limit hl hl2 => by
    have e : wflds (wval L n) (fieldsOf L id) σ.st.length (fieldsOf L id) 0 ⟨[], []⟩ σ = some σ' := e
    have hfo := fieldsOf_at h hat
    rw [hfo] at e
    obtain ⟨nums', qs, b1, b2, b3⟩ := fwd_flds (cnt := σ.parts) (depth := depth) (good_of h hat.1 (show i ≤ n by omega)) hfo (fun k hk hkd => by
      obtain ⟨-, j, hj, hjn⟩ := (fokw_of h hat.1 (show i ≤ n by omega) hk).ok.k4 hkd
      exact ⟨wval_keeps h n _ j hj hjn, fwd_val h s n _ j hj hjn⟩) hl2 _ 0 ⟨[], []⟩ σ σ' [] [] rfl (Nat.zero_le _) (LInv.first ht) rfl rfl e hF hl
    refine ⟨qs, ?_, b2.symm, b3⟩
    show Rec.ends (flds s (val L s n) id depth σ.st.length limit σ.parts (fieldsOf L id) (fieldsOf L id).length) = _
    rw [hfo, b1]
    rfl
/-! the checksums that are laid -/
theorem sumOf_ext {S T : List UInt8} {n : Nat} (h : ∀ i, i < n → S[i]? = T[i]?) : sumOf S n = sumOf T n := by
  unfold sumOf
  congr 1
  apply List.ext_getElem?
  intro i
  rw [List.getElem?_take, List.getElem?_take]
  split
  · exact h i (by assumption)
  · rfl
theorem lay_all : ∀ (cs : List Ck) (st : List UInt8), (∀ c, c ∈ cs → c.1 ≤ c.2.1 ∧ c.2.1 + c.2.2 ≤ st.length) → cs.Pairwise (fun a b => a.2.1 + a.2.2 ≤ b.2.1) →
    (layAll st cs).length = st.length ∧ (∀ i, ¬ InC cs i → (layAll st cs)[i]? = st[i]?) ∧ ∀ c, c ∈ cs → chk (layAll st cs) c
  | [], st, _, _ => ⟨rfl, fun _ _ => rfl, fun _ h => absurd h (List.not_mem_nil)⟩
  | c :: t, st, hc, hp => by
    rw [List.pairwise_cons] at hp
    have h0 := hc c (List.mem_cons_self ..)
    have hb : c.2.1 + (nbytes c.2.2 ((sumOf st c.2.1 - sumOf st c.1) % 256 ^ c.2.2)).length ≤ st.length := by rw [nbytes_len]; exact h0.2
    have hl : (lay1 st c).length = st.length := patch_len _ _ _ hb
    obtain ⟨a1, a2, a3⟩ := lay_all t (lay1 st c) (fun x hx => by rw [hl]; exact hc x (List.mem_cons_of_mem _ hx)) hp.2
    have e : layAll st (c :: t) = layAll (lay1 st c) t := rfl
    rw [e]
    have hlow : ∀ i, i < c.2.1 + c.2.2 → ¬ InC t i := fun i hi => by
      rintro ⟨x, hx, h1, _⟩
      have := hp.1 x hx
      omega
    have hbef : ∀ i, i < c.2.1 → (layAll (lay1 st c) t)[i]? = st[i]? := fun i hi => by
      rw [a2 i (hlow i (by omega))]
      exact patch_out hb (.inl hi)
    refine ⟨by rw [a1, hl], fun i hi => ?_, fun x hx => ?_⟩
    · rw [a2 i fun ⟨x, hx, h1⟩ => hi ⟨x, List.mem_cons_of_mem _ hx, h1⟩]
      refine patch_out hb ?_
      rw [nbytes_len]
      apply Classical.byContradiction
      intro hn
      exact hi ⟨c, List.mem_cons_self .., by omega, by omega⟩
    · rcases List.mem_cons.1 hx with rfl | hx
      · unfold chk
        rw [sumOf_ext (T := st) (n := x.1) (fun i hi => hbef i (by omega)), sumOf_ext (T := st) (n := x.2.1) hbef]
        have e2 := seg_all (nbytes x.2.2 ((sumOf st x.2.1 - sumOf st x.1) % 256 ^ x.2.2))
        rw [nbytes_len] at e2
        rw [← e2]
        refine seg_ext fun i hi => ?_
        rw [a2 _ (hlow _ (by omega)), Nat.zero_add]
        exact patch_in hb (by rw [nbytes_len]; exact hi)
      · exact a3 x hx
theorem start_tame {vs : List ByteArray} (h : Short vs) : Tame ⟨[], vs, 0, []⟩ := ⟨h, Nat.le_refl _, fun _ h => absurd h (List.not_mem_nil), .nil⟩
theorem later_strict {σ σ' : Ws} (h : Later σ σ') (h0 : σ.checks = []) : σ'.checks.Pairwise fun a b => a.2.1 + a.2.2 ≤ b.2.1 := by
  obtain ⟨x, e, _, h2⟩ := h
  rw [e, h0]
  exact h2
theorem writ_some {L : List Fm} {id : Int} {vs : List ByteArray} {s : ByteArray} (h : writ L id vs = some s) : Ok L ∧ ∃ i σ, At L id i ∧ wval L 61 id ⟨[], vs, 0, []⟩ = some σ ∧ σ.vals = [] ∧ s = bytesOf (layAll σ.st σ.checks) := by
  unfold writ at h
  split at h
  · rename_i hv
    unfold wwhole at h
    split at h
    · rename_i hh
      rw [Option.bind_eq_some_iff] at h
      obtain ⟨σ, e1, e2⟩ := h
      split at e2
      · rename_i hvs
        cases e2
        obtain ⟨i, ha⟩ := has_iff.1 hh
        exact ⟨vd_iff.1 hv, i, σ, ha, e1, hvs, rfl⟩
      · cases e2
    · cases h
  · cases h
/-- A stream that is written is of the format, and has the values that were given. -/
theorem wrote {L : List Fm} {id : Int} {vs : List ByteArray} {s : ByteArray} (h : writ L id vs = some s) (hs : Short vs) : ∃ ps, mtch L id s = .ok ps ∧ valsOf L s ps = vs := by
  obtain ⟨hok, i, σ, ha, e1, e2, rfl⟩ := writ_some h
  have hi : i < 61 := by have := ha.1; have := hok.few; omega
  obtain ⟨ht, hk⟩ := wval_keeps hok 61 id i ha hi _ _ e1 (start_tame hs)
  obtain ⟨a1, a2, a3⟩ := lay_all σ.checks σ.st (fun c hc => ⟨(ht.each c hc).1, (ht.each c hc).2.2.2⟩) (later_strict hk.ck rfl)
  have hF : Fits (bytesOf (layAll σ.st σ.checks)).data.toList 0 σ := ⟨fun i _ _ h3 => a2 i h3, fun c hc _ => a3 c hc⟩
  have hsz : (bytesOf (layAll σ.st σ.checks)).size = σ.st.length := by rw [← size_list, bytes_list, a1]
  obtain ⟨ps, b1, b2, b3⟩ := fwd_val hok _ 61 id i ha hi _ _ e1 (start_tame hs) hF 0 σ.st.length (Nat.le_refl _) (by rw [hsz]; exact Nat.le_refl _)
  refine ⟨ps, ?_, ?_⟩
  · unfold mtch whole
    rw [if_pos ⟨vd_iff.2 hok, by rw [hsz]; exact hk.top (Nat.zero_le _)⟩, if_pos (has_iff.2 ⟨i, ha⟩), hsz, show val L (bytesOf (layAll σ.st σ.checks)) 61 id 0 0 σ.st.length 0 = _ from b1]
    simp only
    rw [if_neg (by omega)]
  · rw [e2, List.append_nil] at b3
    exact b3.symm
/-! more values are not taken -/
def addV (r : List ByteArray) (σ : Ws) : Ws := { σ with vals := σ.vals ++ r }
abbrev More (sub : WSub) (id : Int) (r : List ByteArray) : Prop := ∀ σ σ', sub id σ = some σ' → sub id (addV r σ) = some (addV r σ')
theorem more_reps {sub : WSub} {id : Int} {r : List ByteArray} (h : More sub id r) : ∀ n σ σ', wreps sub id n σ = some σ' → wreps sub id n (addV r σ) = some (addV r σ')
  | 0, σ, σ', e => by rw [wreps] at e ⊢; cases e; rfl
  | n + 1, σ, σ', e => by
    rw [wreps, Option.bind_eq_some_iff] at e
    obtain ⟨σ1, e1, e2⟩ := e
    rw [wreps, h _ _ e1]
    exact more_reps h n _ _ e2
def addL (r : List ByteArray) (p : Rec.Left) : Rec.Left := (p.1, p.2.1, addV r p.2.2)
theorem more_addW {r : List ByteArray} {b : List UInt8} {σ σ' : Ws} (e : addW σ b = some σ') : addW (addV r σ) b = some (addV r σ') := by
  unfold addW at e ⊢
  split at e
  · rename_i h
    cases e
    rw [if_pos (by exact h)]; rfl
  · cases e
theorem more_nextW {r : List ByteArray} {x : ByteArray} {σ σ' : Ws} (e : nextW σ = some (x, σ')) : nextW (addV r σ) = some (x, addV r σ') := by
  obtain ⟨h1, h2⟩ := nextW_eq e
  unfold nextW addV
  simp only [h2, List.cons_append]
  rw [h1]
theorem more_fill {r : List ByteArray} {h : Nat × Nat} {n : Int} {σ σ' : Ws} (e : fill σ h n = some σ') : fill (addV r σ) h n = some (addV r σ') := by
  obtain ⟨h1, rfl⟩ := fill_eq e
  unfold fill
  rw [if_pos h1]; rfl
theorem more_kind {sub : WSub} {fs : List Fld} {start k : Nat} {f : Fld} {d : Dr} {r : List ByteArray} {σ : Ws} {p : Rec.Left} (hsub : f.kind = 4 ∨ f.kind = 5 → More sub f.n r) (e : wkind sub fs start k f d σ = some p) : wkind sub fs start k f d (addV r σ) = some (addL r p) := by
  unfold wkind at e ⊢
  split at e
  · rename_i h1
    rw [if_pos h1]
    unfold wtext at e ⊢
    rw [Option.map_eq_some_iff] at e
    obtain ⟨σ1, e1, rfl⟩ := e
    rw [more_addW e1]; rfl
  · rename_i h1
    rw [if_neg h1]
    split at e
    · rename_i h2
      rw [if_pos h2]
      split at e
      · rename_i hw
        rw [if_pos hw]
        unfold wwait at e ⊢
        rw [Option.map_eq_some_iff] at e
        obtain ⟨σ1, e1, rfl⟩ := e
        rw [more_addW e1]; rfl
      · rename_i hw
        rw [if_neg hw]
        unfold wgiven at e ⊢
        rw [Option.bind_eq_some_iff] at e
        obtain ⟨⟨x, σ0⟩, e0, e⟩ := e
        rw [more_nextW e0]
        simp only [Option.bind_some] at e ⊢
        split at e
        · rename_i hx
          rw [if_pos hx]
          rw [Option.map_eq_some_iff] at e
          obtain ⟨σ1, e1, rfl⟩ := e
          rw [more_addW e1]; rfl
        · cases e
    · rename_i h2
      rw [if_neg h2]
      split at e
      · rename_i h3
        rw [if_pos h3]
        unfold wbytes at e ⊢
        rw [Option.bind_eq_some_iff] at e
        obtain ⟨⟨x, σ0⟩, e0, e⟩ := e
        rw [Option.bind_eq_some_iff] at e
        obtain ⟨σ1, e1, e⟩ := e
        rw [more_nextW e0]
        simp only [Option.bind_some]
        rw [more_addW e1]
        simp only [Option.bind_some] at e ⊢
        split at e
        · rename_i hfm
          rw [if_pos hfm]
          split at e
          · rename_i hx
            rw [if_pos hx]
            cases e; rfl
          · cases e
        · rename_i hfm
          rw [if_neg hfm]
          rw [Option.map_eq_some_iff] at e
          obtain ⟨σ2, e2, rfl⟩ := e
          rw [more_fill e2]; rfl
      · rename_i h3
        rw [if_neg h3]
        split at e
        · rename_i h4
          rw [if_pos h4]
          unfold wlist at e ⊢
          rw [Option.map_eq_some_iff] at e
          obtain ⟨σ1, e1, rfl⟩ := e
          rw [more_reps (hsub (.inl h4)) _ _ _ e1]; rfl
        · rename_i h4
          rw [if_neg h4]
          split at e
          · rename_i h5
            rw [if_pos h5]
            unfold winside at e ⊢
            rw [Option.bind_eq_some_iff] at e
            obtain ⟨σ1, e1, e⟩ := e
            rw [hsub (.inr h5) _ _ e1]
            simp only [Option.bind_some]
            rw [Option.map_eq_some_iff] at e
            obtain ⟨σ2, e2, rfl⟩ := e
            rw [show fill (addV r σ1) (d.lens.getD f.frm.toNat (0, 0)) (((addV r σ1).st.length : Int) - (addV r σ).st.length) = some (addV r σ2) from more_fill e2]; rfl
          · rename_i h5
            rw [if_neg h5]
            unfold wcheck at e ⊢
            rw [Option.map_eq_some_iff] at e
            obtain ⟨σ1, e1, rfl⟩ := e
            rw [more_addW e1]; rfl
theorem more_flds {sub : WSub} {fs : List Fld} {start : Nat} {r : List ByteArray} : ∀ (t : List Fld), (∀ f, f ∈ t → f.kind = 4 ∨ f.kind = 5 → More sub f.n r) → ∀ k d σ σ', wflds sub fs start t k d σ = some σ' → wflds sub fs start t k d (addV r σ) = some (addV r σ')
  | [], _, _, _, _, _, e => by rw [wflds] at e ⊢; cases e; rfl
  | f :: t, h, k, d, σ, σ', e => by
    rw [wflds, Option.bind_eq_some_iff] at e
    obtain ⟨p, e1, e2⟩ := e
    obtain ⟨h5, e3⟩ := wnext_eq e1
    have e4 := more_kind (r := r) (h f (List.mem_cons_self ..)) e3
    have e5 : wnext sub fs start k f d (addV r σ) = some (addL r p) := by
      unfold wnext
      rw [if_pos (by exact h5)]
      exact e4
    rw [wflds, e5]
    exact more_flds t (fun g hg => h g (List.mem_cons_of_mem _ hg)) _ _ _ _ e2
theorem more_val {L : List Fm} (h : Ok L) (r : List ByteArray) : ∀ (n : Nat) (id : Int) (i : Nat), At L id i → i < n → More (wval L n) id r
  | 0, _, _, _, hi => absurd hi (Nat.not_lt_zero _)
  | n + 1, id, i, hat, hi => fun σ σ' e => by
    have e : wflds (wval L n) (fieldsOf L id) σ.st.length (fieldsOf L id) 0 ⟨[], []⟩ σ = some σ' := e
    show wflds (wval L n) (fieldsOf L id) σ.st.length (fieldsOf L id) 0 ⟨[], []⟩ (addV r σ) = some (addV r σ')
    refine more_flds _ (fun f hf hkd => ?_) _ _ _ _ e
    rw [fieldsOf_at h hat] at hf
    obtain ⟨k, hk, rfl⟩ := mem_getD hf
    obtain ⟨-, j, hj, hjn⟩ := (fokw_of h hat.1 (show i ≤ n by omega) hk).ok.k4 hkd
    exact more_val h r n _ j hj hjn
/-- With one value more there is no stream. -/
theorem wrote_more {L : List Fm} {id : Int} {vs : List ByteArray} {s : ByteArray} (h : writ L id vs = some s) (x : ByteArray) : writ L id (vs ++ [x]) = none := by
  obtain ⟨hok, i, σ, ha, e1, e2, -⟩ := writ_some h
  have hi : i < 61 := by have := ha.1; have := hok.few; omega
  have e3 : wval L 61 id ⟨[], vs ++ [x], 0, []⟩ = some (addV [x] σ) := more_val hok [x] 61 id i ha hi _ _ e1
  unfold writ wwhole
  rw [if_pos (vd_iff.2 hok), if_pos (has_iff.2 ⟨i, ha⟩), e3]
  simp only [Option.bind_some]
  rw [if_neg (by unfold addV; rw [e2]; simp)]
end Rt
end RtC
section RtD
open Go.RowKit Fx Rec
namespace Rt

theorem of_ext {s v : ByteArray} {a n : Nat} (h : s.extract a (a + n) = v) : ∀ j, j < n → s.data.toList[a + j]? = v.data.toList[j]? := fun j hj => by
  rw [← h, ext_seg, bytes_list, seg_get, if_pos hj]
theorem ext_size {s : ByteArray} {a n : Nat} (h : a + n ≤ s.size) : (s.extract a (a + n)).size = n := by
  rw [ByteArray.size_extract]
  omega
/-- What comes of writing the values that were read. -/
abbrev BS (L : List Fm) (s : ByteArray) (sub : WSub) (rsub : Sub) (id : Int) : Prop := ∀ σ depth limit e ps rest, rsub id depth σ.st.length limit σ.parts = .ok (e, ps) → Tame σ → σ.st.length ≤ limit → limit ≤ s.size → σ.vals = valsOf L s ps ++ rest →
  ∃ σ', sub id σ = some σ' ∧ σ'.st.length = e ∧ σ'.parts = σ.parts + ps.length ∧ σ'.vals = rest ∧ Fits s.data.toList σ.st.length σ'
theorem ag_step {s : ByteArray} {fs : List Fld} {start k : Nat} {d : Dr} {σ : Ws} {p : Rec.Left} (hk : k < fs.length) (hK : StK fs k (fs.getD k zf) d σ p) (hA : Ag s start d (fs.drop k) σ)
    (hfill : ∀ i, uses (fs.getD k zf) → inR (box d (fs.getD k zf)) i → ¬ InC p.2.2.checks i → s.data.toList[i]? = p.2.2.st[i]?)
    (hnew : ∀ i, σ.st.length ≤ i → i < p.2.2.st.length → ¬ InC p.2.2.checks i → ¬ Pend ⟨d.counts ++ [p.1], d.lens ++ [p.2.1]⟩ (fs.drop (k + 1)) i → s.data.toList[i]? = p.2.2.st[i]?) : Ag s start ⟨d.counts ++ [p.1], d.lens ++ [p.2.1]⟩ (fs.drop (k + 1)) p.2.2 := fun i h1 h2 h3 h4 => by
  rcases Nat.lt_or_ge i σ.st.length with h | h
  · by_cases hu : uses (fs.getD k zf) ∧ inR (box d (fs.getD k zf)) i
    · exact hfill i hu.1 hu.2 h3
    · rw [hK.st i h hu]
      refine hA i h1 h (fun ⟨c, hc, h5⟩ => h3 ⟨c, hK.ck.sub hc, h5⟩) ?_
      rintro ⟨g, hg, hgu, hr⟩
      have e : fs.drop k = fs.getD k zf :: fs.drop (k + 1) := by
        rw [List.drop_eq_getElem_cons hk, List.getD_eq_getElem?_getD, List.getElem?_eq_getElem hk]; rfl
      rw [e] at hg
      rcases List.mem_cons.1 hg with rfl | hg
      · exact hu ⟨hgu, hr⟩
      · exact h4 ⟨g, hg, hgu, by rw [box_old (box_lt hr)]; exact hr⟩
  · exact hnew i h h2 h3 h4
theorem Good.waited {L : List Fm} {N : Nat} {fs : List Fld} (h : Good L N fs) {k : Nat} (hw : waits fs k = true) : ∃ j, k < j ∧ j < fs.length ∧ (fs.getD j zf).frm = (k : Int) ∧ uses (fs.getD j zf) := by
  unfold waits at hw
  rw [List.any_eq_true] at hw
  obtain ⟨f, hf, h2⟩ := hw
  obtain ⟨j, hj, rfl⟩ := mem_getD hf
  simp only [Bool.and_eq_true, decide_eq_true_eq, Bool.not_eq_true', decide_eq_false_iff_not] at h2
  have n1 := h.neg j hj
  have o := h.ok j hj
  have := o.ok.lo
  have := o.ok.hi
  have hkj : k < j := by
    by_cases h3 : (fs.getD j zf).kind = 3
    · rcases o.k3 h3 with h4 | ⟨q, h4, h5, _⟩
      · omega
      · omega
    · have h5 : (fs.getD j zf).kind = 5 := by omega
      obtain ⟨q, h4, h5, _⟩ := o.k5 h5
      omega
  exact ⟨j, hkj, hj, h2.1, by have := h2.1; omega, h2.2⟩
theorem bwd_reps {L : List Fm} {s : ByteArray} {sub : WSub} {rsub : Sub} {id : Int} (h : BS L s sub rsub id) (hk : KeepsS sub id) (hW : Within rsub) : ∀ n σ depth limit e ps rest, reps rsub id depth limit σ.st.length σ.parts n = .ok (e, ps) → Tame σ → σ.st.length ≤ limit → limit ≤ s.size → σ.vals = valsOf L s ps ++ rest →
    ∃ σ', wreps sub id n σ = some σ' ∧ σ'.st.length = e ∧ σ'.parts = σ.parts + ps.length ∧ σ'.vals = rest ∧ Fits s.data.toList σ.st.length σ'
  | 0, σ, depth, limit, e, ps, rest, hr, ht, hl, hl2, hv => by
    rw [reps] at hr
    cases hr
    exact ⟨σ, rfl, rfl, rfl, hv, fun i h1 h2 => absurd h1 (by omega), fun c hc h1 => by have := ht.each c hc; omega⟩
  | n + 1, σ, depth, limit, e, ps, rest, hr, ht, hl, hl2, hv => by
    rw [reps_front] at hr
    split at hr
    · cases hr
    · rename_i e1 ps1 h1
      split at hr
      · cases hr
      · rename_i e2 qs h2
        cases hr
        rw [valsOf_app, List.append_assoc] at hv
        obtain ⟨σ1, a1, a2, a3, a4, a5⟩ := h σ depth limit e1 ps1 _ h1 ht hl hl2 hv
        obtain ⟨t1, k1⟩ := hk _ _ a1 ht
        have hin := hW _ _ _ _ _ _ _ h1 hl
        rw [← a2, ← a3] at h2
        obtain ⟨σ2, b1, b2, b3, b4, b5⟩ := bwd_reps h hk hW n σ1 depth limit e qs rest h2 t1 (by omega) hl2 a4
        obtain ⟨t2, k2⟩ := wreps_keeps hk _ _ _ b1 t1
        refine ⟨σ2, by rw [wreps, a1]; exact b1, b2, by rw [List.length_append]; omega, b4, fun i g1 g2 g3 => ?_, fun c hc g1 => ?_⟩
        · rcases Nat.lt_or_ge i σ1.st.length with g | g
          · rw [k2.st i g]
            exact a5.st i g1 g fun ⟨c, hc, h5⟩ => g3 ⟨c, k2.ck.sub hc, h5⟩
          · exact b5.st i g g2 g3
        · rcases Nat.lt_or_ge c.2.1 σ1.st.length with g | g
          · obtain ⟨x, e3, h3, _⟩ := k2.ck
            rw [e3] at hc
            rcases List.mem_append.1 hc with hc | hc
            · exact a5.ck c hc g1
            · have := (h3 c hc).1; omega
          · exact b5.ck c hc g
/-- A box that is filled in agrees with the stream. -/
theorem box_fits {s : ByteArray} {fs : List Fld} {start k q : Nat} {d : Dr} {σ : Ws} {nums : List Int} {st : List UInt8} (hI : LInv s fs start k d σ nums) (hq : q < k) (hfr : (fs.getD k zf).frm = (q : Int)) (hW : Wt fs q) (hst : σ.st.length ≤ st.length) (hsz : σ.st.length ≤ s.size) :
    ((told (fs.getD k zf) nums : Nat) : Int) < 256 ^ (d.lens.getD q (0, 0)).2 ∧ ∀ i, inR (d.lens.getD q (0, 0)) i → s.data.toList[i]? = (patch st (d.lens.getD q (0, 0)).1 (nbytes (d.lens.getD q (0, 0)).2 (told (fs.getD k zf) nums)))[i]? := by
  obtain ⟨pos, w, e1, e2, e3, e4, e5, e6⟩ := hI.wai q hq hW
  have hsl : (seg s.data.toList pos w).length = w := seg_len (by rw [size_list]; omega)
  have hb := numL_bound (seg s.data.toList pos w)
  rw [hsl] at hb
  have htl : ((told (fs.getD k zf) nums : Nat) : Int) = numL (seg s.data.toList pos w) := by rw [told_eq hfr, e5]; omega
  rw [htl, e1]
  refine ⟨hb.2, fun i hi => ?_⟩
  simp only
  rw [nbytes_num w _ hsl]
  have h1 : pos ≤ i := hi.1
  have h2 : i < pos + w := hi.2
  rw [show i = pos + (i - pos) by omega, patch_in (by rw [hsl]; omega) (by rw [hsl]; omega), seg_get, if_pos (by omega)]
theorem addW_ok {σ : Ws} {b : List UInt8} (h : σ.st.length + b.length ≤ 65536) : addW σ b = some { σ with st := σ.st ++ b } := by unfold addW; rw [if_pos h]
theorem nextW_ok {σ : Ws} {x : ByteArray} {r : List ByteArray} (h : σ.vals = x :: r) : nextW σ = some (x, { σ with vals := r }) := by unfold nextW; rw [h]
theorem app_from {s : ByteArray} {a b : List UInt8} (h : ∀ j, j < b.length → s.data.toList[a.length + j]? = b[j]?) {i : Nat} (h1 : a.length ≤ i) (h2 : i < (a ++ b).length) : s.data.toList[i]? = (a ++ b)[i]? := by
  rw [List.length_append] at h2
  rw [show i = a.length + (i - a.length) by omega, app_new]
  exact h _ (by omega)
set_option maxHeartbeats 1000000 in
theorem bwd_kind {L : List Fm} {N : Nat} {sub : WSub} {rsub : Sub} {fs : List Fld} {s : ByteArray} {start k : Nat} {d : Dr} {σ : Ws} {nums : List Int} {id depth : Int} {limit e : Nat} {n : Int} {qs : List Pt} {rest : List ByteArray} (hG : Good L N fs) (hk : k < fs.length) (hI : LInv s fs start k d σ nums) (hid : fieldsOf L id = fs)
    (hsub : (fs.getD k zf).kind = 4 ∨ (fs.getD k zf).kind = 5 → KeepsS sub (fs.getD k zf).n ∧ BS L s sub rsub (fs.getD k zf).n) (hW : Within rsub)
    (hr : kind s rsub id depth start limit k (fs.getD k zf) nums σ.st.length (σ.parts + 1) = .ok (e, n, qs)) (hv : σ.vals = valsOf L s (⟨depth, id, k, σ.st.length, e, n⟩ :: qs) ++ rest)
    (hA : Ag s start d (fs.drop k) σ) (hC : ∀ c, c ∈ σ.checks → start ≤ c.2.1 → chk s.data.toList c) (hl : σ.st.length ≤ limit) (hl2 : limit ≤ s.size) (hs : s.size ≤ 65536) :
    ∃ p, wkind sub fs start k (fs.getD k zf) d { σ with parts := σ.parts + 1 } = some p ∧ p.2.2.st.length = e ∧ p.2.2.parts = σ.parts + 1 + qs.length ∧ p.2.2.vals = rest ∧
      Ag s start ⟨d.counts ++ [p.1], d.lens ++ [p.2.1]⟩ (fs.drop (k + 1)) p.2.2 ∧ (∀ c, c ∈ p.2.2.checks → start ≤ c.2.1 → chk s.data.toList c) ∧
      ((fs.getD k zf).kind = 2 → waits fs k = false → n = p.1) ∧
      (Wt fs k → n = numL (seg s.data.toList σ.st.length (fs.getD k zf).n.toNat) ∧ p.2.1 = (σ.st.length, (fs.getD k zf).n.toNat) ∧ σ.st.length + (fs.getD k zf).n.toNat ≤ p.2.2.st.length ∧ p.2.2.checks = σ.checks) := by
  have hgiv := hG.given k
  have hlo := (hG.ok k hk).ok.lo
  have hhi := (hG.ok k hk).ok.hi
  have hk2 := (hG.ok k hk).ok.k2
  have hk3 := (hG.ok k hk).k3
  have hk5 := (hG.ok k hk).k5
  have hl4 := hG.at4 k hk
  have hneg := hG.neg k hk
  have hks : (fs.getD k zf).kind = 4 ∨ (fs.getD k zf).kind = 5 → KeepsS sub (fs.getD k zf).n := fun h => (hsub h).1
  have hno : givenB fs k = false → valsOf L s (⟨depth, id, (k : Int), (σ.st.length : Nat), (e : Nat), n⟩ :: qs) = valsOf L s qs := fun h => valsOf_no (by show givenB (fieldsOf L id) (k : Int).toNat = false; rw [hid, Int.toNat_natCast]; exact h)
  have hyes : givenB fs k = true → valsOf L s (⟨depth, id, (k : Int), (σ.st.length : Nat), (e : Nat), n⟩ :: qs) = s.extract σ.st.length e :: valsOf L s qs := fun h => by
    rw [valsOf_yes (by show givenB (fieldsOf L id) (k : Int).toNat = true; rw [hid, Int.toNat_natCast]; exact h)]
    rfl
  -- a step whose field is no user of a number
  have plain : ∀ (p : Rec.Left), wkind sub fs start k (fs.getD k zf) d { σ with parts := σ.parts + 1 } = some p → ¬ uses (fs.getD k zf) →
      (∀ i, σ.st.length ≤ i → i < p.2.2.st.length → ¬ InC p.2.2.checks i → ¬ Pend ⟨d.counts ++ [p.1], d.lens ++ [p.2.1]⟩ (fs.drop (k + 1)) i → s.data.toList[i]? = p.2.2.st[i]?) → Ag s start ⟨d.counts ++ [p.1], d.lens ++ [p.2.1]⟩ (fs.drop (k + 1)) p.2.2 := fun p hp hu hn => by
    have hK := wkind_keep (hG.ok k hk) hI.lens hks (winMore hI.win) hp
    exact ag_step hk ⟨hK.st, hK.ck, hK.box_, hK.top⟩ hA (fun i h => absurd h hu) hn
  have user : ∀ (p : Rec.Left), wkind sub fs start k (fs.getD k zf) d { σ with parts := σ.parts + 1 } = some p → (∀ i, inR (box d (fs.getD k zf)) i → s.data.toList[i]? = p.2.2.st[i]?) →
      (∀ i, σ.st.length ≤ i → i < p.2.2.st.length → ¬ InC p.2.2.checks i → s.data.toList[i]? = p.2.2.st[i]?) → Ag s start ⟨d.counts ++ [p.1], d.lens ++ [p.2.1]⟩ (fs.drop (k + 1)) p.2.2 := fun p hp hu hn => by
    have hK := wkind_keep (hG.ok k hk) hI.lens hks (winMore hI.win) hp
    exact ag_step hk ⟨hK.st, hK.ck, hK.box_, hK.top⟩ hA (fun i _ h _ => hu i h) fun i h1 h2 h3 _ => hn i h1 h2 h3
  obtain ⟨f, hf⟩ : ∃ f, f = fs.getD k zf := ⟨_, rfl⟩
  unfold Wt
  rw [← hf] at hsub hr hgiv hlo hhi hk2 hk3 hk5 hl4 hneg plain user ⊢
  unfold kind at hr
  split at hr
  · rename_i h1
    obtain ⟨g1, g2⟩ := short_ok hr
    obtain ⟨g3, g4⟩ := unless_ok g2
    cases g4
    have hx := of_ext (by simpa using g3)
    rw [hno (by rw [hgiv, if_neg (by omega), if_neg (by omega)])] at hv
    have hsz := size_list f.text
    have e0 : wkind sub fs start k f d { σ with parts := σ.parts + 1 } = some (left0 { σ with parts := σ.parts + 1, st := σ.st ++ f.text.data.toList }) := by
      unfold wkind wtext
      rw [if_pos h1, addW_ok (by show σ.st.length + _ ≤ _; omega)]
      rfl
    refine ⟨_, e0, ?_, rfl, hv, plain _ e0 (fun hu => by have := hu.1; have := hneg (.inl h1); omega) (fun i i1 i2 _ _ => app_from (by rw [hsz]; exact hx) i1 i2), hC, fun h => absurd h (by omega), fun h => absurd h.1 (by omega)⟩
    show (σ.st ++ f.text.data.toList).length = _
    rw [List.length_append, hsz]
  · rename_i h1
    split at hr
    · rename_i h2
      have hn := hk2 (.inl h2)
      obtain ⟨g1, g2⟩ := short_ok hr
      cases g2
      by_cases hw : waits fs k = true
      · rw [hno (by rw [hgiv, if_neg (by omega), if_pos h2, hw]; rfl)] at hv
        have e0 : wkind sub fs start k f d { σ with parts := σ.parts + 1 } = some (0, (σ.st.length, f.n.toNat), { σ with parts := σ.parts + 1, st := σ.st ++ List.replicate f.n.toNat 0 }) := by
          unfold wkind wwait
          rw [if_neg h1, if_pos h2, if_pos hw, addW_ok (by show σ.st.length + _ ≤ _; rw [List.length_replicate]; omega)]
          rfl
        have hln : (σ.st ++ List.replicate f.n.toNat (0 : UInt8)).length = σ.st.length + f.n.toNat := by rw [List.length_append, List.length_replicate]
        refine ⟨_, e0, hln, rfl, hv, plain _ e0 (fun hu => by have := hu.1; have := hneg (.inr (.inl h2)); omega) (fun i i1 i2 _ i4 => ?_), hC, fun _ h => absurd (hw.symm.trans h) (by decide), fun _ => ⟨num_seg _ _ _, rfl, Nat.le_of_eq hln.symm, rfl⟩⟩
        exfalso
        obtain ⟨j, j1, j2, j3, j4⟩ := hG.waited hw
        refine i4 ⟨fs.getD j zf, ?_, j4, ?_⟩
        · rw [List.mem_drop_iff_getElem]
          exact ⟨j - (k + 1), by omega, by rw [List.getD_eq_getElem?_getD, List.getElem?_eq_getElem j2]; simp [show k + 1 + (j - (k + 1)) = j by omega]⟩
        · rw [box_new (by rw [j3, Int.toNat_natCast]; exact hI.lens.symm)]
          have i2' : i < (σ.st ++ List.replicate f.n.toNat (0 : UInt8)).length := i2
          rw [hln] at i2'
          exact ⟨i1, i2'⟩
      · have hw : waits fs k = false := by simpa using hw
        rw [hyes (by rw [hgiv, if_neg (by omega), if_pos h2, hw]; rfl)] at hv
        have hxs := ext_size (s := s) (a := σ.st.length) (n := f.n.toNat) (by omega)
        obtain ⟨x, hx⟩ : ∃ x, x = s.extract σ.st.length (σ.st.length + f.n.toNat) := ⟨_, rfl⟩
        rw [← hx] at hv hxs
        have hb := of_ext hx.symm
        have hsz := size_list x
        have e0 : wkind sub fs start k f d { σ with parts := σ.parts + 1 } = some (num x, (0, 0), { σ with parts := σ.parts + 1, vals := rest, st := σ.st ++ x.data.toList }) := by
          unfold wkind wgiven
          rw [if_neg h1, if_pos h2, if_neg (by rw [hw]; decide), nextW_ok (σ := { σ with parts := σ.parts + 1 }) (x := x) (r := rest) hv]
          simp only [Option.bind_some]
          rw [if_pos (by omega), addW_ok (by show σ.st.length + _ ≤ _; omega)]
          rfl
        refine ⟨_, e0, ?_, rfl, rfl, plain _ e0 (fun hu => by have := hu.1; have := hneg (.inr (.inl h2)); omega) (fun i i1 i2 _ _ => app_from (by rw [hsz, hxs]; exact hb) i1 i2), hC, fun _ _ => by rw [hx], fun h => absurd (hw.symm.trans h.2) (by decide)⟩
        show (σ.st ++ x.data.toList).length = _
        rw [List.length_append, hsz, hxs]
    · rename_i h2
      split at hr
      · rename_i h3
        split at hr
        · rename_i hfm
          obtain ⟨g1, g2⟩ := short_ok hr
          cases g2
          have hk0 : 0 ≤ f.n := by
            rcases (hG.ok k hk).ok.k3 (by rw [← hf]; exact h3) with h | ⟨q, h, _⟩
            · rw [← hf] at h; exact h.2.1
            · rw [← hf] at h; omega
          rw [hyes (by rw [hgiv, if_pos h3])] at hv
          have hxs := ext_size (s := s) (a := σ.st.length) (n := f.n.toNat) (by omega)
          obtain ⟨x, hx⟩ : ∃ x, x = s.extract σ.st.length (σ.st.length + f.n.toNat) := ⟨_, rfl⟩
          rw [← hx] at hv hxs
          have hb := of_ext hx.symm
          have hsz := size_list x
          have e0 : wkind sub fs start k f d { σ with parts := σ.parts + 1 } = some (left0 { σ with parts := σ.parts + 1, vals := rest, st := σ.st ++ x.data.toList }) := by
            unfold wkind wbytes
            rw [if_neg h1, if_neg h2, if_pos h3, nextW_ok (σ := { σ with parts := σ.parts + 1 }) (x := x) (r := rest) hv]
            simp only [Option.bind_some]
            rw [addW_ok (by show σ.st.length + _ ≤ _; omega)]
            simp only [Option.bind_some]
            rw [if_pos hfm, if_pos (by omega)]
          refine ⟨_, e0, ?_, rfl, rfl, plain _ e0 (fun hu => by have := hu.1; omega) (fun i i1 i2 _ _ => app_from (by rw [hsz, hxs]; exact hb) i1 i2), hC, fun h => absurd h (by omega), fun h => absurd h.1 (by omega)⟩
          show (σ.st ++ x.data.toList).length = _
          rw [List.length_append, hsz, hxs]
        · rename_i hfm
          obtain ⟨q, hq, hqk, -, hw, hq2⟩ := (hk3 h3).resolve_left hfm
          have hWt : Wt fs q := ⟨hq2, hw⟩
          obtain ⟨g1, g2⟩ := short_ok hr
          cases g2
          rw [hyes (by rw [hgiv, if_pos h3])] at hv
          have hxs := ext_size (s := s) (a := σ.st.length) (n := told f nums) (by omega)
          obtain ⟨x, hx⟩ : ∃ x, x = s.extract σ.st.length (σ.st.length + told f nums) := ⟨_, rfl⟩
          rw [← hx] at hv hxs
          have hb := of_ext hx.symm
          have hsz := size_list x
          have hln : (σ.st ++ x.data.toList).length = σ.st.length + x.size := by rw [List.length_append, hsz]
          obtain ⟨f1, f2⟩ := box_fits (st := σ.st ++ x.data.toList) hI hqk (by rw [← hf]; exact hq) hWt (by rw [hln]; omega) (by omega)
          rw [← hf, ← hxs] at f1 f2
          obtain ⟨pos, w, p1, p2, p3, -⟩ := hI.wai q hqk hWt
          have hlp : (patch (σ.st ++ x.data.toList) (d.lens.getD q (0, 0)).1 (nbytes (d.lens.getD q (0, 0)).2 x.size)).length = σ.st.length + x.size := by rw [patch_len _ _ _ (by rw [nbytes_len, p1, hln]; simp only; omega), hln]
          have e0 : wkind sub fs start k f d { σ with parts := σ.parts + 1 } = some (left0 { σ with parts := σ.parts + 1, vals := rest, st := patch (σ.st ++ x.data.toList) (d.lens.getD q (0, 0)).1 (nbytes (d.lens.getD q (0, 0)).2 x.size) }) := by
            unfold wkind wbytes
            rw [if_neg h1, if_neg h2, if_pos h3, nextW_ok (σ := { σ with parts := σ.parts + 1 }) (x := x) (r := rest) hv]
            simp only [Option.bind_some]
            rw [addW_ok (by show σ.st.length + _ ≤ _; omega)]
            simp only [Option.bind_some]
            rw [if_neg hfm, hq, Int.toNat_natCast]
            unfold fill
            rw [if_pos f1]
            rfl
          refine ⟨_, e0, ?_, rfl, rfl, user _ e0 (fun i hi => ?_) (fun i i1 i2 _ => ?_), hC, fun h => absurd h (by omega), fun h => absurd h.1 (by omega)⟩
          · show (patch (σ.st ++ x.data.toList) _ _).length = _
            rw [hlp, hxs]
          · unfold box at hi
            rw [hq, Int.toNat_natCast] at hi
            exact f2 i hi
          · have i2' : i < (patch (σ.st ++ x.data.toList) (d.lens.getD q (0, 0)).1 (nbytes (d.lens.getD q (0, 0)).2 x.size)).length := i2
            show _ = (patch (σ.st ++ x.data.toList) _ _)[i]?
            rw [hlp] at i2'
            rw [patch_out (by rw [nbytes_len, p1, hln]; simp only; omega) (.inr (by rw [nbytes_len, p1]; simp only; omega))]
            exact app_from (by rw [hsz, hxs]; exact hb) i1 (by rw [hln]; exact i2')
      · rename_i h3
        split at hr
        · rename_i h4
          obtain ⟨g1, g2⟩ := listed_ok hr
          obtain ⟨q, hq, hqk, hq2⟩ := hl4 h4
          have hwq := hG.list hk (by rw [← hf]; exact h4) (by rw [← hf]; exact hq)
          obtain ⟨hks4, hbs⟩ := hsub (.inl h4)
          rw [hno (by rw [hgiv, if_neg (by omega), if_neg (by omega)])] at hv
          obtain ⟨σ1, a1, a2, a3, a4, a5⟩ := bwd_reps hbs hks4 hW _ { σ with parts := σ.parts + 1 } (depth + 1) limit e qs rest g1 (winMore hI.win).tame hl hl2 hv
          obtain ⟨t1, k1⟩ := wreps_keeps hks4 _ _ _ a1 (winMore hI.win).tame
          have e0 : wkind sub fs start k f d { σ with parts := σ.parts + 1 } = some (left0 σ1) := by
            unfold wkind wlist
            rw [if_neg h1, if_neg h2, if_neg h3, if_pos h4, hq, Int.toNat_natCast, ← hI.giv q hqk hq2 hwq, ← told_eq hq, a1]
            rfl
          refine ⟨_, e0, a2, a3, a4, plain _ e0 (fun hu => hu.2 h4) (fun i i1 i2 i3 _ => a5.st i i1 i2 i3), fun c hc c1 => ?_, fun h => absurd h (by omega), fun h => absurd h.1 (by omega)⟩
          rcases Nat.lt_or_ge c.2.1 σ.st.length with g | g
          · obtain ⟨x, e3, h5, _⟩ := k1.ck
            have hc : c ∈ σ1.checks := hc
            rw [e3] at hc
            rcases List.mem_append.1 hc with hc | hc
            · exact hC c hc c1
            · have h6 : σ.st.length ≤ c.2.1 := (h5 c hc).1
              omega
          · exact a5.ck c hc g
        · rename_i h4
          split at hr
          · rename_i h5
            obtain ⟨g1, g2⟩ := short_ok hr
            obtain ⟨g3, g4, g5⟩ := boxed_ok g2
            simp only at g3 g4 g5
            obtain ⟨q, hq, hqk, -, hw, hq2⟩ := hk5 h5
            have hWt : Wt fs q := ⟨hq2, hw⟩
            obtain ⟨hks5, hbs⟩ := hsub (.inr h5)
            rw [hno (by rw [hgiv, if_neg (by omega), if_neg (by omega)])] at hv
            have hin := hW _ _ _ _ _ _ _ g3 (by omega)
            have he : e = σ.st.length + told f nums := by omega
            obtain ⟨σ1, a1, a2, a3, a4, a5⟩ := hbs { σ with parts := σ.parts + 1 } (depth + 1) (σ.st.length + told f nums) e qs rest g3 (winMore hI.win).tame (Nat.le_add_right _ _) (by omega) hv
            obtain ⟨t1, k1⟩ := hks5 _ _ a1 (winMore hI.win).tame
            obtain ⟨f1, f2⟩ := box_fits (st := σ1.st) hI hqk (by rw [← hf]; exact hq) hWt (by omega) (by omega)
            rw [← hf] at f1 f2
            obtain ⟨pos, w, p1, p2, p3, -, -, p6⟩ := hI.wai q hqk hWt
            have hlp : (patch σ1.st (d.lens.getD q (0, 0)).1 (nbytes (d.lens.getD q (0, 0)).2 ((told f nums : Nat) : Int))).length = σ1.st.length := by rw [patch_len _ _ _ (by rw [nbytes_len, p1]; simp only; omega)]
            have e0 : wkind sub fs start k f d { σ with parts := σ.parts + 1 } = some (left0 { σ1 with st := patch σ1.st (d.lens.getD q (0, 0)).1 (nbytes (d.lens.getD q (0, 0)).2 ((told f nums : Nat) : Int)) }) := by
              unfold wkind winside
              rw [if_neg h1, if_neg h2, if_neg h3, if_neg h4, if_pos h5, a1]
              simp only [Option.bind_some]
              rw [hq, Int.toNat_natCast, show ((σ1.st.length : Int) - (σ.st.length : Nat)) = ((told f nums : Nat) : Int) by omega]
              unfold fill
              rw [if_pos f1]
              rfl
            refine ⟨_, e0, by show (patch σ1.st _ _).length = _; rw [hlp]; exact a2, a3, a4, user _ e0 (fun i hi => ?_) (fun i i1 i2 i3 => ?_), fun c hc c1 => ?_, fun h => absurd h (by omega), fun h => absurd h.1 (by omega)⟩
            · unfold box at hi
              rw [hq, Int.toNat_natCast] at hi
              exact f2 i hi
            · have i2' : i < (patch σ1.st (d.lens.getD q (0, 0)).1 (nbytes (d.lens.getD q (0, 0)).2 ((told f nums : Nat) : Int))).length := i2
              rw [hlp] at i2'
              show _ = (patch σ1.st _ _)[i]?
              rw [patch_out (by rw [nbytes_len, p1]; simp only; omega) (.inr (by rw [nbytes_len, p1]; simp only; omega))]
              exact a5.st i i1 i2' i3
            · have hc : c ∈ σ1.checks := hc
              rcases Nat.lt_or_ge c.2.1 σ.st.length with g | g
              · obtain ⟨x, e3, h6, _⟩ := k1.ck
                rw [e3] at hc
                rcases List.mem_append.1 hc with hc | hc
                · exact hC c hc c1
                · have h7 : σ.st.length ≤ c.2.1 := (h6 c hc).1
                  omega
              · exact a5.ck c hc g
          · rename_i h5
            have h6 : f.kind = 6 := by omega
            have hn := hk2 (.inr h6)
            obtain ⟨g1, g2⟩ := short_ok hr
            obtain ⟨g3, g4⟩ := unless_ok g2
            cases g4
            rw [hno (by rw [hgiv, if_neg (by omega), if_neg (by omega)])] at hv
            have hnum : num (s.extract σ.st.length (σ.st.length + f.n.toNat)) = (sumTo s σ.st.length - sumTo s start) % pow f.n := by simpa using g3
            have hln : (σ.st ++ List.replicate f.n.toNat (0 : UInt8)).length = σ.st.length + f.n.toNat := by rw [List.length_append, List.length_replicate]
            have e0 : wkind sub fs start k f d { σ with parts := σ.parts + 1 } = some (left0 { σ with parts := σ.parts + 1, st := σ.st ++ List.replicate f.n.toNat 0, checks := σ.checks ++ [(start, σ.st.length, f.n.toNat)] }) := by
              unfold wkind wcheck
              rw [if_neg h1, if_neg h2, if_neg h3, if_neg h4, if_neg h5, addW_ok (by show σ.st.length + _ ≤ _; rw [List.length_replicate]; omega)]
              rfl
            refine ⟨_, e0, hln, rfl, hv, plain _ e0 (fun hu => by have := hu.1; have := hneg (.inr (.inr h6)); omega) (fun i i1 i2 i3 _ => ?_), fun c hc c1 => ?_, fun h => absurd h (by omega), fun h => absurd h.1 (by omega)⟩
            · exfalso
              have i2' : i < (σ.st ++ List.replicate f.n.toNat (0 : UInt8)).length := i2
              rw [hln] at i2'
              exact i3 ⟨(start, σ.st.length, f.n.toNat), List.mem_append_right _ (List.mem_singleton.2 rfl), i1, i2'⟩
            · rcases List.mem_append.1 (show c ∈ σ.checks ++ [(start, σ.st.length, f.n.toNat)] from hc) with hc | hc
              · exact hC c hc c1
              · rw [List.mem_singleton] at hc
                subst hc
                unfold chk
                simp only
                rw [num_seg, pow_eq] at hnum
                have hsl : (seg s.data.toList σ.st.length f.n.toNat).length = f.n.toNat := seg_len (by rw [size_list]; omega)
                rw [show sumOf s.data.toList σ.st.length - sumOf s.data.toList start = sumTo s σ.st.length - sumTo s start from rfl, ← hnum, nbytes_num _ _ hsl]
theorem bwd_flds {L : List Fm} {N : Nat} {sub : WSub} {rsub : Sub} {fs : List Fld} {s : ByteArray} {id depth : Int} {limit : Nat} {σ0 : Ws} (hG : Good L N fs) (hid : fieldsOf L id = fs)
    (hsub : ∀ k, k < fs.length → (fs.getD k zf).kind = 4 ∨ (fs.getD k zf).kind = 5 → KeepsS sub (fs.getD k zf).n ∧ BS L s sub rsub (fs.getD k zf).n) (hW : Within rsub) (hl : σ0.st.length ≤ limit) (hl2 : limit ≤ s.size) (hs : s.size ≤ 65536) (ht : Tame σ0) :
    ∀ (k e : Nat) (nums : List Int) (ps : List Pt) (rest : List ByteArray), k ≤ fs.length → flds s rsub id depth σ0.st.length limit σ0.parts fs k = .ok (e, nums, ps) → σ0.vals = valsOf L s ps ++ rest →
      ∃ d σ, wflds sub fs σ0.st.length fs 0 ⟨[], []⟩ σ0 = wflds sub fs σ0.st.length (fs.drop k) k d σ ∧ LInv s fs σ0.st.length k d σ nums ∧ σ.st.length = e ∧ σ.parts = σ0.parts + ps.length ∧ σ.vals = rest ∧ Ag s σ0.st.length d (fs.drop k) σ ∧ ∀ c, c ∈ σ.checks → σ0.st.length ≤ c.2.1 → chk s.data.toList c
  | 0, e, nums, ps, rest, _, hr, hv => by
    rw [flds] at hr
    cases hr
    exact ⟨⟨[], []⟩, σ0, rfl, LInv.first ht, rfl, rfl, hv, fun i h1 h2 => absurd h1 (by omega), fun c hc h1 => by have := ht.each c hc; omega⟩
  | k + 1, e, nums, ps, rest, hk, hr, hv => by
    rw [flds] at hr
    split at hr
    · cases hr
    · rename_i at1 nums1 ps1 h1
      split at hr
      · cases hr
      · rename_i e2 n qs h2
        cases hr
        rw [valsOf_app, List.append_assoc] at hv
        obtain ⟨d, σ, a1, a2, a3, a4, a5, a6, a7⟩ := bwd_flds hG hid hsub hW hl hl2 hs ht k at1 nums1 ps1 _ (by omega) h1 hv
        obtain ⟨i1, i2, -⟩ := flds_in hW hl h1
        subst a3
        rw [← a4] at h2
        have h5 := (next_in hW i2 h2).1
        have h3 : kind s rsub id depth σ0.st.length limit k (fs.getD k zf) nums1 σ.st.length (σ.parts + 1) = .ok (e, n, qs) := by
          unfold next at h2
          rw [if_neg (by omega)] at h2
          exact h2
        obtain ⟨p, b1, b2, b3, b4, b5, b6, b7, b8⟩ := bwd_kind hG (by omega) a2 hid (hsub k (by omega)) hW h3 a5 a6 a7 i2 hl2 hs
        have hkl : k < fs.length := by omega
        have hks : (fs.getD k zf).kind = 4 ∨ (fs.getD k zf).kind = 5 → KeepsS sub (fs.getD k zf).n := fun h => (hsub k hkl h).1
        have e1 : wnext sub fs σ0.st.length k (fs.getD k zf) d σ = some p := by
          unfold wnext
          rw [if_pos h5]
          exact b1
        obtain ⟨g1, g2⟩ := wnext_out (hG.ok k hkl) a2.lens (fun h => (hks h).grows) a2.win e1
        have hK := wkind_keep (hG.ok k hkl) a2.lens hks (winMore a2.win) b1
        refine ⟨_, p.2.2, ?_, a2.next ⟨hK.st, hK.ck, hK.box_, hK.top⟩ g1 g2 b7 b8, b2, by rw [List.length_append, List.length_cons]; omega, b4, b5, b6⟩
        rw [a1, show fs.drop k = fs.getD k zf :: fs.drop (k + 1) by
          rw [List.drop_eq_getElem_cons hkl, List.getD_eq_getElem?_getD, List.getElem?_eq_getElem hkl]; rfl, wflds, e1]
        rfl
theorem bwd_val {L : List Fm} (h : Ok L) {s : ByteArray} (hs : s.size ≤ 65536) : ∀ (n : Nat) (id : Int) (i : Nat), At L id i → i < n → BS L s (wval L n) (val L s n) id
  | 0, _, _, _, hi => absurd hi (Nat.not_lt_zero _)
  | n + 1, id, i, hat, hi => fun σ depth limit e ps rest hr ht hl hl2 hv => by
    have hfo := fieldsOf_at h hat
    have hr : Rec.ends (flds s (val L s n) id depth σ.st.length limit σ.parts (fieldsOf L id) (fieldsOf L id).length) = .ok (e, ps) := hr
    rw [hfo] at hr
    obtain ⟨nums, hr⟩ := ends_ok hr
    obtain ⟨d, σ', a1, a2, a3, a4, a5, a6, a7⟩ := bwd_flds (depth := depth) (good_of h hat.1 (show i ≤ n by omega)) hfo (fun k hk hkd => by
      obtain ⟨-, j, hj, hjn⟩ := (fokw_of h hat.1 (show i ≤ n by omega) hk).ok.k4 hkd
      exact ⟨wval_keeps h n _ j hj hjn, bwd_val h hs n _ j hj hjn⟩) (val_in L s n) hl hl2 hs ht _ _ _ _ _ (Nat.le_refl _) hr hv
    rw [List.drop_length] at a1 a6
    refine ⟨σ', ?_, a3, a4, a5, fun i h1 h2 h3 => a6 i h1 h2 h3 (fun ⟨g, hg, _⟩ => absurd hg (List.not_mem_nil)), a7⟩
    show wflds (wval L n) (fieldsOf L id) σ.st.length (fieldsOf L id) 0 ⟨[], []⟩ σ = _
    rw [hfo, a1]
    rfl
/-- A stream is told by what was written and its checksums. -/
theorem fits_eq {S T : List UInt8} {σ : Ws} (hS : Fits S 0 σ) (hT : Fits T 0 σ) (lS : S.length = σ.st.length) (lT : T.length = σ.st.length) (hc : ∀ c, c ∈ σ.checks → c.1 ≤ c.2.1) : S = T := by
  apply List.ext_getElem?
  intro i
  induction i using Nat.strongRecOn with
  | ind i ih =>
    rcases Nat.lt_or_ge i σ.st.length with h | h
    · by_cases hi : InC σ.checks i
      · obtain ⟨c, hm, h1, h2⟩ := hi
        have e1 := hS.ck c hm (Nat.zero_le _)
        have e2 := hT.ck c hm (Nat.zero_le _)
        have h0 := hc c hm
        unfold chk at e1 e2
        rw [sumOf_ext (T := T) (n := c.2.1) (fun j hj => ih j (by omega)), sumOf_ext (T := T) (n := c.1) (fun j hj => ih j (by omega)), ← e2] at e1
        have e3 := congrArg (fun l => l[i - c.2.1]?) e1
        simp only [seg_get] at e3
        rw [if_pos (by omega), if_pos (by omega), show c.2.1 + (i - c.2.1) = i by omega] at e3
        exact e3
      · rw [hS.st i (Nat.zero_le _) h hi, hT.st i (Nat.zero_le _) h hi]
    · rw [List.getElem?_eq_none (by omega), List.getElem?_eq_none (by omega)]
theorem vals_short {L : List Fm} {s : ByteArray} {ps : List Pt} (hs : s.size ≤ 65536) : Short (valsOf L s ps) := fun x hx => by
  unfold valsOf at hx
  rw [List.mem_map] at hx
  obtain ⟨p, _, rfl⟩ := hx
  rw [ByteArray.size_extract]
  omega
/-- A stream that is of a format is written from its values. -/
theorem reads {L : List Fm} {id : Int} {s : ByteArray} {ps : List Pt} (h : mtch L id s = .ok ps) : writ L id (valsOf L s ps) = some s := by
  unfold mtch at h
  split at h
  · rename_i hv
    obtain ⟨hv, hs⟩ := hv
    unfold whole at h
    split at h
    · rename_i hh
      obtain ⟨i, ha⟩ := has_iff.1 hh
      have hok := vd_iff.1 hv
      have hi : i < 61 := by have := ha.1; have := hok.few; omega
      split at h
      · cases h
      · rename_i e ps' hval
        split at h
        · cases h
        · rename_i hle
          cases h
          have hin := val_in L s 61 _ _ _ _ _ _ _ hval (Nat.zero_le _)
          have ht := start_tame (vals_short (L := L) (ps := ps) hs)
          obtain ⟨σ, a1, a2, a3, a4, a5⟩ := bwd_val hok hs 61 id i ha hi ⟨[], valsOf L s ps, 0, []⟩ 0 s.size e ps [] hval ht (Nat.zero_le _) (Nat.le_refl _) (List.append_nil _).symm
          obtain ⟨t1, k1⟩ := wval_keeps hok 61 id i ha hi _ _ a1 ht
          obtain ⟨b1, b2, b3⟩ := lay_all σ.checks σ.st (fun c hc => ⟨(t1.each c hc).1, (t1.each c hc).2.2.2⟩) (later_strict k1.ck rfl)
          have hT : Fits (layAll σ.st σ.checks) 0 σ := ⟨fun i _ _ h3 => b2 i h3, fun c hc _ => b3 c hc⟩
          have e2 := fits_eq a5 hT (by rw [size_list]; omega) b1 (fun c hc => (t1.each c hc).1)
          unfold writ wwhole
          rw [if_pos hv, if_pos hh, a1]
          simp only [Option.bind_some]
          rw [if_pos a4, ← e2, list_bytes]
    · cases h
  · cases h
end Rt
end RtD
section ChgA
open Go.RowKit Go.Sort Fx Rec

theorem empty_of_size {s : ByteArray} (h : s.size = 0) : s = ByteArray.empty := by
  apply ByteArray.ext
  apply Array.eq_empty_of_size_eq_zero
  exact h
set_option maxRecDepth 20000 in
set_option maxHeartbeats 600000 in
theorem changed_any (s : ByteArray) (a c : Int) (w : World) (hs : s.size ≤ 1000000) (a1 : -9223372036854775808 ≤ a) (a2 : a ≤ 9223372036854775807) :
    Calls Tryz.prog 17 #[.string s, .int .i64 a, .int .u8 c] w fun e w' => ∃ t, e = .returned (.string t) ∧ t.size ≤ 1000002 ∧ Below w.heap.size w w' := by
  by_cases h0 : s.size = 0
  · obtain rfl := empty_of_size h0
    go_enter Tryz.func17, Tryz.ntmps17
    go_wp2_with fail
    first | go_end0 | go_ret
    exact ⟨_, rfl, by decide, Below.refl _ _⟩
  · obtain ⟨n, hn⟩ : ∃ n, n = s.size := ⟨_, rfl⟩
    have hne : ¬ s.toList = [] := fun h => h0 (by
      rw [ByteArray.toList_eq] at h
      have := congrArg List.length h
      simpa using this)
    have hne2 : s.toList.isEmpty = false := by rw [Bool.eq_false_iff]; intro h; exact hne (List.isEmpty_iff.1 h)
    obtain ⟨k, hk, hkn⟩ := cpick_nat a n (by omega)
    have e3 : (0 : Int) ≤ (k : Int) ∧ (k : Int) + 1 ≤ (n : Int) := by omega
    have HP := Lib.hid (And.intro (show pickI a (s.size : Nat) = (k : Nat) from by rw [← hn]; exact hk) (And.intro a1 a2))
    have e4 : (0 : Int) ≤ (k : Int) ∧ (k : Int) < (s.size : Int) ∧ (k : Int) + 1 ≤ (s.size : Int) := by omega
    clear hk a1 a2 e3 hn hkn
    go_enter Tryz.func17, Tryz.ntmps17
    go_wp2_with fail
    refine (fpick_any a s.size k w HP.out.2.1 HP.out.2.2 (by omega) (by omega) HP.out.1).mono ?_
    rintro e w3 ⟨rfl, e3w⟩
    subst e3w
    go_wp2_with fail
    have hcv : (convert 64 9 (.slice (some ⟨w3.heap.size, 0, none⟩) 1 1)).run Tryz.prog (w3.alloc (.cells #[.int .u8 c] 5)).drew = .ok (.string ⟨#[UInt8.ofNat c.toNat]⟩) (w3.alloc (.cells #[.int .u8 c] 5)).drew := by
      have hb := Blk.new w3 5 #[.int .u8 c]
      rw [run_convert_bytes_arg (P := Tryz.prog) _ 64 5 Tryz.underlying64 Tryz.underlying5 w3.heap.size 0 1 1 [c] rfl ?_ 9 Tryz.underlying9]
      · rfl
      · intro i hi
        obtain rfl : i = 0 := by omega
        rw [Nat.zero_add]
        exact hb.cell 0
    go_region
    have hsz : (s.extract 0 k ++ (⟨#[UInt8.ofNat c.toNat]⟩ : ByteArray) ++ s.extract (k + 1) s.size).size ≤ 1000002 := by
      rw [ByteArray.size_append, ByteArray.size_append, ByteArray.size_extract, ByteArray.size_extract]
      have : (⟨#[UInt8.ofNat c.toNat]⟩ : ByteArray).size = 1 := rfl
      omega
    have HZ := Lib.hid hsz
    have hb : Below w3.heap.size w3 (w3.alloc (.cells #[.int .u8 c] 5)).drew := (bx _).trans ((drewN_below _ 1).mono (by simp))
    have HB := Lib.hid hb
    clear hsz hb hcv
    go_wp2_with fail
    first | go_end0 | go_ret
    exact ⟨_, rfl, HZ.out, HB.out⟩
end ChgA
end Go.Proofs.YtdndmhlmbpgdeaaGreatDoor
