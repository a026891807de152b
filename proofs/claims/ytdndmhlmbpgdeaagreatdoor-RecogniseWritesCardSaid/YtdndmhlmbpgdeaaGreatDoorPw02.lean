/- The values of parts. Conditions: the table and the parts lie in memory, each part belongs to a field of the table and lies in the stream. A whole list of strings is appended to a list of the call's own. Conditions: both can be read, and are short. A stream that is written is recognised, and has the values that were given: the whole. Plain facts. No condition of its own. The law RecogniseWrites: it returns true. Conditions: rows of four numbers, a number and a list of numbers that can be read; the variables of the errors are laid. -/
import Derived.Test.YtdndmhlmbpgdeaaGreatDoorPb15
import Derived.Test.YtdndmhlmbpgdeaaGreatDoorPb17
import Derived.Test.YtdndmhlmbpgdeaaGreatDoorPw01
import Derived.Test.YtdndmhlmbpgdeaaGreatDoorPb20
namespace Go.Proofs.YtdndmhlmbpgdeaaGreatDoor
section ValA
open Go.RowKit Fx Rec Rt

theorem run_append_strB (w : World) (B : Nat) (hB : B ≤ w.heap.size) (ty : TypeId) (v : Value) (n : Nat) (xs : List Value) (hown : w.ownsRow B 9 1 v n xs) (hn : n ≤ 100000000) (g : Nat) (s : ByteArray) (hg : w.heap[g]? = some (.cells #[.string s] 9 (0, 0))) :
    ∃ v' w', (Builtin.append_ #[34, 34] ty #[v, .slice (some ⟨g, 0, none⟩) 1 1]).run Tryz.prog w = .ok v' w' ∧ Grew w w' B 9 1 v v' (n + 1) (xs ++ [.string s]) := by
  obtain ⟨i0, hi, hz0, hz1, hz2⟩ := info_parts infoStr
  obtain ⟨v', w', h1, h2, h3, _, h5⟩ := run_append_own_at (P := Tryz.prog) w B 34 ty 9 i0 _ 1 16 Tryz.underlying34 hi hz0 hz1 hz2 rfl (by decide) v n xs hown ⟨g, 0, none⟩ 1 1 [.string s] rfl
    (fun j u hu => by
      have hadd : (⟨g, 0, none⟩ : Addr).add j = ⟨g, j, none⟩ := by unfold Addr.add; split <;> simp_all
      rw [hadd, cell_of_row w g j _ _ _ hg]; simpa using hu)
    (fun u hu => by simp at hu; subst hu; rfl) (by unfold maxLen; omega) (by omega) hB
  exact ⟨v', w', h1, h2, h3, h5⟩
theorem wpList_append_strB {ops : Array Oper} {rest : List Oper} {o : Oper} {a : Act} {w : World} {Q : Exit → Act → World → Prop}
    (hg : o.guard = none) (s x : Operand) (hop : o.op = Op.call { callee := Callee.builtin Builtin.append, args := #[s, x], argTypes := #[34, 34] })
    (B : Nat) (hB : B ≤ w.heap.size) (v : Value) (n : Nat) (xs : List Value) (hs : a.eval s = v) (hown : w.ownsRow B 9 1 v n xs) (hn : n ≤ 100000000) (g : Nat) (y : ByteArray) (hx : a.eval x = .slice (some ⟨g, 0, none⟩) 1 1)
    (hb : w.heap[g]? = some (.cells #[.string y] 9 (0, 0)))
    (hK : ∀ v' w', Grew w w' B 9 1 v v' (n + 1) (xs ++ [.string y]) → wpList Tryz.prog ops Q rest (a.put o.dst v') w') : wpList Tryz.prog ops Q (o :: rest) a w :=
  wpList_plain hg fun _ hK' => by
    obtain ⟨v', w', hr, h2⟩ := run_append_strB w B hB o.type v n xs hown hn g y hb
    unfold Oper.wp
    simp [execOp, hop, resolve, invoke, builtin, hs, hx, hr, Result.andThen]
    exact hK' _ _ (hK _ _ h2)
theorem fms_below {w w' : World} {v : Value} {L : List Fm} (h : FmsAt (· < w.heap.size) w v L) (hb : Below w.heap.size w w') : FmsAt (· < w'.heap.size) w' v L :=
  (h.kept (Kept.of_below hb fun _ h => h)).mono fun k hk => by show k < _; have : k < w.heap.size := hk; have := hb.size; omega
/-- What lay below the base of a row stays when the row grows. -/
theorem grown_below {w w' : World} {B n : Nat} {v v' : Value} {xs ys : List Value} {m : Nat} {e : TypeId} (hG : Grew w w' B e 1 v v' m ys) (hown : w.ownsRow B e 1 v n xs) (hB : B ≤ w.heap.size) : Below B w w' :=
  ⟨hG.grown.os, hG.grown.tape, hG.grown.output, hG.grown.size, fun k hk => hG.grown.block k (Nat.lt_of_lt_of_le hk hB) fun e => by
    have := (hown.lt k e.symm).1
    omega⟩
set_option maxRecDepth 20000 in
set_option maxHeartbeats 4000000 in
theorem values_any (lv pv : Value) (L : List Fm) (s : ByteArray) (ps : List Pt) (w : World) (hL : Ok L) (hV : FmsAt (· < w.heap.size) w lv L) (hF : ∀ j, j < L.length → (L.getD j zm).fs.length ≤ 1000) (hP : RowA w 6 pv ps.length fun j => (flatP ps)[j]?) (hps : ∀ p, p ∈ ps → PartOk L 0 s.size p) (hn : ps.length ≤ 5000) :
    Calls Tryz.prog 30 #[lv, pv, .string s] w fun e w' => ∃ ov, e = .returned ov ∧ Below w.heap.size w w' ∧ w'.ownsRow w.heap.size 9 1 ov (valsOf L s ps).length (strsV (valsOf L s ps)) := by
  obtain ⟨la, lc, rfl, -⟩ := hV.slice_
  obtain ⟨pa, pc, rfl, pn1, pn2, hpc⟩ := hP
  obtain ⟨n, hnn⟩ : ∃ n, n = ps.length := ⟨_, rfl⟩
  rw [← hnn] at hn pn1 hpc ⊢
  have H := Lib.hid (And.intro hL (And.intro hV (And.intro hF (And.intro hpc (And.intro hps hnn)))))
  unfold maxLen at pn2
  clear hL hV hF hpc hps hnn
  go_enter Tryz.func30, Tryz.ntmps30
  go_wp2_with fail
  go_loopw [7, 8] (fun ov iv wr => ∃ (k m : Nat) (oa : Option Addr) (oc : Nat), k ≤ n ∧ m ≤ k ∧ ov = .slice oa m oc ∧ iv = .int .i64 k ∧ Hid (Below w.heap.size w wr ∧ m = (valsOf L s (ps.take k)).length ∧ wr.ownsRow w.heap.size 9 1 (.slice oa m oc) m (strsV (valsOf L s (ps.take k))))) (fun _ iv _ => n - (intOf iv).toNat)
  case atStart => exact ⟨0, 0, none, 0, Nat.zero_le _, Nat.le_refl _, rfl, rfl, Lib.hid ⟨Below.refl _ _, rfl, rfl, .inl ⟨rfl, rfl⟩⟩⟩
  case round =>
    obtain ⟨k, m, oa, oc, hk, hmk, rfl, rfl, HI⟩ := hrel
    obtain ⟨wq, rfl⟩ : ∃ wq, wq = wr := ⟨_, rfl⟩
    by_cases hlt : k < n
    · obtain ⟨p, hp⟩ : ∃ p, ps[k]? = some p := ⟨_, List.getElem?_eq_getElem (by have := H.out.2.2.2.2.2; omega)⟩
      obtain ⟨i, fk, st, en, p1, p2, p3, p4, p5, p6, p7, p8⟩ := H.out.2.2.2.2.1 p (List.mem_of_getElem? hp)
      obtain ⟨b, off, rfl, lb, hcell⟩ := H.out.2.2.2.1.resolve_left (by omega)
      have lbq : b < wq.heap.size := Nat.lt_of_lt_of_le lb HI.out.1.size
      obtain ⟨q0, hq0⟩ : ∃ z, z = p.depth := ⟨_, rfl⟩
      obtain ⟨q1, hq1⟩ : ∃ z, z = p.format := ⟨_, rfl⟩
      obtain ⟨q5, hq5⟩ : ∃ z, z = p.number := ⟨_, rfl⟩
      have hc : ∀ j, j < 6 → wq.cell? ⟨b, off + (k * 6 + j), none⟩ = (ptC p)[j]? := fun j hj => (HI.out.1.cell (p := ⟨b, off + (k * 6 + j), none⟩) lb).trans ((hcell (k * 6 + j) (by omega)).trans (flatP_get ps k j p hp hj))
      have c0 : wq.cell? ⟨b, off + k * 6, none⟩ = some (.int .i64 q0) := by have := hc 0 (by omega); rw [hq0]; exact this
      have c1 : wq.cell? ⟨b, off + k * 6 + 1, none⟩ = some (.int .i64 q1) := by have := hc 1 (by omega); rw [← Nat.add_assoc] at this; rw [hq1]; exact this
      have c2 : wq.cell? ⟨b, off + k * 6 + 2, none⟩ = some (.int .i64 (fk : Nat)) := by have := hc 2 (by omega); rw [← Nat.add_assoc] at this; rw [← p2]; exact this
      have c3 : wq.cell? ⟨b, off + k * 6 + 3, none⟩ = some (.int .i64 (st : Nat)) := by have := hc 3 (by omega); rw [← Nat.add_assoc] at this; rw [← p4]; exact this
      have c4 : wq.cell? ⟨b, off + k * 6 + 4, none⟩ = some (.int .i64 (en : Nat)) := by have := hc 4 (by omega); rw [← Nat.add_assoc] at this; rw [← p5]; exact this
      have c5 : wq.cell? ⟨b, off + k * 6 + 5, none⟩ = some (.int .i64 q5) := by have := hc 5 (by omega); rw [← Nat.add_assoc] at this; rw [hq5]; exact this
      have i0 : 0 ≤ (k : Int) := by omega
      have i1 : (k : Int) < (n : Int) := by omega
      have k0 : (0 : Int) ≤ (st : Int) ∧ (st : Int) ≤ (en : Int) ∧ (en : Int) ≤ (s.size : Int) := by omega
      obtain ⟨W1, hW1⟩ : ∃ W1, W1 = wq.alloc (.cells #[.int .i64 q0, .int .i64 q1, .int .i64 (fk : Nat), .int .i64 (st : Nat), .int .i64 (en : Nat), .int .i64 q5] 26) := ⟨_, rfl⟩
      have hb1 : Below wq.heap.size wq W1 := by rw [hW1]; exact bx _
      have hB1 : Blk W1 wq.heap.size 26 #[.int .i64 q0, .int .i64 q1, .int .i64 (fk : Nat), .int .i64 (st : Nat), .int .i64 (en : Nat), .int .i64 q5] := by rw [hW1]; exact Blk.new wq _ _
      have x1 : W1.cell? ⟨wq.heap.size, 1, none⟩ = some (.int .i64 q1) := by rw [hB1.cell]; rfl
      have x1' := x1
      rw [hW1] at x1'
      have hF := rFind3_any _ L q1 W1 (fms_below H.out.2.1 (HI.out.1.trans (hb1.mono HI.out.1.size))) H.out.2.2.1
      rw [find_at H.out.1 (by rw [hq1]; exact p1)] at hF
      have HF := Lib.hid (And.intro hF (And.intro hb1 hB1))
      have HP := Lib.hid (And.intro hp (And.intro hq1 (And.intro p1 (And.intro p2 (And.intro p3 (And.intro p4 p5))))))
      clear hc hcell hF hb1 hB1 hq0 hq5 hp hq1 p1 p2 p3 p4 p5 p6 p7 p8
      go_wp2_with fail
      rw [← hW1]
      clear hW1 x1'
      refine HF.out.1.mono ?_
      rintro e w5 ⟨⟨v, rfl, hv1, hv2⟩, hB5⟩
      obtain ⟨fa, fc, rfl, -⟩ := hv1.slice_
      obtain ⟨fq, hfq⟩ : ∃ fq, fq = (L.getD i zm).fs := ⟨_, rfl⟩
      obtain ⟨mq, hmq⟩ : ∃ mq, mq = fq.length := ⟨_, rfl⟩
      rw [← hfq] at hv1 ⊢
      rw [← hmq] at hv1 ⊢
      obtain ⟨W6, hW6⟩ : ∃ W6, W6 = w5.alloc (.cells #[.int .i64 q1, .slice fa mq fc] 52) := ⟨_, rfl⟩
      have hb6 : Below w5.heap.size w5 W6 := by rw [hW6]; exact bx _
      have hfb : Blk W6 w5.heap.size 52 #[.int .i64 q1, .slice fa mq fc] := by rw [hW6]; exact Blk.new w5 _ _
      have hpb : Blk W6 wq.heap.size 26 #[.int .i64 q0, .int .i64 q1, .int .i64 (fk : Nat), .int .i64 (st : Nat), .int .i64 (en : Nat), .int .i64 q5] := (hb6.block _ (Nat.lt_of_lt_of_le HF.out.2.2.lt hB5.size)).trans ((hB5.block _ HF.out.2.2.lt).trans HF.out.2.2)
      have hbq : Below wq.heap.size wq W6 := HF.out.2.1.trans ((hB5.mono HF.out.2.1.size).trans (hb6.mono (Nat.le_trans HF.out.2.1.size hB5.size)))
      have hgv := given_any q1 (.slice fa mq fc) fq fk W6 (by rw [hmq] at hv1 ⊢; exact hv1.below hb6) (by rw [hfq]; exact HP.out.2.2.2.2.1)
      have f0 : W6.cell? ⟨w5.heap.size, 0, none⟩ = some (.int .i64 q1) := by rw [hfb.cell]; rfl
      have f1 : W6.cell? ⟨w5.heap.size, 1, none⟩ = some (.slice fa mq fc) := by rw [hfb.cell]; rfl
      have y2 : W6.cell? ⟨wq.heap.size, 2, none⟩ = some (.int .i64 (fk : Nat)) := by rw [hpb.cell]; rfl
      have f0x := f0
      have f1x := f1
      have y2x := y2
      rw [hW6] at f0x f1x y2x
      have HG := Lib.hid (And.intro hgv (And.intro hbq (And.intro hpb (show fq = fieldsOf L q1 from by rw [hfq, HP.out.2.1]; exact (fieldsOf_at H.out.1 HP.out.2.2.1).symm))))
      clear hv1 hv2 hB5 hfq hmq hb6 hfb hpb hbq hgv x1
      go_wp2_with fail
      rw [← hW6]
      clear hW6 f0x f1x y2x f0 f1 y2
      refine HG.out.1.mono ?_
      rintro e w8 ⟨rfl, hB8⟩
      have hpb8 : Blk w8 wq.heap.size 26 #[.int .i64 q0, .int .i64 q1, .int .i64 (fk : Nat), .int .i64 (st : Nat), .int .i64 (en : Nat), .int .i64 q5] := (hB8.block _ HG.out.2.2.1.lt).trans HG.out.2.2.1
      have hbw : Below w.heap.size w w8 := HI.out.1.trans ((HG.out.2.1.trans (hB8.mono HG.out.2.1.size)).mono HI.out.1.size)
      have hrow8 := ownsRow_below HI.out.2.2 (HG.out.2.1.trans (hB8.mono HG.out.2.1.size))
      have hstep : ps.take (k + 1) = ps.take k ++ [p] := by
        rw [List.take_add_one, HP.out.1]; rfl
      obtain ⟨gv, hgq⟩ : ∃ gv, gv = givenB fq fk := ⟨_, rfl⟩
      rw [← hgq]
      have hgv2 : givenB (fieldsOf L p.format) p.field.toNat = gv := by rw [HP.out.2.2.2.1, Int.toNat_natCast, ← HP.out.2.1, ← HG.out.2.2.2, hgq]
      have HV := Lib.hid (And.intro hbw (And.intro hrow8 (And.intro hstep hgv2)))
      clear hB8 hbw hrow8 hstep hgq hgv2
      cases gv with
      | true =>
        have z3 : w8.cell? ⟨wq.heap.size, 3, none⟩ = some (.int .i64 (st : Nat)) := by rw [hpb8.cell]; rfl
        have z4 : w8.cell? ⟨wq.heap.size, 4, none⟩ = some (.int .i64 (en : Nat)) := by rw [hpb8.cell]; rfl
        clear hpb8
        go_wp2_with (at_builtin; refine wpList_append_strB rfl (.tmp 33) (.tmp 40) rfl w.heap.size (by have := HV.out.1.size; simp; omega) (.slice oa m oc) m (strsV (valsOf L s (ps.take k))) rfl (ownsRow_below HV.out.2.1 (bx _)) (by omega) w8.heap.size (s.extract st en) rfl (heap_alloc_new _ _) ?_; intro v1 wA hG; have HA := Lib.hid hG; obtain ⟨a9, c9, rfl⟩ : ∃ a c, v1 = .slice a (m + 1) c := (by rcases hG.own.2 with ⟨_, h0⟩ | ⟨g, cap, cur, rfl, _⟩ <;> first | exact ⟨_, _, rfl⟩ | omega); clear hG)
        have hvs : valsOf L s (ps.take (k + 1)) = valsOf L s (ps.take k) ++ [s.extract st en] := by
          rw [HV.out.2.2.1, valsOf_app, valsOf_yes HV.out.2.2.2, HP.out.2.2.2.2.2.1, HP.out.2.2.2.2.2.2, Int.toNat_natCast, Int.toNat_natCast]; rfl
        refine ⟨⟨k + 1, m + 1, _, _, by omega, by omega, rfl, by go_num, Lib.hid ⟨?_, ?_, ?_⟩⟩, by simp [intOf]; omega⟩
        · exact (HV.out.1.trans ((bx _).mono HV.out.1.size)).trans (grown_below HA.out (ownsRow_below HV.out.2.1 (bx _)) (by have := HV.out.1.size; simp; omega))
        · rw [hvs, List.length_append, ← HI.out.2.1]; rfl
        · rw [hvs]
          have e : strsV (valsOf L s (ps.take k) ++ [s.extract st en]) = strsV (valsOf L s (ps.take k)) ++ [.string (s.extract st en)] := by simp [strsV]
          rw [e]
          exact HA.out.own
      | false =>
        clear hpb8
        go_wp2_with fail
        have hvs : valsOf L s (ps.take (k + 1)) = valsOf L s (ps.take k) := by
          rw [HV.out.2.2.1, valsOf_app, valsOf_no HV.out.2.2.2]; simp [valsOf]
        refine ⟨⟨k + 1, m, _, _, by omega, by omega, rfl, by go_num, Lib.hid ⟨HV.out.1, ?_, ?_⟩⟩, by simp [intOf]; omega⟩
        · rw [hvs]; exact HI.out.2.1
        · rw [hvs]; exact HV.out.2.1
    · obtain rfl : k = n := by omega
      have ht : ps.take k = ps := List.take_of_length_le (by have := H.out.2.2.2.2.2; omega)
      go_wp2_with fail
      first | go_end0 | go_ret
      refine ⟨_, rfl, HI.out.1, ?_⟩
      have h2 := HI.out.2.2
      have h3 := HI.out.2.1
      rw [ht] at h2 h3
      rw [← h3]
      exact h2
end ValA
section AppA
open Go.RowKit Fx Rec

theorem szStr5 (w : World) : (sizeOf 9).run Tryz.prog w = .ok 1 w := by kernel_rfl
theorem storeCells_nil (p : Addr) (w : World) : (storeCells p []).run Tryz.prog w = .ok () w := by first | rfl | (unfold storeCells; rfl) | simp [storeCells]
theorem run_append_strs (w : World) (base : Nat) (hb : base ≤ w.heap.size) (ty : TypeId) (v vx : Value) (l l2 : List ByteArray) (n m : Nat) (hm : m = l2.length) (hown : w.ownsRow base 9 1 v n (strsV l)) (hx : RowA w 1 vx m (strG l2)) (hl : n + m ≤ 200000000) :
    ∃ v' w', (Builtin.append_ #[34, 34] ty #[v, vx]).run Tryz.prog w = .ok v' w' ∧ w'.ownsRow base 9 1 v' (n + m) (strsV (l ++ l2)) ∧ Below base w w' := by
  obtain ⟨i0, hi, hz0, hz1, hz2⟩ := info_parts infoStr
  obtain ⟨a, c, rfl, k1, k2, k3⟩ := hx
  subst hm
  have hle : strsV (l ++ l2) = strsV l ++ strsV l2 := by simp [strsV]
  rcases Nat.eq_zero_or_pos l2.length with h0 | hpos
  · have h0' : l2 = [] := List.eq_nil_of_length_eq_zero h0
    subst h0'
    have hfc : ∀ a c, (Builtin.firstCells 1 0 (.slice a 0 c)).run Tryz.prog w = .ok #[] w := by
      intro a c
      cases a with
      | none => exact run_firstCells_none w 1 0 0 c
      | some a => exact run_firstCells_some w 1 0 a 0 c [] rfl (fun j u h => by simp at h)
    have hu := Tryz.underlying34
    have hsz := szStr5 w
    refine ⟨v, w, ?_, by rw [List.append_nil]; exact hown, Below.refl _ _⟩
    rcases hown.2 with ⟨rfl, e0⟩ | ⟨g, cap, cur, rfl, _, _, e1, _⟩
    · simp [Builtin.append_, underlying, hu, hsz, Sem.run_bind, Result.andThen, Builtin.lenOf, hfc]
    · simp [Builtin.append_, underlying, hu, hsz, Sem.run_bind, Result.andThen, Builtin.lenOf, hfc, e1, storeCells_nil]
  · obtain ⟨b, off, rfl, lb, hc⟩ := k3.resolve_left (by omega)
    obtain ⟨v', w', h1, h2, h3, _⟩ := run_append_own_at (P := Tryz.prog) w base 34 ty 9 i0 _ 1 16 Tryz.underlying34 hi hz0 hz1 hz2 rfl (by decide) v n (strsV l) hown ⟨b, off, none⟩ l2.length c (strsV l2) (by simp [strsV])
      (fun j u hu => by
        have hadd : (⟨b, off, none⟩ : Addr).add j = ⟨b, off + j, none⟩ := by cases j <;> simp [Addr.add]
        have hj : j < l2.length := by
          have := (List.getElem?_eq_some_iff.1 hu).1
          simpa [strsV] using this
        rw [hadd, hc j (by omega)]
        exact hu)
      (fun u hu => by
        obtain ⟨y, _, rfl⟩ := List.mem_map.1 hu
        rfl) (by unfold maxLen; omega) (by omega) hb
    refine ⟨v', w', h1, by rw [hle]; exact h2, (Below.refl base w).grown h3 hb (fun k e => (World.ownsRow.lt hown k e).1)⟩
theorem wpList_append_strs {ops : Array Oper} {rest : List Oper} {o : Oper} {a : Act} {w : World} {Q : Exit → Act → World → Prop} (hgd : o.guard = none) (s x : Operand)
    (hop : o.op = Op.call { callee := Callee.builtin Builtin.append, args := #[s, x], argTypes := #[34, 34] })
    (base : Nat) (hb : base ≤ w.heap.size) (v vx : Value) (l l2 : List ByteArray) (n m : Nat) (hm : m = l2.length) (hs : a.eval s = v) (hown : w.ownsRow base 9 1 v n (strsV l)) (hx : a.eval x = vx) (hlx : RowA w 1 vx m (strG l2)) (hl : n + m ≤ 200000000)
    (h : ∀ v' w', w'.ownsRow base 9 1 v' (n + m) (strsV (l ++ l2)) → Below base w w' → wpList Tryz.prog ops Q rest (a.put o.dst v') w') :
    wpList Tryz.prog ops Q (o :: rest) a w := by
  refine wpList_plain hgd fun K hK => ?_
  obtain ⟨v', w', hr, h2, h3⟩ := run_append_strs w base hb o.type v vx l l2 n m hm hown hlx hl
  unfold Oper.wp execOp
  simp only [hop, resolve, invoke, builtin, Sem.run_bind, Sem.run_pure, Result.andThen_ok, List.map_toArray, List.map_cons, List.map_nil, hs, hx, hr]
  exact hK _ _ (h v' w' h2 h3)
/-- An empty row of the call's own. -/
theorem own_fresh (w : World) : (w.alloc (.cells #[] 9)).ownsRow w.heap.size 9 1 (.slice (some ⟨w.heap.size, 0, none⟩) 0 0) 0 [] :=
  ⟨rfl, .inr ⟨w.heap.size, 0, #[], rfl, Nat.le_refl _, heap_alloc_new _ _, Nat.le_refl _, by unfold maxLen; omega, rfl, rfl⟩⟩
theorem row_one (w : World) (b : Nat) (x : ByteArray) (h : Blk w b 9 #[.string x]) : RowA w 1 (.slice (some ⟨b, 0, none⟩) 1 1) 1 (strG [x]) :=
  ⟨_, 1, rfl, Nat.le_refl _, by unfold maxLen; omega, .inr ⟨b, 0, rfl, h.lt, fun j hj => by
    obtain rfl : j = 0 := by omega
    rw [Nat.zero_add, h.cell]; rfl⟩⟩
end AppA
section RtC
open Go.RowKit Fx Rec
namespace Rt

theorem fwd_flds {L : List Fm} {N : Nat} {sub : WSub} {rsub : Sub} {fs : List Fld} {s : ByteArray} {start : Nat} {id depth : Int} {limit cnt : Nat} (hG : Good L N fs) (hid : fieldsOf L id = fs)
    (hsub : ∀ k, k < fs.length → (fs.getD k zf).kind = 4 ∨ (fs.getD k zf).kind = 5 → KeepsS sub (fs.getD k zf).n ∧ FS L s sub rsub (fs.getD k zf).n) (hl2 : limit ≤ s.size) :
    ∀ (t : List Fld) (k : Nat) (d : Dr) (σ σ' : Ws) (nums : List Int) (ps : List Pt), t = fs.drop k → k ≤ fs.length → LInv s fs start k d σ nums → flds s rsub id depth start limit cnt fs k = .ok (σ.st.length, nums, ps) → cnt + ps.length = σ.parts →
      wflds sub fs start t k d σ = some σ' → Fits s.data.toList start σ' → σ'.st.length ≤ limit →
      ∃ nums' qs, flds s rsub id depth start limit cnt fs fs.length = .ok (σ'.st.length, nums', ps ++ qs) ∧ cnt + (ps ++ qs).length = σ'.parts ∧ σ.vals = valsOf L s qs ++ σ'.vals
  | [], k, d, σ, σ', nums, ps, ht, hk, hI, hr, hc, e, hF, hl => by
    rw [wflds] at e
    cases e
    have hk2 : k = fs.length := by
      have := congrArg List.length ht
      simp only [List.length_nil, List.length_drop] at this
      omega
    subst hk2
    exact ⟨nums, [], by rw [hr, List.append_nil], by rw [List.append_nil]; exact hc, rfl⟩
  | f :: t, k, d, σ, σ', nums, ps, ht, hk, hI, hr, hc, e, hF, hl => by
    obtain ⟨hk, rfl, ht2⟩ := drop_cons ht
    rw [wflds, Option.bind_eq_some_iff] at e
    obtain ⟨p, e1, e2⟩ := e
    have hks : ∀ k, k < fs.length → (fs.getD k zf).kind = 4 ∨ (fs.getD k zf).kind = 5 → KeepsS sub (fs.getD k zf).n := fun k hk hkd => (hsub k hk hkd).1
    obtain ⟨g1, g2⟩ := wnext_out (hG.ok k hk) hI.lens (fun hkd => (hks k hk hkd).grows) hI.win e1
    obtain ⟨h5, e3⟩ := wnext_eq e1
    have hK := wkind_keep (hG.ok k hk) hI.lens (hks k hk) (winMore hI.win) e3
    obtain ⟨r1, r2, r3, r5, r4⟩ := wflds_keep hG hks t (k + 1) _ _ σ' ht2 (by simp [hI.lens]) g1 e2
    have hA : Ag s start ⟨d.counts ++ [p.1], d.lens ++ [p.2.1]⟩ (fs.drop (k + 1)) p.2.2 := fun i i1 i2 i3 i4 => by
      rw [hF.st i i1 (Nat.lt_of_lt_of_le i2 r2) (r3.out i2 i3)]
      exact r4 i i2 (by rw [ht2]; exact i4)
    obtain ⟨n, qs, a1, a2, a3, a4, a5⟩ := fwd_kind hG hk hI hid (hsub k hk) e3 hA (fun c hc => hF.ck c (r3.sub hc)) (Nat.le_trans r2 hl) hl2 (id := id) (depth := depth)
    have hI2 : LInv s fs start (k + 1) ⟨d.counts ++ [p.1], d.lens ++ [p.2.1]⟩ p.2.2 (nums ++ [n]) := hI.next ⟨hK.st, hK.ck, hK.box_, hK.top⟩ g1 g2 a4 a5
    have hr2 : flds s rsub id depth start limit cnt fs (k + 1) = .ok (p.2.2.st.length, nums ++ [n], ps ++ (⟨depth, id, (k : Int), (σ.st.length : Nat), (p.2.2.st.length : Nat), n⟩ :: qs)) := by
      rw [flds, hr]
      simp only
      have hn : next s rsub id depth start limit k (fs.getD k zf) nums σ.st.length (cnt + ps.length) = .ok (p.2.2.st.length, n, qs) := by
        unfold next
        rw [if_neg (by omega), hc]
        exact a1
      rw [hn]
    obtain ⟨nums', qs', b1, b2, b3⟩ := fwd_flds hG hid hsub hl2 t (k + 1) _ p.2.2 σ' _ _ ht2 (by omega) hI2 hr2 (by rw [List.length_append, List.length_cons]; omega) e2 hF hl
    rw [List.append_assoc] at b1 b2
    exact ⟨nums', _, b1, b2, by rw [valsOf_app, List.append_assoc, ← b3]; exact a3⟩
theorem fwd_val {L : List Fm} (h : Ok L) (s : ByteArray) : ∀ (n : Nat) (id : Int) (i : Nat), At L id i → i < n → FS L s (wval L n) (val L s n) id
  | 0, _, _, _, hi => absurd hi (Nat.not_lt_zero _)
  | n + 1, id, i, hat, hi => fun σ σ' e ht hF depth limit hl hl2 => by
    have e : wflds (wval L n) (fieldsOf L id) σ.st.length (fieldsOf L id) 0 ⟨[], []⟩ σ = some σ' := e
    have hfo := fieldsOf_at h hat
    rw [hfo] at e
    obtain ⟨nums', qs, b1, b2, b3⟩ := fwd_flds (cnt := σ.parts) (depth := depth) (good_of h hat.1 (show i ≤ n by omega)) hfo (fun k hk hkd => by
      obtain ⟨-, j, hj, hjn⟩ := (fokw_of h hat.1 (show i ≤ n by omega) hk).ok.k4 hkd
      exact ⟨wval_keeps h n _ j hj hjn, fwd_val h s n _ j hj hjn⟩) hl2 _ 0 ⟨[], []⟩ σ σ' [] [] rfl (Nat.zero_le _) (LInv.first ht) rfl rfl e hF hl
    refine ⟨qs, ?_, b2.symm, b3⟩
    show Rec.ends (flds s (val L s n) id depth σ.st.length limit σ.parts (fieldsOf L id) (fieldsOf L id).length) = _
    rw [hfo, b1]
    rfl
/-! the checksums that are laid -/
theorem sumOf_ext {S T : List UInt8} {n : Nat} (h : ∀ i, i < n → S[i]? = T[i]?) : sumOf S n = sumOf T n := by
  unfold sumOf
  congr 1
  apply List.ext_getElem?
  intro i
  rw [List.getElem?_take, List.getElem?_take]
  split
  · exact h i (by assumption)
  · rfl
theorem lay_all : ∀ (cs : List Ck) (st : List UInt8), (∀ c, c ∈ cs → c.1 ≤ c.2.1 ∧ c.2.1 + c.2.2 ≤ st.length) → cs.Pairwise (fun a b => a.2.1 + a.2.2 ≤ b.2.1) →
    (layAll st cs).length = st.length ∧ (∀ i, ¬ InC cs i → (layAll st cs)[i]? = st[i]?) ∧ ∀ c, c ∈ cs → chk (layAll st cs) c
  | [], st, _, _ => ⟨rfl, fun _ _ => rfl, fun _ h => absurd h (List.not_mem_nil)⟩
  | c :: t, st, hc, hp => by
    rw [List.pairwise_cons] at hp
    have h0 := hc c (List.mem_cons_self ..)
    have hb : c.2.1 + (nbytes c.2.2 ((sumOf st c.2.1 - sumOf st c.1) % 256 ^ c.2.2)).length ≤ st.length := by rw [nbytes_len]; exact h0.2
    have hl : (lay1 st c).length = st.length := patch_len _ _ _ hb
    obtain ⟨a1, a2, a3⟩ := lay_all t (lay1 st c) (fun x hx => by rw [hl]; exact hc x (List.mem_cons_of_mem _ hx)) hp.2
    have e : layAll st (c :: t) = layAll (lay1 st c) t := rfl
    rw [e]
    have hlow : ∀ i, i < c.2.1 + c.2.2 → ¬ InC t i := fun i hi => by
      rintro ⟨x, hx, h1, _⟩
      have := hp.1 x hx
      omega
    have hbef : ∀ i, i < c.2.1 → (layAll (lay1 st c) t)[i]? = st[i]? := fun i hi => by
      rw [a2 i (hlow i (by omega))]
      exact patch_out hb (.inl hi)
    refine ⟨by rw [a1, hl], fun i hi => ?_, fun x hx => ?_⟩
    · rw [a2 i fun ⟨x, hx, h1⟩ => hi ⟨x, List.mem_cons_of_mem _ hx, h1⟩]
      refine patch_out hb ?_
      rw [nbytes_len]
      apply Classical.byContradiction
      intro hn
      exact hi ⟨c, List.mem_cons_self .., by omega, by omega⟩
    · rcases List.mem_cons.1 hx with rfl | hx
      · unfold chk
        rw [sumOf_ext (T := st) (n := x.1) (fun i hi => hbef i (by omega)), sumOf_ext (T := st) (n := x.2.1) hbef]
        have e2 := seg_all (nbytes x.2.2 ((sumOf st x.2.1 - sumOf st x.1) % 256 ^ x.2.2))
        rw [nbytes_len] at e2
        rw [← e2]
        refine seg_ext fun i hi => ?_
        rw [a2 _ (hlow _ (by omega)), Nat.zero_add]
        exact patch_in hb (by rw [nbytes_len]; exact hi)
      · exact a3 x hx
theorem start_tame {vs : List ByteArray} (h : Short vs) : Tame ⟨[], vs, 0, []⟩ := ⟨h, Nat.le_refl _, fun _ h => absurd h (List.not_mem_nil), .nil⟩
theorem later_strict {σ σ' : Ws} (h : Later σ σ') (h0 : σ.checks = []) : σ'.checks.Pairwise fun a b => a.2.1 + a.2.2 ≤ b.2.1 := by
  obtain ⟨x, e, _, h2⟩ := h
  rw [e, h0]
  exact h2
theorem writ_some {L : List Fm} {id : Int} {vs : List ByteArray} {s : ByteArray} (h : writ L id vs = some s) : Ok L ∧ ∃ i σ, At L id i ∧ wval L 61 id ⟨[], vs, 0, []⟩ = some σ ∧ σ.vals = [] ∧ s = bytesOf (layAll σ.st σ.checks) := by
  unfold writ at h
  split at h
  · rename_i hv
    unfold wwhole at h
    split at h
    · rename_i hh
      rw [Option.bind_eq_some_iff] at h
      obtain ⟨σ, e1, e2⟩ := h
      split at e2
      · rename_i hvs
        cases e2
        obtain ⟨i, ha⟩ := has_iff.1 hh
        exact ⟨vd_iff.1 hv, i, σ, ha, e1, hvs, rfl⟩
      · cases e2
    · cases h
  · cases h
/-- A stream that is written is of the format, and has the values that were given. -/
theorem wrote {L : List Fm} {id : Int} {vs : List ByteArray} {s : ByteArray} (h : writ L id vs = some s) (hs : Short vs) : ∃ ps, mtch L id s = .ok ps ∧ valsOf L s ps = vs := by
  obtain ⟨hok, i, σ, ha, e1, e2, rfl⟩ := writ_some h
  have hi : i < 61 := by have := ha.1; have := hok.few; omega
  obtain ⟨ht, hk⟩ := wval_keeps hok 61 id i ha hi _ _ e1 (start_tame hs)
  obtain ⟨a1, a2, a3⟩ := lay_all σ.checks σ.st (fun c hc => ⟨(ht.each c hc).1, (ht.each c hc).2.2.2⟩) (later_strict hk.ck rfl)
  have hF : Fits (bytesOf (layAll σ.st σ.checks)).data.toList 0 σ := ⟨fun i _ _ h3 => a2 i h3, fun c hc _ => a3 c hc⟩
  have hsz : (bytesOf (layAll σ.st σ.checks)).size = σ.st.length := by rw [← size_list, bytes_list, a1]
  obtain ⟨ps, b1, b2, b3⟩ := fwd_val hok _ 61 id i ha hi _ _ e1 (start_tame hs) hF 0 σ.st.length (Nat.le_refl _) (by rw [hsz]; exact Nat.le_refl _)
  refine ⟨ps, ?_, ?_⟩
  · unfold mtch whole
    rw [if_pos ⟨vd_iff.2 hok, by rw [hsz]; exact hk.top (Nat.zero_le _)⟩, if_pos (has_iff.2 ⟨i, ha⟩), hsz, show val L (bytesOf (layAll σ.st σ.checks)) 61 id 0 0 σ.st.length 0 = _ from b1]
    simp only
    rw [if_neg (by omega)]
  · rw [e2, List.append_nil] at b3
    exact b3.symm
/-! more values are not taken -/
def addV (r : List ByteArray) (σ : Ws) : Ws := { σ with vals := σ.vals ++ r }
abbrev More (sub : WSub) (id : Int) (r : List ByteArray) : Prop := ∀ σ σ', sub id σ = some σ' → sub id (addV r σ) = some (addV r σ')
theorem more_reps {sub : WSub} {id : Int} {r : List ByteArray} (h : More sub id r) : ∀ n σ σ', wreps sub id n σ = some σ' → wreps sub id n (addV r σ) = some (addV r σ')
  | 0, σ, σ', e => by rw [wreps] at e ⊢; cases e; rfl
  | n + 1, σ, σ', e => by
    rw [wreps, Option.bind_eq_some_iff] at e
    obtain ⟨σ1, e1, e2⟩ := e
    rw [wreps, h _ _ e1]
    exact more_reps h n _ _ e2
def addL (r : List ByteArray) (p : Rec.Left) : Rec.Left := (p.1, p.2.1, addV r p.2.2)
theorem more_addW {r : List ByteArray} {b : List UInt8} {σ σ' : Ws} (e : addW σ b = some σ') : addW (addV r σ) b = some (addV r σ') := by
  unfold addW at e ⊢
  split at e
  · rename_i h
    cases e
    rw [if_pos (by exact h)]; rfl
  · cases e
theorem more_nextW {r : List ByteArray} {x : ByteArray} {σ σ' : Ws} (e : nextW σ = some (x, σ')) : nextW (addV r σ) = some (x, addV r σ') := by
  obtain ⟨h1, h2⟩ := nextW_eq e
  unfold nextW addV
  simp only [h2, List.cons_append]
  rw [h1]
theorem more_fill {r : List ByteArray} {h : Nat × Nat} {n : Int} {σ σ' : Ws} (e : fill σ h n = some σ') : fill (addV r σ) h n = some (addV r σ') := by
  obtain ⟨h1, rfl⟩ := fill_eq e
  unfold fill
  rw [if_pos h1]; rfl
theorem more_kind {sub : WSub} {fs : List Fld} {start k : Nat} {f : Fld} {d : Dr} {r : List ByteArray} {σ : Ws} {p : Rec.Left} (hsub : f.kind = 4 ∨ f.kind = 5 → More sub f.n r) (e : wkind sub fs start k f d σ = some p) : wkind sub fs start k f d (addV r σ) = some (addL r p) := by
  unfold wkind at e ⊢
  split at e
  · rename_i h1
    rw [if_pos h1]
    unfold wtext at e ⊢
    rw [Option.map_eq_some_iff] at e
    obtain ⟨σ1, e1, rfl⟩ := e
    rw [more_addW e1]; rfl
  · rename_i h1
    rw [if_neg h1]
    split at e
    · rename_i h2
      rw [if_pos h2]
      split at e
      · rename_i hw
        rw [if_pos hw]
        unfold wwait at e ⊢
        rw [Option.map_eq_some_iff] at e
        obtain ⟨σ1, e1, rfl⟩ := e
        rw [more_addW e1]; rfl
      · rename_i hw
        rw [if_neg hw]
        unfold wgiven at e ⊢
        rw [Option.bind_eq_some_iff] at e
        obtain ⟨⟨x, σ0⟩, e0, e⟩ := e
        rw [more_nextW e0]
        simp only [Option.bind_some] at e ⊢
        split at e
        · rename_i hx
          rw [if_pos hx]
          rw [Option.map_eq_some_iff] at e
          obtain ⟨σ1, e1, rfl⟩ := e
          rw [more_addW e1]; rfl
        · cases e
    · rename_i h2
      rw [if_neg h2]
      split at e
      · rename_i h3
        rw [if_pos h3]
        unfold wbytes at e ⊢
        rw [Option.bind_eq_some_iff] at e
        obtain ⟨⟨x, σ0⟩, e0, e⟩ := e
        rw [Option.bind_eq_some_iff] at e
        obtain ⟨σ1, e1, e⟩ := e
        rw [more_nextW e0]
        simp only [Option.bind_some]
        rw [more_addW e1]
        simp only [Option.bind_some] at e ⊢
        split at e
        · rename_i hfm
          rw [if_pos hfm]
          split at e
          · rename_i hx
            rw [if_pos hx]
            cases e; rfl
          · cases e
        · rename_i hfm
          rw [if_neg hfm]
          rw [Option.map_eq_some_iff] at e
          obtain ⟨σ2, e2, rfl⟩ := e
          rw [more_fill e2]; rfl
      · rename_i h3
        rw [if_neg h3]
        split at e
        · rename_i h4
          rw [if_pos h4]
          unfold wlist at e ⊢
          rw [Option.map_eq_some_iff] at e
          obtain ⟨σ1, e1, rfl⟩ := e
          rw [more_reps (hsub (.inl h4)) _ _ _ e1]; rfl
        · rename_i h4
          rw [if_neg h4]
          split at e
          · rename_i h5
            rw [if_pos h5]
            unfold winside at e ⊢
            rw [Option.bind_eq_some_iff] at e
            obtain ⟨σ1, e1, e⟩ := e
            rw [hsub (.inr h5) _ _ e1]
            simp only [Option.bind_some]
            rw [Option.map_eq_some_iff] at e
            obtain ⟨σ2, e2, rfl⟩ := e
            rw [show fill (addV r σ1) (d.lens.getD f.frm.toNat (0, 0)) (((addV r σ1).st.length : Int) - (addV r σ).st.length) = some (addV r σ2) from more_fill e2]; rfl
          · rename_i h5
            rw [if_neg h5]
            unfold wcheck at e ⊢
            rw [Option.map_eq_some_iff] at e
            obtain ⟨σ1, e1, rfl⟩ := e
            rw [more_addW e1]; rfl
theorem more_flds {sub : WSub} {fs : List Fld} {start : Nat} {r : List ByteArray} : ∀ (t : List Fld), (∀ f, f ∈ t → f.kind = 4 ∨ f.kind = 5 → More sub f.n r) → ∀ k d σ σ', wflds sub fs start t k d σ = some σ' → wflds sub fs start t k d (addV r σ) = some (addV r σ')
  | [], _, _, _, _, _, e => by rw [wflds] at e ⊢; cases e; rfl
  | f :: t, h, k, d, σ, σ', e => by
    rw [wflds, Option.bind_eq_some_iff] at e
    obtain ⟨p, e1, e2⟩ := e
    obtain ⟨h5, e3⟩ := wnext_eq e1
    have e4 := more_kind (r := r) (h f (List.mem_cons_self ..)) e3
    have e5 : wnext sub fs start k f d (addV r σ) = some (addL r p) := by
      unfold wnext
      rw [if_pos (by exact h5)]
      exact e4
    rw [wflds, e5]
    exact more_flds t (fun g hg => h g (List.mem_cons_of_mem _ hg)) _ _ _ _ e2
theorem more_val {L : List Fm} (h : Ok L) (r : List ByteArray) : ∀ (n : Nat) (id : Int) (i : Nat), At L id i → i < n → More (wval L n) id r
  | 0, _, _, _, hi => absurd hi (Nat.not_lt_zero _)
  | n + 1, id, i, hat, hi => fun σ σ' e => by
    have e : wflds (wval L n) (fieldsOf L id) σ.st.length (fieldsOf L id) 0 ⟨[], []⟩ σ = some σ' := e
    show wflds (wval L n) (fieldsOf L id) σ.st.length (fieldsOf L id) 0 ⟨[], []⟩ (addV r σ) = some (addV r σ')
    refine more_flds _ (fun f hf hkd => ?_) _ _ _ _ e
    rw [fieldsOf_at h hat] at hf
    obtain ⟨k, hk, rfl⟩ := mem_getD hf
    obtain ⟨-, j, hj, hjn⟩ := (fokw_of h hat.1 (show i ≤ n by omega) hk).ok.k4 hkd
    exact more_val h r n _ j hj hjn
/-- With one value more there is no stream. -/
theorem wrote_more {L : List Fm} {id : Int} {vs : List ByteArray} {s : ByteArray} (h : writ L id vs = some s) (x : ByteArray) : writ L id (vs ++ [x]) = none := by
  obtain ⟨hok, i, σ, ha, e1, e2, -⟩ := writ_some h
  have hi : i < 61 := by have := ha.1; have := hok.few; omega
  have e3 : wval L 61 id ⟨[], vs ++ [x], 0, []⟩ = some (addV [x] σ) := more_val hok [x] 61 id i ha hi _ _ e1
  unfold writ wwhole
  rw [if_pos (vd_iff.2 hok), if_pos (has_iff.2 ⟨i, ha⟩), e3]
  simp only [Option.bind_some]
  rw [if_neg (by unfold addV; rw [e2]; simp)]
end Rt
end RtC
section WrsL
open Go.RowKit Go.Sort Fx Rec Rt

theorem qs_below {w w' : World} {v : Value} {n : Nat} (h : QsAt w v n) (hb : Below w.heap.size w w') : QsAt w' v n := by
  rcases h with h | ⟨b, off, cap, rfl, h1, h2, h3, h4, h5⟩
  · exact .inl h
  · refine .inr ⟨b, off, cap, rfl, h1, h2, h3, Nat.lt_of_lt_of_le h4 hb.size, fun i j hi hj => ?_⟩
    obtain ⟨z, e, h6⟩ := h5 i j hi hj
    exact ⟨z, (hb.cell (p := ⟨b, off + i * 4 + j, none⟩) h4).trans e, h6⟩
theorem strG_strs (l : List ByteArray) : ∀ j, j < l.length → ∃ z : ByteArray, strG l j = some (.string z) := fun j hj => ⟨l[j], by simp [strG, strsV, List.getElem?_eq_getElem hj]⟩
theorem nice_fs {L : List Fm} (h : Nice L) : ∀ j, j < L.length → (L.getD j zm).fs.length ≤ 1000 := fun j hj => by have := h.fs j hj; omega
set_option maxRecDepth 100000 in
set_option maxHeartbeats 4000000 in
theorem writes_law (xv vv : Value) (xn : Nat) (b : Int) (er : Addr) (w : World) (hQ : QsAt w xv xn) (hV : IntsR w vv) (b1 : -9223372036854775808 ≤ b) (b2 : b ≤ 9223372036854775807) (hR : Ready w er) :
    Calls Tryz.prog 6 #[xv, .int .i64 b, vv] w fun e w' => e = .returned (.bool true) ∧ Below w.heap.size w w' := by
  obtain ⟨xa, xc, rfl, -⟩ := hQ.slice_
  have hV' := hV
  obtain ⟨va, vn, vc, rfl, -⟩ := hV'
  have HA := Lib.hid (And.intro b1 b2)
  have Q1 : Hid (Below w.heap.size w w ∧ Ready w er ∧ IntsR w (.slice va vn vc) ∧ QsAt w (.slice xa xn xc) xn) := Lib.hid ⟨Below.refl _ _, hR, hV, hQ⟩
  clear hR hV hQ b1 b2
  go_enter Tryz.func6, Tryz.ntmps6
  go_wp2_with fail
  refine (sane_any er w Q1.out.2.1).mono ?_
  rintro e w1 ⟨rfl, hB⟩
  have Q2 : Hid (Below w.heap.size w w1 ∧ Ready w1 er ∧ IntsR w1 (.slice va vn vc) ∧ QsAt w1 (.slice xa xn xc) xn) := Lib.hid ⟨below_more Q1.out.1 (Nat.le_refl _) hB, Q1.out.2.1.below hB, Q1.out.2.2.1.below hB, qs_below Q1.out.2.2.2 hB⟩
  clear hB
  go_wp2_with fail
  refine (formats_any _ xn b w1 Q2.out.2.2.2 HA.out.1 HA.out.2).mono ?_
  rintro e w2 ⟨u, L, id, i, rfl, hF⟩
  obtain ⟨bb, off, lc, rfl⟩ := hF.sl
  obtain ⟨m, hm⟩ : ∃ m, m = L.length := ⟨_, rfl⟩
  have hT := hF.tab
  rw [← hm] at hT ⊢
  have Q3 : Hid (Below w.heap.size w w2 ∧ Ready w2 er ∧ IntsR w2 (.slice va vn vc) ∧ TabW w2 (.slice (some ⟨bb, off, none⟩) m lc) L ∧ Nice L ∧ At L id i) := Lib.hid ⟨Q2.out.1.trans (hF.b.mono Q2.out.1.size), Q2.out.2.1.below hF.b, Q2.out.2.2.1.below hF.b, hT, hF.nice, hF.at_⟩
  clear hF hT hm
  go_wp2_with fail
  refine (chosen_use Q3.out.2.2.2.2.1 Q3.out.2.2.2.1 Q3.out.2.2.1).mono ?_
  rintro e w3 ⟨l, n, x, y, rfl, hB, hn, hn9, hs, hA⟩
  obtain ⟨⟨S, E⟩, hw⟩ : ∃ r, wres (writ L id l) = r := ⟨_, rfl⟩
  have Q4 : Hid (Below w.heap.size w w3 ∧ Ready w3 er ∧ TabW w3 (.slice (some ⟨bb, off, none⟩) m lc) L ∧ Nice L ∧ At L id i ∧ RowA w3 1 (.slice x n y) n (strG l) ∧ n = l.length ∧ Short l ∧ wres (writ L id l) = (S, E)) := Lib.hid ⟨Q3.out.1.trans (hB.mono Q3.out.1.size), Q3.out.2.1.below hB, Q3.out.2.2.2.1.below hB, Q3.out.2.2.2.2.1, Q3.out.2.2.2.2.2, hA, hn, hs, hw⟩
  clear hB hA hn hs hw
  go_wp2_with fail
  refine (write_use (S := S) (E := E) Q4.out.2.1 Q4.out.2.2.1 Q4.out.2.2.2.2.2.2.1 Q4.out.2.2.2.2.2.1 Q4.out.2.2.2.2.2.2.2.1 Q4.out.2.2.2.2.2.2.2.2).mono ?_
  rintro e w4 ⟨rfl, hB⟩
  have Q5 : Hid (Below w.heap.size w w4 ∧ Ready w4 er ∧ TabW w4 (.slice (some ⟨bb, off, none⟩) m lc) L ∧ Nice L ∧ At L id i ∧ RowA w4 1 (.slice x n y) n (strG l) ∧ n = l.length ∧ Short l ∧ wres (writ L id l) = (S, E)) := Lib.hid ⟨Q4.out.1.trans (hB.mono Q4.out.1.size), Q4.out.2.1.below hB, Q4.out.2.2.1.below hB, Q4.out.2.2.2.1, Q4.out.2.2.2.2.1, Q4.out.2.2.2.2.2.1.below hB, Q4.out.2.2.2.2.2.2.1, Q4.out.2.2.2.2.2.2.2.1, Q4.out.2.2.2.2.2.2.2.2⟩
  clear hB
  rcases wres_code Q5.out.2.2.2.2.2.2.2.2 with hE | ⟨hE, hS, -⟩
  · subst hE
    have hwr := wres_ok Q5.out.2.2.2.2.2.2.2.2
    obtain ⟨ps, hm, hv⟩ := wrote hwr Q5.out.2.2.2.2.2.2.2.1
    have hmore := wrote_more hwr ⟨#[120]⟩
    obtain ⟨hpp, hp5⟩ := mtch_parts hm
    obtain ⟨np, hnp⟩ : ∃ np, np = ps.length := ⟨_, rfl⟩
    have HM := Lib.hid (And.intro (show mres (mtch L id S) = (ps, ⟨0, 0, 0, 0⟩, 0) by rw [hm]; rfl) (And.intro hnp (And.intro hv (And.intro hpp (And.intro (show wres (writ L id (l ++ [⟨#[120]⟩])) = (ByteArray.empty, 50) by rw [hmore]; rfl) hp5)))))
    clear hwr hm hv hmore hpp hp5 hnp
    go_wp2_with fail
    refine (match_use Q5.out.2.1 Q5.out.2.2.1 HM.out.1 HM.out.2.1).mono ?_
    rintro e w5 ⟨pa, pc, rfl, hB, hA⟩
    have Q6 : Hid (Below w.heap.size w w5 ∧ Ready w5 er ∧ TabW w5 (.slice (some ⟨bb, off, none⟩) m lc) L ∧ Nice L ∧ At L id i ∧ RowA w5 1 (.slice x n y) n (strG l) ∧ n = l.length ∧ Short l ∧ wres (writ L id l) = (S, 0) ∧ RowA w5 6 (.slice pa np pc) np (ptsG ps)) := Lib.hid ⟨Q5.out.1.trans (hB.mono Q5.out.1.size), Q5.out.2.1.below hB, Q5.out.2.2.1.below hB, Q5.out.2.2.2.1, Q5.out.2.2.2.2.1, Q5.out.2.2.2.2.2.1.below hB, Q5.out.2.2.2.2.2.2.1, Q5.out.2.2.2.2.2.2.2.1, Q5.out.2.2.2.2.2.2.2.2, hA⟩
    clear hB hA
    have hb5 : Below w5.heap.size w5 ((w5.alloc (.cells #[.int .i64 0, .int .i64 0, .int .i64 0, .int .i64 0] 40)).alloc (.cells #[] 9)) := (bx _).trans ((bx _).mono (by simp))
    have ho := own_fresh (w5.alloc (.cells #[.int .i64 0, .int .i64 0, .int .i64 0, .int .i64 0] 40))
    rw [World.size_alloc] at ho
    have hsz5 : ((w5.alloc (.cells #[.int .i64 0, .int .i64 0, .int .i64 0, .int .i64 0] 40)).alloc (.cells #[] 9)).heap.size = w5.heap.size + 1 + 1 := by simp
    have HO := Lib.hid (And.intro hb5 (And.intro ho hsz5))
    clear hb5 ho hsz5
    go_wp2_with (at_builtin; first | (refine wpList_append_strs rfl (.tmp 58) (.tmp 59) rfl (w5.heap.size + 1) (by rw [HO.out.2.2]; omega) (.slice (some ⟨w5.heap.size + 1, 0, none⟩) 0 0) (.slice x n y) [] l 0 n Q6.out.2.2.2.2.2.2.1 rfl HO.out.2.1 rfl (Q6.out.2.2.2.2.2.1.below HO.out.1) (by omega) ?_; intro v1 wA hO1 hB1; rw [Nat.zero_add, List.nil_append] at hO1; have HO1 := Lib.hid (And.intro hO1 hB1); obtain ⟨a9, c9, rfl⟩ : ∃ a c, v1 = .slice a n c := (by rcases hO1.2 with ⟨rfl, h0⟩ | ⟨g, cap, cur, rfl, _⟩ <;> first | exact ⟨_, _, rfl⟩ | (rw [h0]; exact ⟨_, _, rfl⟩)); clear hO1 hB1) | (refine wpList_append_strs rfl (.tmp 60) (.tmp 61) rfl (w5.heap.size + 1) (by have h2 := HO1.out.2.size; rw [HO.out.2.2] at h2; rw [World.size_alloc]; omega) (.slice a9 n c9) (.slice (some ⟨wA.heap.size, 0, none⟩) 1 1) l [⟨#[120]⟩] n 1 rfl rfl (ownsRow_below HO1.out.1 (bx _)) rfl (row_one _ _ _ (Blk.new wA _ _)) (by omega) ?_; intro v2 wB hO2 hB2; have HO2 := Lib.hid (And.intro hO2 hB2); obtain ⟨a8, c8, rfl⟩ : ∃ a c, v2 = .slice a (n + 1) c := (by rcases hO2.2 with ⟨rfl, h0⟩ | ⟨g, cap, cur, rfl, _⟩ <;> first | exact ⟨_, _, rfl⟩ | omega); clear hO2 hB2))
    have hbB : Below w5.heap.size w5 wB := HO.out.1.trans ((HO1.out.2.mono (by omega)).trans (((bx _).mono (by have h2 := HO1.out.2.size; rw [HO.out.2.2] at h2; omega)).trans (HO2.out.2.mono (by omega))))
    have hAB := RowA.of_own HO2.out.1
    have hsB : Short (l ++ [⟨#[120]⟩]) := fun z hz => by
      rcases List.mem_append.1 hz with h | h
      · exact Q6.out.2.2.2.2.2.2.2.1 z h
      · rw [List.mem_singleton] at h; subst h; decide
    have Q7 : Hid (Below w.heap.size w wB ∧ Ready wB er ∧ TabW wB (.slice (some ⟨bb, off, none⟩) m lc) L ∧ Nice L ∧ At L id i ∧ RowA wB 1 (.slice x n y) n (strG l) ∧ n = l.length ∧ Short l ∧ wres (writ L id l) = (S, 0) ∧ RowA wB 6 (.slice pa np pc) np (ptsG ps)) := Lib.hid ⟨Q6.out.1.trans (hbB.mono Q6.out.1.size), Q6.out.2.1.below hbB, Q6.out.2.2.1.below hbB, Q6.out.2.2.2.1, Q6.out.2.2.2.2.1, Q6.out.2.2.2.2.2.1.below hbB, Q6.out.2.2.2.2.2.2.1, Q6.out.2.2.2.2.2.2.2.1, Q6.out.2.2.2.2.2.2.2.2.1, Q6.out.2.2.2.2.2.2.2.2.2.below hbB⟩
    refine (write_use (S := ByteArray.empty) (E := 50) Q7.out.2.1 Q7.out.2.2.1 (n := n + 1) (by rw [List.length_append, ← Q7.out.2.2.2.2.2.2.1]; rfl) hAB hsB HM.out.2.2.2.2.1).mono ?_
    rintro e w6 ⟨rfl, hB⟩
    have Q8 : Hid (Below w.heap.size w w6 ∧ Ready w6 er ∧ TabW w6 (.slice (some ⟨bb, off, none⟩) m lc) L ∧ Nice L ∧ At L id i ∧ RowA w6 1 (.slice x n y) n (strG l) ∧ n = l.length ∧ Short l ∧ wres (writ L id l) = (S, 0) ∧ RowA w6 6 (.slice pa np pc) np (ptsG ps)) := Lib.hid ⟨Q7.out.1.trans (hB.mono Q7.out.1.size), Q7.out.2.1.below hB, Q7.out.2.2.1.below hB, Q7.out.2.2.2.1, Q7.out.2.2.2.2.1, Q7.out.2.2.2.2.2.1.below hB, Q7.out.2.2.2.2.2.2.1, Q7.out.2.2.2.2.2.2.2.1, Q7.out.2.2.2.2.2.2.2.2.1, Q7.out.2.2.2.2.2.2.2.2.2.below hB⟩
    clear hB hbB hAB hsB HO HO1 HO2
    go_wp2_with fail
    have hpa := Q8.out.2.2.2.2.2.2.2.2.2
    rw [HM.out.2.1] at hpa
    have hVA := values_any _ _ L S ps w6 Q8.out.2.2.2.1.ok Q8.out.2.2.1.at_ (nice_fs Q8.out.2.2.2.1) hpa HM.out.2.2.2.1 HM.out.2.2.2.2.2
    rw [HM.out.2.2.1, ← Q8.out.2.2.2.2.2.2.1, ← HM.out.2.1] at hVA
    refine hVA.mono ?_
    rintro e w7 ⟨ov, rfl, hB, hrow⟩
    have hA := RowA.of_own hrow
    obtain ⟨oa, oc, rfl, -⟩ := hA.slice_
    have Q9 : Hid (Below w.heap.size w w7 ∧ Ready w7 er ∧ TabW w7 (.slice (some ⟨bb, off, none⟩) m lc) L ∧ Nice L ∧ At L id i ∧ RowA w7 1 (.slice x n y) n (strG l) ∧ n = l.length ∧ Short l ∧ wres (writ L id l) = (S, 0) ∧ RowA w7 6 (.slice pa np pc) np (ptsG ps) ∧ RowA w7 1 (.slice oa n oc) n (strG l)) := Lib.hid ⟨Q8.out.1.trans (hB.mono Q8.out.1.size), Q8.out.2.1.below hB, Q8.out.2.2.1.below hB, Q8.out.2.2.2.1, Q8.out.2.2.2.2.1, Q8.out.2.2.2.2.2.1.below hB, Q8.out.2.2.2.2.2.2.1, Q8.out.2.2.2.2.2.2.2.1, Q8.out.2.2.2.2.2.2.2.2.1, Q8.out.2.2.2.2.2.2.2.2.2.below hB, hA⟩
    clear hB hA hrow hVA hpa
    go_wp2_with fail
    refine (same_eq _ _ n _ w7 Q9.out.2.2.2.2.2.2.2.2.2.2 Q9.out.2.2.2.2.2.1 (by rw [Q9.out.2.2.2.2.2.2.1]; exact strG_strs l)).mono ?_
    rintro e w8 ⟨rfl, hB⟩
    have Q10 : Hid (Below w.heap.size w w8 ∧ Ready w8 er ∧ TabW w8 (.slice (some ⟨bb, off, none⟩) m lc) L ∧ Nice L ∧ At L id i ∧ RowA w8 1 (.slice x n y) n (strG l) ∧ n = l.length ∧ Short l ∧ wres (writ L id l) = (S, 0) ∧ RowA w8 6 (.slice pa np pc) np (ptsG ps) ∧ RowA w8 1 (.slice oa n oc) n (strG l)) := Lib.hid ⟨Q9.out.1.trans (hB.mono Q9.out.1.size), Q9.out.2.1.below hB, Q9.out.2.2.1.below hB, Q9.out.2.2.2.1, Q9.out.2.2.2.2.1, Q9.out.2.2.2.2.2.1.below hB, Q9.out.2.2.2.2.2.2.1, Q9.out.2.2.2.2.2.2.2.1, Q9.out.2.2.2.2.2.2.2.2.1, Q9.out.2.2.2.2.2.2.2.2.2.1.below hB, Q9.out.2.2.2.2.2.2.2.2.2.2.below hB⟩
    clear hB
    go_wp2_with fail
    first | go_end0 | go_ret
    exact ⟨rfl, Q10.out.1⟩
  · subst hE
    subst hS
    go_wp2_with fail
    first | go_end0 | go_ret
    exact ⟨rfl, Q5.out.1⟩
end WrsL
end Go.Proofs.YtdndmhlmbpgdeaaGreatDoor
