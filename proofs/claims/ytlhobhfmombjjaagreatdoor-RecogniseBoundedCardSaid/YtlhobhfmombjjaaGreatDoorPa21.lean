/- The function in All. Conditions: the table lies in memory, its numbers are ints; the variables of the errors are laid. The function in All, walked. Conditions: the table lies in memory, its numbers are ints; the variables of the errors are laid. All; Number. Conditions: the table lies in memory, its numbers are ints; the variables of the errors are laid. Number. No condition of its own. What the calls tell, said for use; the law's table. Conditions: the table lies in memory, its numbers are ints; the variables of the errors are laid. What each proof of this seat needs around its walk: the variables as the row lists them, slices that came in, a start that fits, and the step from a world that has kept what lay below to the row's own words. No condition of its own. (Written by gen_frame.py; the lemma post_of_below is one that the guide gives for copying.) -/
import Derived.Test.YtlhobhfmombjjaaGreatDoorPa20
import Derived.Test.YtlhobhfmombjjaaGreatDoorCards
import Derived.Test.YtlhobhfmombjjaaGreatDoorTie
import Derived.WalkKit
import Derived.ProofKit
import Derived.OpenShut
import Derived.Below
import Derived.ChangeSame
import Derived.Deep.DeepHandedRow
import Derived.Lib.LaidTab
import Derived.LaidSub
import Derived.Stop.LaidErr
import Derived.LaidHandle
import Derived.SliceStrings
import Derived.WideKeyArgs
namespace Go.Proofs.YtlhobhfmombjjaaGreatDoor
section RecX
open Go.RowKit Fx Rec Go.Maps

theorem run_append_oneB (w : World) (B : Nat) (hB : B ≤ w.heap.size) (ty : TypeId) (v : Value) (n : Nat) (xs : List Value) (hown : w.ownsRow B 3 1 v n xs) (hn : n ≤ 1000000) (g : Nat) (x : Int) (hg : w.heap[g]? = some (.cells #[.int .i64 x] 3 (0, 0))) :
    ∃ v' w', (Builtin.append_ #[24, 24] ty #[v, .slice (some ⟨g, 0, none⟩) 1 1]).run Tryz.prog w = .ok v' w' ∧ Grew w w' B 3 1 v v' (n + 1) (xs ++ [.int .i64 x]) := by
  obtain ⟨i0, hi, hz0, hz1, hz2⟩ := info_parts infoInt5
  obtain ⟨v', w', h1, h2, h3, _, h5⟩ := run_append_own_at (P := Tryz.prog) w B 24 ty 3 i0 _ 1 8 Tryz.underlying24 hi hz0 hz1 hz2 rfl (by decide) v n xs hown ⟨g, 0, none⟩ 1 1 [.int .i64 x] rfl
    (fun j u hu => by
      have hadd : (⟨g, 0, none⟩ : Addr).add j = ⟨g, j, none⟩ := by unfold Addr.add; split <;> simp_all
      rw [hadd, cell_of_row w g j _ _ _ hg]; simpa using hu)
    (fun u hu => by simp at hu; subst hu; rfl) (by unfold maxLen; omega) (by omega) hB
  exact ⟨v', w', h1, h2, h3, h5⟩
theorem wpList_append_oneB {ops : Array Oper} {rest : List Oper} {o : Oper} {a : Act} {w : World} {Q : Exit → Act → World → Prop}
    (hg : o.guard = none) (s x : Operand) (hop : o.op = Op.call { callee := Callee.builtin Builtin.append, args := #[s, x], argTypes := #[24, 24] })
    (B : Nat) (hB : B ≤ w.heap.size) (v : Value) (n : Nat) (xs : List Value) (hs : a.eval s = v) (hown : w.ownsRow B 3 1 v n xs) (hn : n ≤ 1000000) (g : Nat) (y : Int) (hx : a.eval x = .slice (some ⟨g, 0, none⟩) 1 1)
    (hb : w.heap[g]? = some (.cells #[.int .i64 y] 3 (0, 0)))
    (hK : ∀ v' w', Grew w w' B 3 1 v v' (n + 1) (xs ++ [.int .i64 y]) → wpList Tryz.prog ops Q rest (a.put o.dst v') w') :
    wpList Tryz.prog ops Q (o :: rest) a w := by
  refine wpList_plain hg fun K' hK' => ?_
  obtain ⟨v', w', hr, h2⟩ := run_append_oneB w B hB o.type v n xs hown hn g y hb
  unfold Oper.wp
  simp [execOp, hop, resolve, invoke, builtin, hs, hx, hr, Result.andThen]
  exact hK' _ _ (hK _ _ h2)

/-- The IDs of the first k formats of which a stream is. -/
def idsTo (L : List Fm) (s : ByteArray) (k : Nat) : List Int := ((L.take k).filter fun f => isOf L s f.id).map (·.id)
def idsV (l : List Int) : List Value := l.map fun (n : Int) => Value.int .i64 n
theorem idsTo_le (L : List Fm) (s : ByteArray) (k : Nat) : (idsTo L s k).length ≤ k := by
  unfold idsTo
  rw [List.length_map]
  have := List.length_filter_le (fun f : Fm => isOf L s f.id) (L.take k)
  rw [List.length_take] at this
  omega
theorem idsTo_succ {L : List Fm} {s : ByteArray} {k : Nat} (hk : k < L.length) : idsTo L s (k + 1) = idsTo L s k ++ (if isOf L s (L.getD k zm).id then [(L.getD k zm).id] else []) := by
  unfold idsTo
  have e : L.take (k + 1) = L.take k ++ [L.getD k zm] := by
    rw [List.take_succ_eq_append_getElem hk]
    simp [List.getD, hk]
  rw [e, List.filter_append, List.map_append]
  congr 1
  generalize L.getD k zm = f
  by_cases h : isOf L s f.id = true
  · rw [if_pos h]; simp [h]
  · rw [if_neg h]; simp [h]
/-- What All's loop keeps. -/
structure AInv (w : World) (ib rx B2 : Nat) (o : Ro) (rb : Nat) (L : List Fm) (s : ByteArray) (k : Nat) (wr : World) (P : Nat → Prop) (ps : List Pt) (vi : Value) : Prop where
  kept : Kept (fun q => q < w.heap.size ∧ q ≠ ib) w wr
  size : B2 ≤ wr.heap.size
  held : ∀ q, Held w.heap.size o q → P q
  rd : Rd wr P o rb L s ps
  rxb : Blk wr rx 81 #[ptr rb]
  prx : P rx
  ibb : Blk wr ib 24 #[vi]
  row : wr.ownsRow B2 3 1 vi (idsTo L s k).length (idsV (idsTo L s k))
  prow : ∀ g, vi.ownBlock = some g → P g
theorem AInv.shape {w : World} {ib rx B2 : Nat} {o : Ro} {rb : Nat} {L : List Fm} {s : ByteArray} {k : Nat} {wr : World} {P : Nat → Prop} {ps : List Pt} {vi : Value} (h : AInv w ib rx B2 o rb L s k wr P ps vi) : ∃ a n c, vi = .slice a n c := by
  rcases h.row.2 with ⟨rfl, _⟩ | ⟨g, cap, cur, rfl, _⟩
  · exact ⟨_, _, _, rfl⟩
  · exact ⟨_, _, _, rfl⟩
/-- New blocks. -/
theorem AInv.below {w : World} {ib rx B2 : Nat} {o : Ro} {rb : Nat} {L : List Fm} {s : ByteArray} {k : Nat} {wr wr' : World} {P : Nat → Prop} {ps : List Pt} {vi : Value} (h : AInv w ib rx B2 o rb L s k wr P ps vi) (hb : Below wr.heap.size wr wr') :
    AInv w ib rx B2 o rb L s k wr' (fun q => P q ∨ (wr.heap.size ≤ q ∧ q < wr'.heap.size)) ps vi :=
  ⟨h.kept.trans (Kept.of_below hb fun _ hq => Nat.lt_of_lt_of_le hq.1 h.kept.size), Nat.le_trans h.size hb.size, fun q hq => .inl (h.held q hq), h.rd.widen hb, (hb.block _ h.rxb.lt).trans h.rxb, .inl h.prx, (hb.block _ h.ibb.lt).trans h.ibb, ownsRow_below h.row hb, fun g hg => .inl (h.prow g hg)⟩
/-- The reader has worked. -/
theorem AInv.work {w : World} {ib rx B2 : Nat} {o : Ro} {rb : Nat} {L : List Fm} {s : ByteArray} {k : Nat} {wr wr' : World} {P : Nat → Prop} {ps ps' : List Pt} {vi : Value} (h : AInv w ib rx B2 o rb L s k wr P ps vi) (hib : ib < w.heap.size) (hk : Kept P wr wr') (hr : Rd wr' P o rb L s ps') :
    AInv w ib rx B2 o rb L s k wr' P ps' vi :=
  ⟨h.kept.trans (hk.mono fun q hq => h.held q (.inl hq.1)), Nat.le_trans h.size hk.size, h.held, hr, (hk.block _ h.prx).trans h.rxb, h.prx, (hk.block _ (h.held _ (.inl hib))).trans h.ibb, own_keep h.row fun g _ hg _ => hk.block g (h.prow g hg), h.prow⟩
/-- An ID is put behind the others. -/
theorem AInv.grow {w : World} {ib rx B2 : Nat} {o : Ro} {rb : Nat} {L : List Fm} {s : ByteArray} {k : Nat} {wr wA : World} {P : Nat → Prop} {ps : List Pt} {vi v1 : Value} (h : AInv w ib rx B2 o rb L s k wr P ps vi) (hib : ib < w.heap.size) (hl : k < L.length) (hof : isOf L s (L.getD k zm).id = true)
    (hu : ∀ i b, i < L.length → (o.us.getD i undef).ownBlock = some b → b ≠ ib ∧ b < B2) (hB2 : w.heap.size ≤ B2) (hG : Grew wr wA B2 3 1 vi v1 ((idsTo L s k).length + 1) (idsV (idsTo L s k) ++ [.int .i64 (L.getD k zm).id])) :
    (Blk wA ib 24 #[vi] ∧ ∃ g c, v1 = .slice (some ⟨g, 0, none⟩) ((idsTo L s k).length + 1) c) ∧ ∃ P', AInv w ib rx B2 o rb L s (k + 1) (wA.setCell ⟨ib, 0, none⟩ v1) P' ps v1 := by
  have hb1 : Blk wA ib 24 #[vi] := hG.blkOther h.row h.ibb (by decide)
  have hrx1 : Blk wA rx 81 #[ptr rb] := hG.blkOther h.row h.rxb (by decide)
  have sA := hG.grown.size
  -- the reader, where the row lay is protected
  have hr1 : Rd wA P o rb L s ps := by
    refine h.rd.frame (X := fun q => vi.ownBlock = some q) (fun q hq => h.prow q hq) (fun e => own_ne h.row h.rd.1.ab (by decide) e rfl) (fun e => own_ne h.row h.rd.1.tb (by decide) e rfl) (fun e => ?_) (fun e => ?_) (fun i b hi hb e => ?_) ?_
    · obtain ⟨cur, hh⟩ := own_heap h.row e
      exact h.rd.1.kinds.ne_cells (t := 3) hh rfl
    · obtain ⟨cur, hh⟩ := own_heap h.row e
      exact h.rd.1.fields.ne_cells (t := 3) hh rfl
    · have := (hu i b hi hb).2
      have := (h.row.lt b e).1
      omega
    · exact ⟨hG.grown.os, hG.grown.tape, hG.grown.output, hG.grown.size, fun q hq => hG.grown.block q hq.1 fun e => hq.2 e.symm⟩
  obtain ⟨g, c, hv1⟩ : ∃ g c, v1 = .slice (some ⟨g, 0, none⟩) ((idsTo L s k).length + 1) c := by
    rcases hG.own.2 with ⟨_, h0⟩ | ⟨g, cap, cur, rfl, _⟩
    · omega
    · exact ⟨g, cap, rfl⟩
  refine ⟨⟨hb1, g, c, hv1⟩, ?_⟩
  -- a new row is protected as well
  have hP2 : ∃ P' : Nat → Prop, (∀ q, P q → P' q) ∧ Rd wA P' o rb L s ps ∧ ∀ q, v1.ownBlock = some q → P' q := by
    rcases hG.blk with hbk | hbk
    · exact ⟨P, fun _ hq => hq, hr1, fun q hq => h.prow q (hbk ▸ hq)⟩
    · refine ⟨fun q => P q ∨ q = wr.heap.size, fun _ hq => .inl hq, ?_, fun q hq => .inr (by rw [hbk] at hq; exact (Option.some.inj hq).symm)⟩
      have hnew : wr.heap.size < wA.heap.size := by
        obtain ⟨cur, hh⟩ := own_heap hG.own hbk
        exact lt_of_heap hh
      obtain ⟨hf, vp, kk, vs, hm⟩ := hr1
      have old : ∀ q t cs, Blk wr q t cs → q ≠ wr.heap.size := fun q t cs hq => by have := hq.lt; omega
      obtain ⟨hf0, vp0, k0, vs0, hm0⟩ := h.rd
      have e1 : vp = vp0 := by
        have h1 := hm.blk.cell 4
        have h2 := ((hG.blkOther h.row hm0.blk (by decide)) : Blk wA rb _ _).cell 4
        simp only [List.getElem?_toArray, List.getElem?_cons_zero, List.getElem?_cons_succ] at h1 h2
        rw [h1] at h2
        exact Option.some.inj h2
      have e2 : vs = vs0 := by
        have h1 := hm.sums.sb.cell 0
        have h2 := ((hG.blkOther h.row hm0.sums.sb (by decide)) : Blk wA o.sb _ _).cell 0
        simp only [List.getElem?_toArray, List.getElem?_cons_zero] at h1 h2
        rw [h1] at h2
        exact Option.some.inj h2
      subst e1 e2
      refine ⟨{ hf with pin := ?_, pa := .inl hf.pa, pt := .inl hf.pt, pk := .inl hf.pk, pf := .inl hf.pf, pu := fun i b hi hb => .inl (hf.pu i b hi hb), nr := ?_, ns := ?_ }, vp, kk, vs, { hm with nS := fun q hq hp => ?_, nP := fun q hq hp => ?_ }⟩
      · rintro q (hq | hq)
        · exact hf.pin q hq
        · rw [hq]; exact hnew
      · rintro (hq | hq)
        · exact hf.nr hq
        · exact old _ _ _ hm0.blk hq
      · rintro (hq | hq)
        · exact hf.ns hq
        · exact old _ _ _ hm0.sums.sb hq
      · rcases hp with hp | hp
        · exact hm.nS q hq hp
        · have := own_lt hm0.sums.row hq; omega
      · rcases hp with hp | hp
        · exact hm.nP q hq hp
        · have := own_lt hm0.row hq; omega
  obtain ⟨P', hPP, hr2, hrow2⟩ := hP2
  have hkA : Kept (fun q => q < w.heap.size ∧ q ≠ ib) w wA := h.kept.grown hG.grown (fun q hq => Nat.lt_of_lt_of_le hq.1 h.kept.size) (fun q hq hp => by have := (h.row.lt q hq).1; omega)
  have hke : Kept (fun q => q < wA.heap.size ∧ q ≠ ib) wA (wA.setCell ⟨ib, 0, none⟩ v1) := (Kept.refl _ _).setCell (fun hq => hq.2 rfl) _
  refine ⟨P', hkA.trans (hke.mono fun q hq => ⟨Nat.lt_of_lt_of_le hq.1 hkA.size, hq.2⟩), by simp [World.setCell]; have := h.size; omega, fun q hq => hPP q (h.held q hq), hr2.poke hb1 (hPP _ (h.held _ (.inl hib))) (by decide) (by decide) (fun i b hi hb => (hu i b hi hb).1) hke, ?_, hPP _ h.prx, hb1.set_ 0 v1, ?_, hrow2⟩
  · exact (Below.heap_setCell _ _ _ _ fun e => Blk.ne_ hrx1 hb1 (by decide) e).trans hrx1
  · have e : idsTo L s (k + 1) = idsTo L s k ++ [(L.getD k zm).id] := by rw [idsTo_succ hl, if_pos hof]
    rw [e, List.length_append, List.length_singleton]
    have e2 : idsV (idsTo L s k ++ [(L.getD k zm).id]) = idsV (idsTo L s k) ++ [.int .i64 (L.getD k zm).id] := by unfold idsV; simp
    rw [e2]
    exact own_keep hG.own fun q cur hq hh => Below.heap_setCell _ _ _ _ fun e => Blk.ne_ (t := 3) hh hb1 (by decide) e
end RecX
section RecY
open Go.RowKit Fx Rec Go.Maps

theorem own_base {w : World} {B B' : Nat} {e : TypeId} {sz : Nat} {v : Value} {n : Nat} {xs : List Value} (h : w.ownsRow B e sz v n xs) (hb : B' ≤ B) : w.ownsRow B' e sz v n xs := by
  refine ⟨h.1, ?_⟩
  rcases h.2 with h | ⟨g, cap, cur, rfl, hg, r⟩
  · exact .inl h
  · exact .inr ⟨g, cap, cur, rfl, Nat.le_trans hb hg, r⟩
set_option maxRecDepth 20000 in
set_option maxHeartbeats 4000000 in
theorem all1_no (lb sb ib : Nat) (v : Value) (L : List Fm) (s : ByteArray) (er : Addr) (w : World) (hl : Blk w lb 23 #[v]) (hs : Blk w sb 9 #[.string s])
    (hE : ErrAt w er) (hV : FmsAt (· < w.heap.size) w v L) (hI : IntsL L) (hno : vd L = false ∨ ¬ s.size ≤ 65536) :
    Calls Tryz.prog 43 #[ptr lb, ptr sb, ptr ib] w fun e w' => e = Stops zRf ∧ Below w.heap.size w w' := by
  have c0 := hl.cell 0
  have c1 := hs.cell 0
  simp only [List.getElem?_toArray, List.getElem?_cons_zero] at c0 c1
  obtain ⟨va, vc, rfl, -⟩ := hV.slice2
  have HNR : Hid (Calls Tryz.prog 39 #[.slice va L.length vc, .string s] w fun e w' => e = Stops zRf ∧ Below w.heap.size w w') := Lib.hid (by
    by_cases h2 : s.size ≤ 65536
    · exact newReader_no _ L s er w hE hV hI (hno.resolve_right fun h => h h2) h2
    · exact newReader_long _ s w h2)
  clear hl hs hE hV hI hno
  go_enter Tryz.func43, Tryz.ntmps43
  go_wp2_with fail
  refine HNR.out.mono ?_
  rintro e w1 ⟨rfl, hB⟩
  exact ⟨rfl, rfl, hB⟩

set_option maxRecDepth 20000 in
set_option maxHeartbeats 600000 in
theorem all1_yes (lb sb ib : Nat) (v : Value) (L : List Fm) (s : ByteArray) (er : Addr) (w : World) (B0 : Nat) (hB0 : B0 ≤ ib) (hBB : B0 ≤ w.heap.size) (hl : Blk w lb 23 #[v]) (hs : Blk w sb 9 #[.string s]) (hib : Blk w ib 24 #[.slice none 0 0])
    (hE : ErrAt w er) (hT : ErrTy w) (hV : FmsAt (· < B0) w v L) (hI : IntsL L) (h1 : vd L = true) (h2 : s.size ≤ 65536) :
    Calls Tryz.prog 43 #[ptr lb, ptr sb, ptr ib] w fun e w' => e = .returned (.tuple #[]) ∧ Kept (fun q => q < w.heap.size ∧ q ≠ ib) w w' ∧
      ∃ vi, Blk w' ib 24 #[vi] ∧ w'.ownsRow w.heap.size 3 1 vi (idsTo L s L.length).length (idsV (idsTo L s L.length)) := by
  have c0 := hl.cell 0
  have c1 := hs.cell 0
  simp only [List.getElem?_toArray, List.getElem?_cons_zero] at c0 c1
  obtain ⟨va, vc, rfl, hvl⟩ := hV.slice2
  have hmf : ∀ (fn : Fn) (first cap : Array Value) (w : World), (Instr.makeFunc fn first cap).run Tryz.prog w = .ok (.func fn first cap) w := fun _ _ _ _ => rfl
  obtain ⟨n, hn⟩ : ∃ n, n = L.length := ⟨_, rfl⟩
  have HNR := Lib.hid (newReader_yes _ L s er w B0 hBB hE hV hI h1 h2)
  have HT := Lib.hid (And.intro hV (And.intro hT (And.intro hib (And.intro hl (And.intro (vd_iff.1 h1) hn)))))
  have hfew := (vd_iff.1 h1).few
  have lib := hib.lt
  rw [← hn] at HNR hvl hfew c0 ⊢
  clear hl hs hib hE hT hV hI h1 h2 hn
  unfold maxLen at hvl
  go_enter Tryz.func43, Tryz.ntmps43
  go_wp2_with fail
  refine HNR.out.mono ?_
  rintro e w5 ⟨o, rb, rfl, hB5, hR5, hU⟩
  have hlt0 : 0 < w.heap.size := World.block_lt_of_cell? (h := HT.out.2.1)
  have hB6 := bx (w := w5) (.cells #[ptr rb] 81)
  have hA0 : AInv w ib w5.heap.size (w5.heap.size + 1) o rb L s 0 (w5.alloc (.cells #[ptr rb] 81)) (fun q => Held w.heap.size o q ∨ (w5.heap.size ≤ q ∧ q < (w5.alloc (.cells #[ptr rb] 81)).heap.size)) [] (.slice none 0 0) :=
    ⟨(Kept.of_below (hB5.trans (hB6.mono hB5.size)) fun q hq => hq.1), by simp, fun q hq => .inl hq, hR5.widen hB6, Blk.new w5 _ _, .inr (by simp), (hB6.block _ (Nat.lt_of_lt_of_le lib hB5.size)).trans ((hB5.block _ lib).trans HT.out.2.2.1), ⟨rfl, .inl ⟨rfl, rfl⟩⟩, fun g hg => by simp [Value.ownBlock] at hg⟩
  have hl6 : Blk (w5.alloc (.cells #[ptr rb] 81)) lb 23 #[.slice va n vc] := by rw [HT.out.2.2.2.2.2]; exact (hB6.block _ (Nat.lt_of_lt_of_le HT.out.2.2.2.1.lt hB5.size)).trans ((hB5.block _ HT.out.2.2.2.1.lt).trans HT.out.2.2.2.1)
  have c6 := hl6.cell 0
  simp only [List.getElem?_toArray, List.getElem?_cons_zero] at c6
  have hwx : w.heap.size ≤ w5.heap.size := hB5.size
  have HA0 := Lib.hid (And.intro hA0 (And.intro hU hwx))
  clear hA0 hB5 hR5 hU hB6 hl6 HNR c0 c1
  go_wp2_with fail
  go_loopw [13] (fun i wr => ∃ (k : Nat) (P : Nat → Prop) (ps : List Pt) (vi : Value), k ≤ n ∧ i = .int .i64 k ∧ Hid (AInv w ib w5.heap.size (w5.heap.size + 1) o rb L s k wr P ps vi)) (fun i _ => n - (intOf i).toNat)
  case atStart => exact ⟨0, _, [], .slice none 0 0, Nat.zero_le _, rfl, Lib.hid HA0.out.1⟩
  case round =>
    obtain ⟨k, P, ps, vi, hk, rfl, HJ⟩ := hrel
    obtain ⟨wq, rfl⟩ : ∃ wq, wq = wr := ⟨_, rfl⟩
    by_cases hlt : k < n
    · have hkL : k < L.length := by rw [← HT.out.2.2.2.2.2]; exact hlt
      have hVq : FmsAt (· < B0) wq (.slice va n vc) L := by rw [HT.out.2.2.2.2.2]; exact HT.out.1.kept (HJ.out.kept.mono fun q hq => ⟨by have : q < B0 := hq; omega, by have : q < B0 := hq; omega⟩)
      obtain ⟨b, off, rfl, -, hbl, hfm⟩ := hVq.get (by omega)
      obtain ⟨u, hu⟩ := hfm k hkL
      obtain ⟨ua, uc, rfl, -⟩ := hu.fs.slice_
      obtain ⟨id, hid⟩ : ∃ id, id = (L.getD k zm).id := ⟨_, rfl⟩
      obtain ⟨ul, hul⟩ : ∃ ul, ul = (L.getD k zm).fs.length := ⟨_, rfl⟩
      have d0 := hu.c0
      have d1 := hu.c1
      rw [← hid] at d0
      rw [← hul] at d1
      have hki : (0 : Int) ≤ (k : Int) ∧ (k : Int) < (n : Int) := by omega
      have hBq := bx (w := wq) (.cells #[.int .i64 id, .slice ua ul uc] 52)
      have hA1 := HJ.out.below hBq
      have hne : ib ≠ 0 := by
        intro he
        have h2 := HT.out.2.2.1.cell 0
        rw [he] at h2
        have h1 : w.cell? ⟨0, 0, none⟩ = _ := HT.out.2.1
        rw [h1] at h2
        simp at h2
      have hTq : ErrTy (wq.alloc (.cells #[.int .i64 id, .slice ua ul uc] 52)) :=
        ErrTy.below ((HJ.out.kept.cell (p := ⟨0, 0, none⟩) ⟨hlt0, hne.symm⟩).trans HT.out.2.1) hBq
      have htry := try_any w5.heap.size wq.heap.size o rb L s _ ps id (.slice ua ul uc) _ hA1.rxb (Blk.new wq _ _) hA1.rd hTq (hA1.held _ (.inl hlt0))
      have HTRY := Lib.hid htry
      have HA1 := Lib.hid hA1
      have HID := Lib.hid hid
      have HBL := Lib.hid (And.intro (Blk.new wq 52 #[.int .i64 id, .slice ua ul uc]) (show wq.heap.size < (wq.alloc (.cells #[.int .i64 id, .slice ua ul uc] 52)).heap.size by simp))
      clear hVq hfm hu hul hid hBq hA1 hTq htry hne
      go_wp2_with fail
      refine HTRY.out.mono ?_
      rintro e w7 ⟨r, m, rfl, ⟨ra, rbb, rc, rd, rfl⟩, hm, hk7, ps7, hr7⟩
      have hA7 := HA1.out.work lib hk7 hr7
      have hf7 : Blk w7 wq.heap.size 52 #[.int .i64 id, .slice ua ul uc] := (hk7.block _ (.inr ⟨Nat.le_refl _, HBL.out.2⟩)).trans HBL.out.1
      have f0 := hf7.cell 0
      simp only [List.getElem?_toArray, List.getElem?_cons_zero] at f0
      obtain ⟨via, vin, vic, rfl⟩ := hA7.shape
      have i0 := hA7.ibb.cell 0
      simp only [List.getElem?_toArray, List.getElem?_cons_zero] at i0
      cases hof : isOf L s id with
      | false =>
        rw [hof] at hm
        have hm50 : m = 50 := hm
        subst hm50
        have HE : Hid (AInv w ib w5.heap.size (w5.heap.size + 1) o rb L s (k + 1) (w7.alloc (.cells #[.int .i64 ra, .int .i64 rbb, .int .i64 rc, .int .i64 rd] 40)) _ ps7 (.slice via vin vic)) := Lib.hid (by
          have h := hA7.below (bx (w := w7) (.cells #[.int .i64 ra, .int .i64 rbb, .int .i64 rc, .int .i64 rd] 40))
          have e : idsTo L s (k + 1) = idsTo L s k := by rw [idsTo_succ hkL, ← HID.out, if_neg (by rw [hof]; decide), List.append_nil]
          exact { h with row := by rw [e]; exact h.row })
        clear hA7 hf7 hm hk7 hr7 hof HTRY HA1
        go_wp2_with fail
        exact ⟨⟨k + 1, _, ps7, _, by omega, by go_num, HE⟩, by simp [intOf]; omega⟩
      | true =>
        rw [hof] at hm
        have hm0 : m = 0 := hm
        subst hm0
        have hBY : Below w7.heap.size w7 ((w7.alloc (.cells #[.int .i64 ra, .int .i64 rbb, .int .i64 rc, .int .i64 rd] 40)).alloc (.cells #[.int .i64 id] 3)) := (bx _).alloc (by simp) _
        have hAY := hA7.below hBY
        have hbi : ((w7.alloc (.cells #[.int .i64 ra, .int .i64 rbb, .int .i64 rc, .int .i64 rd] 40)).alloc (.cells #[.int .i64 id] 3)).heap[w7.heap.size + 1]? = some (.cells #[.int .i64 id] 3 (0, 0)) := by
          have := heap_alloc_new (w7.alloc (.cells #[.int .i64 ra, .int .i64 rbb, .int .i64 rc, .int .i64 rd] 40)) (.cells #[.int .i64 id] 3)
          simpa using this
        have hu' : ∀ i b, i < L.length → (o.us.getD i undef).ownBlock = some b → b ≠ ib ∧ b < w5.heap.size + 1 := fun i b hi hb => by
          have := HA0.out.2.1 i b (by rw [HT.out.2.2.2.2.2]; exact hi) hb
          omega
        have HGR := Lib.hid (fun (v1 : Value) (wA : World) hG => hAY.grow (v1 := v1) (wA := wA) lib hkL (by rw [← HID.out]; exact hof) hu' (by omega) hG)
        rw [← HID.out] at HGR
        have HAY := Lib.hid (And.intro hAY.row (And.intro hAY.size hbi))
        have i1 : (w7.alloc (.cells #[.int .i64 ra, .int .i64 rbb, .int .i64 rc, .int .i64 rd] 40)).cell? ⟨ib, 0, none⟩ = some (.slice via vin vic) := ((bx _).cell (p := ⟨ib, 0, none⟩) hA7.ibb.lt).trans i0
        have f1 : (w7.alloc (.cells #[.int .i64 ra, .int .i64 rbb, .int .i64 rc, .int .i64 rd] 40)).cell? ⟨wq.heap.size, 0, none⟩ = some (.int .i64 id) := ((bx _).cell (p := ⟨wq.heap.size, 0, none⟩) hf7.lt).trans f0
        have hcnt := idsTo_le L s k
        clear hA7 hf7 hm hk7 hr7 hof HTRY HA1 hBY hAY hbi hu'
        go_wp2_with (at_builtin; refine wpList_append_oneB rfl (.tmp 24) (.tmp 27) rfl (w5.heap.size + 1) HAY.out.2.1 (.slice via vin vic) _ _ rfl HAY.out.1 (by omega) (w7.heap.size + 1) id rfl HAY.out.2.2 ?_; intro v1 wA hG; have HN := Lib.hid (HGR.out v1 wA hG); obtain ⟨g1, cp1, rfl⟩ := HN.out.1.2; have e0 := HN.out.1.1.cell 0; have y0 := HN.out.1.1.frozen 0; simp only [List.getElem?_toArray, List.getElem?_cons_zero] at e0; clear hG)
        obtain ⟨P', hA'⟩ := HN.out.2
        exact ⟨⟨k + 1, P', ps7, _, by omega, by go_num, Lib.hid hA'⟩, by simp [intOf]; omega⟩
    · obtain rfl : k = n := by omega
      go_wp2_with fail
      first | go_end0 | skip
      refine ⟨rfl, HJ.out.kept, vi, HJ.out.ibb, own_base HJ.out.row (by omega)⟩
end RecY
section RecZ
open Go.RowKit Fx Rec Go.Maps

/-- What All tells. -/
def allIds (L : List Fm) (s : ByteArray) : List Int := if vd L = true ∧ s.size ≤ 65536 then idsTo L s L.length else []
abbrev aW (w : World) (v : Value) (s : ByteArray) : World :=
  ((w.alloc (.cells #[v] 23)).alloc (.cells #[.string s] 9)).alloc (.cells #[.slice none 0 0] 24)
theorem enters_43 : Enters 43 := fun args w => by simp [callFunc, Tryz.func43, Tryz.f43]
theorem all_att (v : Value) (L : List Fm) (s : ByteArray) (er : Addr) (w : World) (hE : ErrAt w er) (hT : ErrTy w) (hV : FmsAt (· < w.heap.size) w v L) (hI : IntsL L) :
    Calls Tryz.prog 37 #[.func (.func 43) #[] #[ptr w.heap.size, ptr (w.heap.size + 1), ptr (w.heap.size + 2)]] (aW w v s) fun e w' => ∃ r a b c, e = .returned r ∧
      Kept (fun k => k < w.heap.size) w w' ∧ Blk w' (w.heap.size + 2) 24 #[.slice a b c] ∧ w'.ownsRow w.heap.size 3 1 (.slice a b c) (allIds L s).length (idsV (allIds L s)) ∧ ∃ x y, r = .tuple #[x, y] := by
  obtain ⟨W, hW⟩ : ∃ W, W = aW w v s := ⟨_, rfl⟩
  have hsz : W.heap.size = w.heap.size + 3 := by rw [hW]; simp [aW]
  have hB : Below w.heap.size w W := by
    rw [hW]
    exact (((Below.refl _ _).alloc (Nat.le_refl _) _).alloc (by simp) _).alloc (by simp; omega) _
  have b0 : Blk W w.heap.size 23 #[v] := by rw [hW]; exact ((Blk.new w _ _).alloc_ _).alloc_ _
  have b1 : Blk W (w.heap.size + 1) 9 #[.string s] := by
    rw [hW]
    have := Blk.new (w.alloc (.cells #[v] 23)) 9 #[.string s]
    exact (show Blk _ (w.heap.size + 1) _ _ by simpa using this).alloc_ _
  have b2 : Blk W (w.heap.size + 2) 24 #[.slice none 0 0] := by
    rw [hW]
    have := Blk.new ((w.alloc (.cells #[v] 23)).alloc (.cells #[.string s] 9)) 24 #[.slice none 0 0]
    simpa [aW] using this
  rw [← hW]
  have hBW : Below W.heap.size W (attW W) := ((Below.refl _ _).alloc (Nat.le_refl _) _).alloc (by simp) _
  have hBa : Below w.heap.size w (attW W) := hB.trans (hBW.mono (by omega))
  have hasz : (attW W).heap.size = W.heap.size + 2 := by simp
  have hl0 : 0 < w.heap.size := World.block_lt_of_cell? (h := hT)
  have x0 := (hBW.block _ (by omega)).trans b0
  have x1 := (hBW.block (w.heap.size + 1) (by omega)).trans b1
  have x2 := (hBW.block (w.heap.size + 2) (by omega)).trans b2
  have hVa : FmsAt (· < w.heap.size) (attW W) v L := hV.kept (Kept.of_below hBa fun _ h => h)
  by_cases hok : vd L = true ∧ s.size ≤ 65536
  · have hid : allIds L s = idsTo L s L.length := if_pos hok
    rw [hid]
    have hm := all1_yes w.heap.size (w.heap.size + 1) (w.heap.size + 2) v L s er (attW W) w.heap.size (by omega) (by omega) x0 x1 x2 (hE.below hBa) (hT.below hBa) hVa hI hok.1 hok.2
    have ha := attempt_any 43 #[ptr w.heap.size, ptr (w.heap.size + 1), ptr (w.heap.size + 2)] W
      (fun w2 => Kept (fun k => k < (attW W).heap.size ∧ k ≠ w.heap.size + 2) (attW W) w2 ∧ ∃ vi, Blk w2 (w.heap.size + 2) 24 #[vi] ∧ w2.ownsRow (attW W).heap.size 3 1 vi (idsTo L s L.length).length (idsV (idsTo L s L.length)))
      (fun _ _ _ _ _ => False) enters_43 (hT.below hB)
      (hm.mono fun e w2 h => ⟨.inl ⟨h.1, h.2⟩, h.2.1.mono fun k hk => by
        rcases hk with ⟨h1, h2⟩ | h1
        · exact ⟨by omega, by omega⟩
        · unfold attK at h1; omega⟩)
    refine ha.mono fun e w' h => ?_
    rcases h with ⟨he, w2, ⟨hk, vi, hb, hrow⟩, hk2⟩ | ⟨_, _, _, _, _, _, h, _⟩
    · have hs2 := hk.size
      have k1 : Kept (fun k => k < w.heap.size) w w' :=
        (Kept.of_below hBa fun _ h => h).trans ((hk.mono fun k hk => ⟨by have : k < w.heap.size := hk; omega, by have : k < w.heap.size := hk; omega⟩).trans (hk2.mono fun k hk => ⟨by have : k < w.heap.size := hk; omega, by have : k < w.heap.size := hk; unfold attK; omega⟩))
      have hb' : Blk w' (w.heap.size + 2) 24 #[vi] := (hk2.block _ ⟨by omega, by unfold attK; omega⟩).trans hb
      have hrow' : w'.ownsRow (attW W).heap.size 3 1 vi (idsTo L s L.length).length (idsV (idsTo L s L.length)) := own_keep hrow fun g cur hg hh => hk2.block g ⟨lt_of_heap hh, by have := (hrow.lt g hg).1; unfold attK; omega⟩
      rcases hrow'.2 with ⟨rfl, h0⟩ | ⟨g, cap, cur, rfl, h1, h2⟩
      · exact ⟨_, _, _, _, he, k1, hb', ⟨hrow'.1, .inl ⟨rfl, h0⟩⟩, _, _, rfl⟩
      · exact ⟨_, _, _, _, he, k1, hb', ⟨hrow'.1, .inr ⟨g, cap, cur, rfl, by omega, h2⟩⟩, _, _, rfl⟩
    · exact h.elim
  · have hid : allIds L s = [] := if_neg hok
    rw [hid]
    have hor : vd L = false ∨ ¬ s.size ≤ 65536 := by
      by_cases h1 : vd L = true
      · exact .inr fun h2 => hok ⟨h1, h2⟩
      · exact .inl (by simpa using h1)
    have hm := all1_no w.heap.size (w.heap.size + 1) (w.heap.size + 2) v L s er (attW W) x0 x1 (hE.below hBa) (hVa.mono fun k hk => by show k < _; have : k < w.heap.size := hk; omega) hI hor
    have ha := attempt_any 43 #[ptr w.heap.size, ptr (w.heap.size + 1), ptr (w.heap.size + 2)] W
      (fun _ => False) (fun a b c d w2 => (a = 0 ∧ b = 0 ∧ c = 0 ∧ d = 0) ∧ Below (attW W).heap.size (attW W) w2) enters_43 (hT.below hB)
      (hm.mono fun e w2 h => ⟨.inr ⟨0, 0, 0, 0, h.1, ⟨rfl, rfl, rfl, rfl⟩, h.2⟩, Kept.of_below h.2 fun k hk => by
        rcases hk with ⟨h1, h2⟩ | h1
        · omega
        · unfold attK at h1; omega⟩)
    refine ha.mono fun e w' h => ?_
    rcases h with ⟨_, _, h, _⟩ | ⟨a, b, c, d, he, w2, ⟨-, hk⟩, hk2⟩
    · exact h.elim
    · have hs2 := hk.size
      have k1 : Kept (fun k => k < W.heap.size) W w' :=
        (Kept.of_below hBW fun _ h => h).trans ((Kept.of_below (P := fun k => k < W.heap.size) hk fun k hk => by omega).trans (hk2.mono fun k hk => ⟨by have : k < W.heap.size := hk; omega, by have : k < W.heap.size := hk; unfold attK; omega⟩))
      exact ⟨_, _, _, _, he, (Kept.of_below hB fun _ h => h).trans (k1.mono fun k hk => by show k < _; have : k < w.heap.size := hk; omega), (k1.block _ (by show _ < _; omega)).trans b2, ⟨rfl, .inl ⟨rfl, rfl⟩⟩, _, _, rfl⟩
set_option maxRecDepth 20000 in
set_option maxHeartbeats 1000000 in
theorem All_any (v : Value) (L : List Fm) (s : ByteArray) (er : Addr) (w : World) (hE : ErrAt w er) (hT : ErrTy w) (hV : FmsAt (· < w.heap.size) w v L) (hI : IntsL L) :
    Calls Tryz.prog 23 #[v, .string s] w fun e w' => ∃ vi, e = .returned vi ∧ Below w.heap.size w w' ∧ w'.ownsRow w.heap.size 3 1 vi (allIds L s).length (idsV (allIds L s)) := by
  have hmf : ∀ (fn : Fn) (first cap : Array Value) (w : World), (Instr.makeFunc fn first cap).run Tryz.prog w = .ok (.func fn first cap) w := fun _ _ _ _ => rfl
  have HA := Lib.hid (all_att v L s er w hE hT hV hI)
  obtain ⟨va, vc, rfl, -⟩ := hV.slice2
  clear hE hT hV hI
  go_enter Tryz.func23, Tryz.ntmps23
  go_wp2_with fail
  refine HA.out.mono ?_
  rintro e w1 ⟨r, a, b, c, rfl, hk, hb, hrow, x, y, rfl⟩
  have c0 : w1.cell? ⟨w.heap.size + 1 + 1, 0, none⟩ = some (.slice a b c) := cell_of_row w1 (w.heap.size + 2) 0 _ _ _ hb
  have HK := Lib.hid (And.intro (hk.below (B := w.heap.size) fun _ h => h) hrow)
  clear hk hb hrow
  go_wp2
  go_ret
  exact ⟨_, rfl, HK.out.1, HK.out.2⟩
end RecZ
section RecNum
open Go.RowKit Fx Rec Go.Maps

/-- What Number tells of a part. -/
def numPart (s : ByteArray) (st en : Int) : Int := if st < 0 ∨ st > en ∨ en > (s.size : Int) ∨ en - st > 3 then 0 else num (s.extract st.toNat en.toNat)
set_option maxRecDepth 20000 in
set_option maxHeartbeats 1000000 in
theorem Number_any (s : ByteArray) (a b c d e f : Int) (w : World) (hs : s.size ≤ 9223372036854775807) :
    Calls Tryz.prog 25 #[.string s, .agg #[.int .i64 a, .int .i64 b, .int .i64 c, .int .i64 d, .int .i64 e, .int .i64 f]] w fun ev w' => ev = .returned (.int .i64 (numPart s d e)) ∧ Below w.heap.size w w' := by
  have hb := heap_alloc_new w (.cells #[.int .i64 a, .int .i64 b, .int .i64 c, .int .i64 d, .int .i64 e, .int .i64 f] 26)
  have c3 : (w.alloc (.cells #[.int .i64 a, .int .i64 b, .int .i64 c, .int .i64 d, .int .i64 e, .int .i64 f] 26)).cell? ⟨w.heap.size, 3, none⟩ = some (.int .i64 d) := cell_of_row _ _ 3 _ _ _ hb
  have c4 : (w.alloc (.cells #[.int .i64 a, .int .i64 b, .int .i64 c, .int .i64 d, .int .i64 e, .int .i64 f] 26)).cell? ⟨w.heap.size, 4, none⟩ = some (.int .i64 e) := cell_of_row _ _ 4 _ _ _ hb
  have HB := Lib.hid (bx (w := w) (.cells #[.int .i64 a, .int .i64 b, .int .i64 c, .int .i64 d, .int .i64 e, .int .i64 f] 26))
  clear hb
  obtain ⟨N, hN⟩ : ∃ N, N = numPart s d e := ⟨_, rfl⟩
  rw [← hN]
  by_cases h1 : d < 0
  · have HN := Lib.hid (show N = 0 by rw [hN, numPart, if_pos (.inl h1)])
    have q1 : decide (d < 0) = true := decide_eq_true h1
    clear hN h1
    go_enter Tryz.func25, Tryz.ntmps25
    go_wp2
    go_ret
    exact ⟨by rw [HN.out]; rfl, HB.out⟩
  · have q1 : decide (d < 0) = false := decide_eq_false h1
    by_cases h2 : d > e
    · have HN := Lib.hid (show N = 0 by rw [hN, numPart, if_pos (.inr (.inl h2))])
      have q2 : decide (d > e) = true := decide_eq_true h2
      clear hN h1 h2
      go_enter Tryz.func25, Tryz.ntmps25
      go_wp2
      go_ret
      exact ⟨by rw [HN.out]; rfl, HB.out⟩
    · have q2 : decide (d > e) = false := decide_eq_false h2
      by_cases h3 : e > (s.size : Int)
      · have HN := Lib.hid (show N = 0 by rw [hN, numPart, if_pos (.inr (.inr (.inl h3)))])
        have q3 : decide (e > (s.size : Int)) = true := decide_eq_true h3
        clear hN h1 h2 h3
        go_enter Tryz.func25, Tryz.ntmps25
        go_wp2
        go_ret
        exact ⟨by rw [HN.out]; rfl, HB.out⟩
      · have q3 : decide (e > (s.size : Int)) = false := decide_eq_false h3
        obtain ⟨D, hD⟩ : ∃ D, D = e - d := ⟨_, rfl⟩
        have hw : IntKind.i64.wrap (e - d) = D := by rw [wr64 (by omega) (by omega)]; exact hD.symm
        by_cases h4 : D > 3
        · have HN := Lib.hid (show N = 0 by rw [hN, numPart, if_pos (.inr (.inr (.inr (by omega))))])
          have q4 : decide (D > 3) = true := decide_eq_true h4
          clear hN h1 h2 h3 h4 hD
          go_enter Tryz.func25, Tryz.ntmps25
          go_wp2
          go_ret
          exact ⟨by rw [HN.out]; rfl, HB.out⟩
        · have q4 : decide (D > 3) = false := decide_eq_false h4
          obtain ⟨X, hX⟩ : ∃ X, X = s.extract d.toNat (d.toNat + D.toNat) := ⟨_, rfl⟩
          have hsl : ∀ W, (Instr.slice 9 (.string s) (some (.int .i64 d)) (some (.int .i64 e)) none).run Tryz.prog W = .ok (.string X) W := by rw [hX]; exact str_slice (a := d.toNat) (n := D.toNat) (by omega) (by omega) (by omega)
          have hxs : X.size ≤ 3 := by rw [hX, ByteArray.size_extract]; omega
          have HN := Lib.hid (show N = num X by
            rw [hN, numPart, if_neg (by omega), hX, show d.toNat + D.toNat = e.toNat by omega])
          clear hN h1 h2 h3 h4 hD hX
          go_enter Tryz.func25, Tryz.ntmps25
          go_wp2_with fail
          refine (number_any X _ hxs).mono ?_
          rintro ev w1 ⟨rfl, rfl⟩
          go_wp2
          go_ret
          exact ⟨by rw [HN.out]; rfl, HB.out⟩
end RecNum
section SanA
open Go.RowKit Fx Rec Go.Maps

/-- What the calls read of memory. -/
structure Ready (w : World) (er : Addr) : Prop where
  err : ErrAt w er
  ty : ErrTy w
theorem Ready.below {w w' : World} {er : Addr} (h : Ready w er) (hb : Below w.heap.size w w') : Ready w' er := ⟨h.err.below hb, h.ty.below hb⟩
/-- A table in memory. -/
structure TabW (w : World) (v : Value) (L : List Fm) : Prop where
  at_ : FmsAt (· < w.heap.size) w v L
  ints : IntsL L
theorem TabW.below {w w' : World} {v : Value} {L : List Fm} (h : TabW w v L) (hb : Below w.heap.size w w') : TabW w' v L :=
  ⟨(h.at_.kept (Kept.of_below hb fun _ h => h)).mono fun k hk => by show k < _; have : k < w.heap.size := hk; have := hb.size; omega, h.ints⟩
/-- Parts in memory. -/
structure PartsW (w : World) (g n c : Nat) (ps : List Pt) : Prop where
  lt : g < w.heap.size
  le : n ≤ c
  max : c ≤ maxLen
  len : ps.length = n
  cell : ∀ i, i < n * 6 → w.cell? ⟨g, i, none⟩ = (flatP ps)[i]?
theorem PartsW.below {w w' : World} {g n c : Nat} {ps : List Pt} (h : PartsW w g n c ps) (hb : Below w.heap.size w w') : PartsW w' g n c ps :=
  { h with lt := Nat.lt_of_lt_of_le h.lt hb.size, cell := fun i hi => (hb.cell (p := ⟨g, i, none⟩) h.lt).trans (h.cell i hi) }
theorem PartsW.of {w : World} {B n : Nat} {v : Value} {ps : List Pt} (h : w.ownsRow B 26 6 v n (flatP ps)) (hn : ps.length = n) (h1 : 1 ≤ n) : ∃ g c, v = .slice (some ⟨g, 0, none⟩) n c ∧ PartsW w g n c ps := by
  rcases h.2 with ⟨_, h0⟩ | ⟨g, cap, cur, rfl, _, hh, e1, e2, _⟩
  · omega
  · exact ⟨g, cap, rfl, lt_of_heap hh, e1, e2, hn, fun i hi => (own_cell h rfl hi).1⟩
section
variable {w : World} {v : Value} {L : List Fm} {id : Int} {s : ByteArray} {er : Addr}
theorem match_ok {ps : List Pt} {n : Nat} (hR : Ready w er) (hV : TabW w v L) (h : mtch L id s = .ok ps) (hn : ps.length = n) (h1 : 1 ≤ n) :
    Calls Tryz.prog 19 #[v, .int .i64 id, .string s] w fun e w' => ∃ g c, e = .returned (.tuple #[.slice (some ⟨g, 0, none⟩) n c, .agg #[.int .i64 0, .int .i64 0, .int .i64 0, .int .i64 0], .int .i64 0]) ∧ Below w.heap.size w w' ∧ PartsW w' g n c ps := by
  have hm := Match_any v L id s er w hR.err hR.ty hV.at_ hV.ints
  rw [h] at hm
  refine hm.mono ?_
  rintro e w' ⟨hb, vp, rfl, hrow⟩
  rw [hn] at hrow
  obtain ⟨g, c, rfl, hp⟩ := PartsW.of hrow hn h1
  exact ⟨g, c, rfl, hb, hp⟩
theorem match_no {a b c d : Int} (hR : Ready w er) (hV : TabW w v L) (h : mtch L id s = .error ⟨a, b, c, d⟩) :
    Calls Tryz.prog 19 #[v, .int .i64 id, .string s] w fun e w' => e = .returned (.tuple #[.slice none 0 0, .agg #[.int .i64 a, .int .i64 b, .int .i64 c, .int .i64 d], .int .i64 50]) ∧ Below w.heap.size w w' := by
  have hm := Match_any v L id s er w hR.err hR.ty hV.at_ hV.ints
  rw [h] at hm
  exact hm.mono fun e w' h => ⟨h.2, h.1⟩
end
theorem nil_strs (w : World) : StrsV w (.slice none 0 0) [] := ⟨none, 0, rfl, Nat.le_refl _, by unfold maxLen; omega, .inl rfl⟩

/-! the law's table -/
theorem fldsAt_new {w : World} {b : Nat} {fs : List Fld} (h : Blk w b 56 (flat fs).toArray) (h1 : 1 ≤ fs.length) (h9 : fs.length ≤ 1000) : FldsAt w (.slice (some ⟨b, 0, none⟩) fs.length fs.length) fs :=
  FldsAt.of_own (B := 0) ⟨flat_len fs, .inr ⟨b, fs.length, (flat fs).toArray, rfl, Nat.zero_le _, h, Nat.le_refl _, by unfold maxLen; omega, by simp [flat_len], by rw [List.take_of_length_le (by simp [flat_len])]⟩⟩
theorem ints_tab0 : IntsL tab0 := fun i hi => by
  have h2 : i < 2 := hi
  obtain rfl | rfl : i = 0 ∨ i = 1 := by omega
  · refine ⟨⟨by decide, by decide⟩, fun k hk => ?_⟩
    have h3 : k < 3 := hk
    obtain rfl | rfl | rfl : k = 0 ∨ k = 1 ∨ k = 2 := by omega
    all_goals exact ⟨by decide, by decide, by decide, by decide, by decide, by decide, by decide⟩
  · refine ⟨⟨by decide, by decide⟩, fun k hk => ?_⟩
    have h3 : k < 3 := hk
    obtain rfl | rfl | rfl : k = 0 ∨ k = 1 ∨ k = 2 := by omega
    all_goals exact ⟨by decide, by decide, by decide, by decide, by decide, by decide, by decide⟩
set_option maxRecDepth 20000 in
set_option maxHeartbeats 1000000 in
theorem table_any (w : World) : Calls Tryz.prog 32 #[] w fun e w' => ∃ b, e = .returned (.slice (some ⟨b, 0, none⟩) 2 2) ∧ Below w.heap.size w w' ∧ TabW w' (.slice (some ⟨b, 0, none⟩) 2 2) tab0 := by
  go_enter Tryz.func32, Tryz.ntmps32
  go_wp2_with fail
  obtain ⟨W, hW⟩ : ∃ W, W = (((((w.alloc (.cells #[.int .i64 1, .int .i64 0, .int .i64 (-1), .string ⟨#[77, 90]⟩, .int .i64 2, .int .i64 2, .int .i64 (-1), .string ⟨#[]⟩, .int .i64 3, .int .i64 0, .int .i64 1, .string ⟨#[]⟩] 56)).alloc (.cells #[.int .i64 2, .slice (some ⟨w.heap.size, 0, none⟩) 3 3] 52)).alloc (.cells #[.int .i64 2, .int .i64 1, .int .i64 (-1), .string ⟨#[]⟩, .int .i64 5, .int .i64 2, .int .i64 0, .string ⟨#[]⟩, .int .i64 6, .int .i64 1, .int .i64 (-1), .string ⟨#[]⟩] 56)).alloc (.cells #[.int .i64 7, .slice (some ⟨w.heap.size + 1 + 1, 0, none⟩) 3 3] 52)).alloc (.cells #[.int .i64 2, .slice (some ⟨w.heap.size, 0, none⟩) 3 3, .int .i64 7, .slice (some ⟨w.heap.size + 1 + 1, 0, none⟩) 3 3] 52)) := ⟨_, rfl⟩
  rw [← hW]
  have hB : Below w.heap.size w W := by
    rw [hW]
    exact (((((Below.refl _ _).alloc (Nat.le_refl _) _).alloc (by simp) _).alloc (by simp; omega) _).alloc (by simp; omega) _).alloc (by simp; omega) _
  have b0 : Blk W w.heap.size 56 (flat (tab0.getD 0 zm).fs).toArray := by rw [hW]; exact ((((Blk.new w _ _).alloc_ _).alloc_ _).alloc_ _).alloc_ _
  have b2 : Blk W (w.heap.size + 1 + 1) 56 (flat (tab0.getD 1 zm).fs).toArray := by
    rw [hW]
    have := Blk.new ((w.alloc (.cells #[.int .i64 1, .int .i64 0, .int .i64 (-1), .string ⟨#[77, 90]⟩, .int .i64 2, .int .i64 2, .int .i64 (-1), .string ⟨#[]⟩, .int .i64 3, .int .i64 0, .int .i64 1, .string ⟨#[]⟩] 56)).alloc (.cells #[.int .i64 2, .slice (some ⟨w.heap.size, 0, none⟩) 3 3] 52)) 56 #[.int .i64 2, .int .i64 1, .int .i64 (-1), .string ⟨#[]⟩, .int .i64 5, .int .i64 2, .int .i64 0, .string ⟨#[]⟩, .int .i64 6, .int .i64 1, .int .i64 (-1), .string ⟨#[]⟩]
    rw [World.size_alloc, World.size_alloc] at this
    exact (this.alloc_ _).alloc_ _
  have b4 : Blk W (w.heap.size + 1 + 1 + 1 + 1) 52 #[.int .i64 2, .slice (some ⟨w.heap.size, 0, none⟩) 3 3, .int .i64 7, .slice (some ⟨w.heap.size + 1 + 1, 0, none⟩) 3 3] := by
    rw [hW]
    have := Blk.new ((((w.alloc (.cells #[.int .i64 1, .int .i64 0, .int .i64 (-1), .string ⟨#[77, 90]⟩, .int .i64 2, .int .i64 2, .int .i64 (-1), .string ⟨#[]⟩, .int .i64 3, .int .i64 0, .int .i64 1, .string ⟨#[]⟩] 56)).alloc (.cells #[.int .i64 2, .slice (some ⟨w.heap.size, 0, none⟩) 3 3] 52)).alloc (.cells #[.int .i64 2, .int .i64 1, .int .i64 (-1), .string ⟨#[]⟩, .int .i64 5, .int .i64 2, .int .i64 0, .string ⟨#[]⟩, .int .i64 6, .int .i64 1, .int .i64 (-1), .string ⟨#[]⟩] 56)).alloc (.cells #[.int .i64 7, .slice (some ⟨w.heap.size + 1 + 1, 0, none⟩) 3 3] 52)) 52 #[.int .i64 2, .slice (some ⟨w.heap.size, 0, none⟩) 3 3, .int .i64 7, .slice (some ⟨w.heap.size + 1 + 1, 0, none⟩) 3 3]
    simpa using this
  clear hW
  go_ret
  refine ⟨_, rfl, hB, ⟨.inr ⟨_, 0, 2, rfl, by decide, by decide, by unfold maxLen; omega, b4.lt, b4.lt, fun i hi => ?_⟩, ints_tab0⟩⟩
  have h2 : i < 2 := hi
  obtain rfl | rfl : i = 0 ∨ i = 1 := by omega
  · exact ⟨.slice (some ⟨w.heap.size, 0, none⟩) 3 3, by rw [b4.cell]; rfl, by rw [b4.cell]; rfl, fldsAt_new b0 (by decide) (by decide), fun g hg => by simp only [Value.ownBlock, Option.some.injEq] at hg; rw [← hg]; exact b0.lt⟩
  · exact ⟨.slice (some ⟨w.heap.size + 1 + 1, 0, none⟩) 3 3, by rw [b4.cell]; rfl, by rw [b4.cell]; rfl, fldsAt_new b2 (by decide) (by decide), fun g hg => by simp only [Value.ownBlock, Option.some.injEq] at hg; rw [← hg]; exact b2.lt⟩
end SanA
section RecFrame
open Go.RowKit Go.ChangeShapes Go.WideShapes Go.ChangeAt Fx

section
variable {H : Type} {enc : TypeId × Value → H} {P : Program}
theorem post_of_below {f : Func} {s : ChangeSpec} {apart fresh handsOn again : Bool} {W W' : World} {args : Array Value} {v : Value} {ds gs : List (DataW H)} {before pa pv : List MemPlace}
    (hW : DataW.Whole enc P f.params.toList s.vars apart W args.toList ds gs before)
    (hres : ∀ (b : Nat) (sp : Nat → Bool) (hd : Bool), DataW.TrodAll enc P W' b sp hd f.resultTypes.toList (v.resultList f.resultTypes.size) (s.fn H (ds ++ gs)).results [])
    (hargs : ∀ sp : Nat → Bool, (∀ p ∈ before, sp p.block = true) → DataW.TrodAll enc P W' 0 sp true f.params.toList args.toList (s.fn H (ds ++ gs)).args pa)
    (hvars : ∀ sp : Nat → Bool, (∀ p ∈ before, sp p.block = true) → DataW.TrodVars enc P W' sp s.vars (s.fn H (ds ++ gs)).vars pv)
    (hps : before = pa ++ pv) (hb : Below W.heap.size W W')
    (hok : ∀ (j : Nat) (t : TypeId) (r : Value), f.resultTypes[j]? = some t → (v.resultList f.resultTypes.size)[j]? = some r → Value.okWide P W' .any 0 t r) :
    s.post enc P f apart fresh handsOn again W args v W' := by
  have hlt : ∀ p ∈ before, p.block < W.heap.size := fun p hp => hW.lt p hp
  have hold : ∀ p ∈ before, (fun b => decide (b < W.heap.size)) p.block = true := fun p hp => by simpa using hlt p hp
  refine ⟨ds, gs, before, [], pa, pv, hW, hres _ _ _, hargs _ hold, hvars _ hold, World.keptBut_mono (fun p hp => ⟨hp, ?_⟩) (hb.frame (· ∈ before)), fun _ => ?_⟩
  · rw [hps, List.mem_append] at hp
    exact Or.inr hp
  · obtain ⟨_, _, _, _, _, hz, hn⟩ := hW
    refine ⟨hok, _, _, ([] ++ pa) ++ pv, ⟨[] ++ pa, pv, trodAll_append (hargs _ (fun _ _ => rfl)) (hres _ _ _), hvars _ (fun _ _ => rfl), rfl, ?_, ?_⟩, ?_⟩
    · intro b off hp
      have hin : MemPlace.cell b off ∈ before := by rw [hps]; simpa using hp
      rw [hb.frozen (hlt _ hin)]
      exact hz b off hin
    · intro ha
      have := hn ha
      rw [hps] at this
      simpa using this
    · intro p hp _
      rw [hps]
      simpa using hp
end


theorem Tryz.own : ownKnob Tryz.prog.godebug = none := by kernel_rfl
theorem laidOut : laidOutB Tryz.prog = true := by kernel_rfl
theorem gNon : Tryz.prog.globalNamed "evergreen/format.errWrong" = some 1 := by kernel_rfl
theorem gNonType : (Tryz.prog.globals[1]?).map (·.type) = some 101 := by kernel_rfl
theorem cellsErr : Tryz.prog.cellsOf 227 = 1 := by kernel_rfl
theorem cellsStr : Tryz.prog.cellsOf 9 = 1 := by kernel_rfl
theorem star : "*" ++ "errors.errorString" = "*errors.errorString" := by decide
theorem rowErr (u : TypeId) (h : Tryz.prog.typeName? 3 u = some "*errors.errorString") : u = 225 :=
  typeName_ptr_named (nm := "errors.errorString") (by rw [star]; kernel_rfl) (by kernel_rfl) (by decide) u (by rw [star]; exact h)

abbrev laidAll : List (String × DataW Unit) := [("math/bits.deBruijn32tab", Rows.laid_math_bits_deBruijn32tab), ("math/bits.deBruijn64tab", Rows.laid_math_bits_deBruijn64tab), ("internal/strconv.uint64pow10", Rows.laid_internal_strconv_uint64pow10), ("errors.errorType", Rows.laid_errors_errorType), ("strconv.ErrRange", Rows.laid_strconv_ErrRange), ("strconv.ErrSyntax", Rows.laid_strconv_ErrSyntax), ("evergreen/format.errWrong", Rows.laid_evergreen_format_errWrong)]
theorem gTy : Tryz.prog.globalNamed "errors.errorType" = some 0 := by kernel_rfl
theorem rtRow : (Tryz.prog.cutTypes.find? (·.1 == "internal/reflectlite.rtype")).map (·.2) = some 155 := by kernel_rfl
theorem oneRow : ((List.range Tryz.prog.types.size).filter fun t => Tryz.prog.rowNamed t [101, 114, 114, 111, 114]) = [101] := by kernel_rfl
theorem handleErr : typeHandle Tryz.prog 101 = .pointer (some ⟨7, 101, none⟩) := by kernel_rfl
theorem errTy_of_laid {W : World} (h : laidMetH Tryz.prog [("errors.errorType", Rows.laid_errors_errorType)] W) : ErrTy W := by
  have h' : laidMet Tryz.prog [] W ∧ handlesMet Tryz.prog [("errors.errorType", Rows.laid_errors_errorType)] W := h
  obtain ⟨name, u, ty, e1, e2, e3, e4, e5⟩ := h'.2 _ (List.mem_singleton.2 rfl)
  have en : name = [101, 114, 114, 111, 114] := (Option.some.inj e1).symm
  subst en
  obtain rfl := Option.some.inj (rtRow.symm.trans e2)
  have hm : ty ∈ (List.range Tryz.prog.types.size).filter fun t => Tryz.prog.rowNamed t [101, 114, 114, 111, 114] := List.mem_filter.2 ⟨List.mem_range.2 e3, e4⟩
  rw [oneRow] at hm
  obtain rfl := List.mem_singleton.1 hm
  rw [handleErr] at e5
  have h0 := World.var?_cell gTy e5 0
  unfold ErrTy
  simpa using h0
/-- What the row's list gives. -/
theorem ready_of_laid {W : World} (h : laidMetH Tryz.prog laidAll W) : ∃ er, Ready W er := by
  have h5 : laidMetH Tryz.prog [("errors.errorType", Rows.laid_errors_errorType)] W := laidMetH.filter (fun x => x.1 == "errors.errorType") h
  have h6 : laidMetH Tryz.prog [("evergreen/format.errWrong", Rows.laid_evergreen_format_errWrong)] W := laidMetH.filter (fun x => x.1 == "evergreen/format.errWrong") h
  have k6 : laidMet Tryz.prog [("evergreen/format.errWrong", Rows.laid_evergreen_format_errWrong)] W := h6
  obtain ⟨a3, _, hv3, -, -, -⟩ := laid_sentinel k6 gNon gNonType Tryz.underlying101 rowErr Tryz.underlying225 Tryz.underlying227 rfl rfl Tryz.underlying9 cellsErr cellsStr
  exact ⟨a3, ⟨by have h0 := World.var?_cell gNon hv3 0; simpa using h0⟩, errTy_of_laid h5⟩

def putCells (cs : Array Value) : Obj → Obj
  | .cells _ t frozen => .cells cs t frozen
  | o => o
/-- So many blocks has the settled world. -/
noncomputable def low : Nat := (World.holding Tryz.prog default ⟨#[], #[], []⟩).heap.size
/-- A world for the witness: the settled one, the tables holding what their initialisers lay, and the three errors in blocks of their own. -/
noncomputable def laidWorld (os : Os) : World :=
  { World.holding Tryz.prog os ⟨#[.cells #[.string { data := #[118, 97, 108, 117, 101, 32, 111, 117, 116, 32, 111, 102, 32, 114, 97, 110, 103, 101] }] 227, .cells #[.string { data := #[105, 110, 118, 97, 108, 105, 100, 32, 115, 121, 110, 116, 97, 120] }] 227, .cells #[.string { data := #[102, 111, 114, 109, 97, 116, 58, 32, 110, 111, 116, 32, 118, 97, 108, 105, 100] }] 227], #[], []⟩ with heap := ((((((((World.holding Tryz.prog os ⟨#[.cells #[.string { data := #[118, 97, 108, 117, 101, 32, 111, 117, 116, 32, 111, 102, 32, 114, 97, 110, 103, 101] }] 227, .cells #[.string { data := #[105, 110, 118, 97, 108, 105, 100, 32, 115, 121, 110, 116, 97, 120] }] 227, .cells #[.string { data := #[102, 111, 114, 109, 97, 116, 58, 32, 110, 111, 116, 32, 118, 97, 108, 105, 100] }] 227], #[], []⟩).heap.modify 5 (putCells #[.int .u8 0, .int .u8 1, .int .u8 28, .int .u8 2, .int .u8 29, .int .u8 14, .int .u8 24, .int .u8 3, .int .u8 30, .int .u8 22, .int .u8 20, .int .u8 15, .int .u8 25, .int .u8 17, .int .u8 4, .int .u8 8, .int .u8 31, .int .u8 27, .int .u8 13, .int .u8 23, .int .u8 21, .int .u8 19, .int .u8 16, .int .u8 7, .int .u8 26, .int .u8 12, .int .u8 18, .int .u8 6, .int .u8 11, .int .u8 5, .int .u8 10, .int .u8 9])).modify 6 (putCells #[.int .u8 0, .int .u8 1, .int .u8 56, .int .u8 2, .int .u8 57, .int .u8 49, .int .u8 28, .int .u8 3, .int .u8 61, .int .u8 58, .int .u8 42, .int .u8 50, .int .u8 38, .int .u8 29, .int .u8 17, .int .u8 4, .int .u8 62, .int .u8 47, .int .u8 59, .int .u8 36, .int .u8 45, .int .u8 43, .int .u8 51, .int .u8 22, .int .u8 53, .int .u8 39, .int .u8 33, .int .u8 30, .int .u8 24, .int .u8 18, .int .u8 12, .int .u8 5, .int .u8 63, .int .u8 55, .int .u8 48, .int .u8 27, .int .u8 60, .int .u8 41, .int .u8 37, .int .u8 16, .int .u8 46, .int .u8 35, .int .u8 44, .int .u8 21, .int .u8 52, .int .u8 32, .int .u8 23, .int .u8 11, .int .u8 54, .int .u8 26, .int .u8 40, .int .u8 15, .int .u8 34, .int .u8 20, .int .u8 31, .int .u8 10, .int .u8 25, .int .u8 14, .int .u8 19, .int .u8 9, .int .u8 13, .int .u8 8, .int .u8 7, .int .u8 6])).modify 4 (putCells #[.int .u64 1, .int .u64 10, .int .u64 100, .int .u64 1000, .int .u64 10000, .int .u64 100000, .int .u64 1000000, .int .u64 10000000, .int .u64 100000000, .int .u64 1000000000, .int .u64 10000000000, .int .u64 100000000000, .int .u64 1000000000000, .int .u64 10000000000000, .int .u64 100000000000000, .int .u64 1000000000000000, .int .u64 10000000000000000, .int .u64 100000000000000000, .int .u64 1000000000000000000, .int .u64 10000000000000000000])).modify 0 (putCells #[.iface 155 (.agg #[.pointer (some ⟨7, 101, none⟩)])])).modify 3 (putCells #[.iface 225 (.pointer (some ⟨low + 0, 0, none⟩))])).modify 2 (putCells #[.iface 225 (.pointer (some ⟨low + 1, 0, none⟩))])).modify 1 (putCells #[.iface 225 (.pointer (some ⟨low + 2, 0, none⟩))])) }
end RecFrame
end Go.Proofs.YtlhobhfmombjjaaGreatDoor
