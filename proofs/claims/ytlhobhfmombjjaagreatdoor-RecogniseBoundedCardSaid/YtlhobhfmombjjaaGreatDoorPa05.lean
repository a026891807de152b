/- One element is appended to a row of the call's own. No condition of its own. The closure of adder: the sum of the first n bytes, each byte looked at once. Conditions: the function of the bytes keeps the world; at most 65536 bytes. Maps from ints to whatever, told by their entries: looking up, laying a new entry. No condition of its own. add, of a kind that there is. Conditions: the table lies there; the field's numbers are ints. -/
import Derived.Test.YtlhobhfmombjjaaGreatDoorPa04
import Derived.Deep.RegionLaw
import Derived.Test.YtlhobhfmombjjaaGreatDoorPa03
import Derived.WalkKit
import Derived.WideMake
import Derived.MapKept
import Derived.Deep.DeepCutAuto
namespace Go.Proofs.YtlhobhfmombjjaaGreatDoor
section FmtI
open Go.RowKit Fx Go.Sort

theorem infoFld : (Tryz.prog.info? 56).map (fun i => (i.zero, i.size, i.bytes)) = some (some (.agg #[.int .i64 0, .int .i64 0, .int .i64 0, .string ⟨#[]⟩]), 4, 40) := by kernel_rfl
theorem infoFmt : (Tryz.prog.info? 52).map (fun i => (i.zero, i.size, i.bytes)) = some (some (.agg #[.int .i64 0, .slice none 0 0]), 2, 32) := by kernel_rfl
theorem Blk.ne_ {w : World} {g g' : Nat} {t t' : TypeId} {cs cs' : Array Value} (h : Blk w g t cs) (h' : Blk w g' t' cs') (hne : t ≠ t') : g ≠ g' := by
  rintro rfl
  unfold Blk at h h'
  rw [h] at h'
  injection h' with h'
  injection h' with _ ht
  exact hne ht
theorem own_blk_ne {w : World} {base g : Nat} {e t : TypeId} {size n : Nat} {v : Value} {xs : List Value} {cs : Array Value} (h : w.ownsRow base e size v n xs) (hg : Blk w g t cs) (hne : e ≠ t) : v.ownBlock ≠ some g := by
  rcases h.2 with ⟨rfl, _⟩ | ⟨g', cap, cur, rfl, _, hh, _⟩
  · simp [Value.ownBlock]
  · intro he
    have : g' = g := by simpa [Value.ownBlock] using he
    subst this
    exact Blk.ne_ (t := e) hh hg hne rfl
/-- What an append of one element leaves. -/
structure Grew (w w' : World) (base : Nat) (e : TypeId) (size : Nat) (v v' : Value) (n : Nat) (xs : List Value) : Prop where
  own : w'.ownsRow base e size v' n xs
  grown : w.grownBy w' v.ownBlock
  blk : v'.ownBlock = v.ownBlock ∨ v'.ownBlock = some w.heap.size
section
variable {w w' : World} {base : Nat} {e : TypeId} {size : Nat} {v v' : Value} {n : Nat} {xs : List Value}
/-- A block of another type is as it was. -/
theorem Grew.blkOther {m : Nat} {ys : List Value} {g : Nat} {t : TypeId} {cs : Array Value} (h : Grew w w' base e size v v' n xs) (h0 : w.ownsRow base e size v m ys) (hg : Blk w g t cs) (hne : e ≠ t) : Blk w' g t cs :=
  (h.grown.block g hg.lt fun e => own_blk_ne h0 hg hne e.symm).trans hg
theorem Grew.heapOther {m : Nat} {ys : List Value} {g : Nat} (h : Grew w w' base e size v v' n xs) (h0 : w.ownsRow base e size v m ys) (hl : g < w.heap.size) (hne : ∀ cur fr, w.heap[g]? ≠ some (.cells cur e fr)) : w'.heap[g]? = w.heap[g]? :=
  h.grown.block g hl fun e1 => by
    rcases h0.2 with ⟨rfl, _⟩ | ⟨g', cap, cur, rfl, _, hh, _⟩
    · simp [Value.ownBlock] at e1
    · have : g = g' := by simpa [Value.ownBlock] using e1
      subst this
      exact hne _ _ hh
end
theorem run_append_fld (w : World) (ty : TypeId) (v : Value) (n : Nat) (xs : List Value) (hown : w.ownsRow 0 56 4 v n xs) (hn : n ≤ 1000) (g : Nat) (f : Fld) (hg : w.heap[g]? = some (.cells (fldC f).toArray 56 (0, 0))) :
    ∃ v' w', (Builtin.append_ #[50, 50] ty #[v, .slice (some ⟨g, 0, none⟩) 1 1]).run Tryz.prog w = .ok v' w' ∧ Grew w w' 0 56 4 v v' (n + 1) (xs ++ fldC f) := by
  obtain ⟨i0, hi, hz0, hz1, hz2⟩ := info_parts infoFld
  obtain ⟨v', w', h1, h2, h3, _, h5⟩ := run_append_own_at (P := Tryz.prog) w 0 50 ty 56 i0 _ 4 40 Tryz.underlying50 hi hz0 hz1 hz2 rfl (by decide) v n xs hown ⟨g, 0, none⟩ 1 1 (fldC f) rfl
    (fun j u hu => by
      have hadd : (⟨g, 0, none⟩ : Addr).add j = ⟨g, j, none⟩ := by unfold Addr.add; split <;> simp_all
      rw [hadd, cell_of_row w g j _ _ _ hg]; simpa using hu)
    (fun u hu => by simp [fldC] at hu; rcases hu with rfl | rfl | rfl | rfl <;> rfl) (by unfold maxLen; omega) (by omega) (Nat.zero_le _)
  exact ⟨v', w', h1, h2, h3, h5⟩
theorem step_append_fld {ops : Array Oper} {o : Oper} {a : Act} {w : World} {K : Act → World → Prop} {Q : Exit → Act → World → Prop} {E : Prop}
    (hg : o.guard = none) (s x : Operand) (hop : o.op = Op.call { callee := Callee.builtin Builtin.append, args := #[s, x], argTypes := #[50, 50] })
    (v : Value) (n : Nat) (xs : List Value) (hs : a.eval s = v) (hown : w.ownsRow 0 56 4 v n xs) (hn : n ≤ 1000) (g : Nat) (f : Fld) (hx : a.eval x = .slice (some ⟨g, 0, none⟩) 1 1)
    (hb : w.heap[g]? = some (.cells (fldC f).toArray 56 (0, 0)))
    (hK : ∀ v' w', Grew w w' 0 56 4 v v' (n + 1) (xs ++ fldC f) → K (a.put o.dst v') w') :
    if Region.wanted o (yielded ops a.tmps) = true then Oper.wp Tryz.prog o a w K Q else E := by
  have hw : Region.wanted o (yielded ops a.tmps) = true := by simp [Region.wanted, hg]
  rw [if_pos hw]
  obtain ⟨v', w', hr, h2⟩ := run_append_fld w o.type v n xs hown hn g f hb
  unfold Oper.wp
  simp [execOp, hop, resolve, invoke, builtin, hs, hx, hr, Result.andThen]
  exact hK _ _ h2
theorem run_append_fmt (w : World) (ty : TypeId) (v : Value) (n : Nat) (xs : List Value) (hown : w.ownsRow 0 52 2 v n xs) (hn : n ≤ 1000) (g : Nat) (id : Int) (u : Value) (hu : u.oneCell' = true) (hg : w.heap[g]? = some (.cells #[.int .i64 id, u] 52 (0, 0))) :
    ∃ v' w', (Builtin.append_ #[23, 23] ty #[v, .slice (some ⟨g, 0, none⟩) 1 1]).run Tryz.prog w = .ok v' w' ∧ Grew w w' 0 52 2 v v' (n + 1) (xs ++ [.int .i64 id, u]) := by
  obtain ⟨i0, hi, hz0, hz1, hz2⟩ := info_parts infoFmt
  obtain ⟨v', w', h1, h2, h3, _, h5⟩ := run_append_own_at (P := Tryz.prog) w 0 23 ty 52 i0 _ 2 32 Tryz.underlying23 hi hz0 hz1 hz2 rfl (by decide) v n xs hown ⟨g, 0, none⟩ 1 1 [.int .i64 id, u] rfl
    (fun j y hy => by
      have hadd : (⟨g, 0, none⟩ : Addr).add j = ⟨g, j, none⟩ := by unfold Addr.add; split <;> simp_all
      rw [hadd, cell_of_row w g j _ _ _ hg]; simpa using hy)
    (fun y hy => by simp at hy; rcases hy with rfl | rfl; rfl; exact hu) (by unfold maxLen; omega) (by omega) (Nat.zero_le _)
  exact ⟨v', w', h1, h2, h3, h5⟩
theorem step_append_fmt {ops : Array Oper} {o : Oper} {a : Act} {w : World} {K : Act → World → Prop} {Q : Exit → Act → World → Prop} {E : Prop}
    (hg : o.guard = none) (s x : Operand) (hop : o.op = Op.call { callee := Callee.builtin Builtin.append, args := #[s, x], argTypes := #[23, 23] })
    (v : Value) (n : Nat) (xs : List Value) (hs : a.eval s = v) (hown : w.ownsRow 0 52 2 v n xs) (hn : n ≤ 1000) (g : Nat) (id : Int) (u : Value) (hu : u.oneCell' = true) (hx : a.eval x = .slice (some ⟨g, 0, none⟩) 1 1)
    (hb : w.heap[g]? = some (.cells #[.int .i64 id, u] 52 (0, 0)))
    (hK : ∀ v' w', Grew w w' 0 52 2 v v' (n + 1) (xs ++ [.int .i64 id, u]) → K (a.put o.dst v') w') :
    if Region.wanted o (yielded ops a.tmps) = true then Oper.wp Tryz.prog o a w K Q else E := by
  have hw : Region.wanted o (yielded ops a.tmps) = true := by simp [Region.wanted, hg]
  rw [if_pos hw]
  obtain ⟨v', w', hr, h2⟩ := run_append_fmt w o.type v n xs hown hn g id u hu hb
  unfold Oper.wp
  simp [execOp, hop, resolve, invoke, builtin, hs, hx, hr, Result.andThen]
  exact hK _ _ h2
end FmtI
section RecF
open Go.RowKit Fx Rec

theorem infoInt5 : (Tryz.prog.info? 3).map (fun i => (i.zero, i.size, i.bytes)) = some (some (.int .i64 0), 1, 8) := by kernel_rfl
theorem run_append_one (w : World) (ty : TypeId) (v : Value) (n : Nat) (xs : List Value) (hown : w.ownsRow 0 3 1 v n xs) (hn : n ≤ 1000000) (g : Nat) (x : Int) (hg : w.heap[g]? = some (.cells #[.int .i64 x] 3 (0, 0))) :
    ∃ v' w', (Builtin.append_ #[24, 24] ty #[v, .slice (some ⟨g, 0, none⟩) 1 1]).run Tryz.prog w = .ok v' w' ∧ Grew w w' 0 3 1 v v' (n + 1) (xs ++ [.int .i64 x]) := by
  obtain ⟨i0, hi, hz0, hz1, hz2⟩ := info_parts infoInt5
  obtain ⟨v', w', h1, h2, h3, _, h5⟩ := run_append_own_at (P := Tryz.prog) w 0 24 ty 3 i0 _ 1 8 Tryz.underlying24 hi hz0 hz1 hz2 rfl (by decide) v n xs hown ⟨g, 0, none⟩ 1 1 [.int .i64 x] rfl
    (fun j u hu => by
      have hadd : (⟨g, 0, none⟩ : Addr).add j = ⟨g, j, none⟩ := by unfold Addr.add; split <;> simp_all
      rw [hadd, cell_of_row w g j _ _ _ hg]; simpa using hu)
    (fun u hu => by simp at hu; subst hu; rfl) (by unfold maxLen; omega) (by omega) (Nat.zero_le _)
  exact ⟨v', w', h1, h2, h3, h5⟩
theorem step_append_one {ops : Array Oper} {o : Oper} {a : Act} {w : World} {K : Act → World → Prop} {Q : Exit → Act → World → Prop} {E : Prop}
    (hg : o.guard = none) (s x : Operand) (hop : o.op = Op.call { callee := Callee.builtin Builtin.append, args := #[s, x], argTypes := #[24, 24] })
    (v : Value) (n : Nat) (xs : List Value) (hs : a.eval s = v) (hown : w.ownsRow 0 3 1 v n xs) (hn : n ≤ 1000000) (g : Nat) (y : Int) (hx : a.eval x = .slice (some ⟨g, 0, none⟩) 1 1)
    (hb : w.heap[g]? = some (.cells #[.int .i64 y] 3 (0, 0)))
    (hK : ∀ v' w', Grew w w' 0 3 1 v v' (n + 1) (xs ++ [.int .i64 y]) → K (a.put o.dst v') w') :
    if Region.wanted o (yielded ops a.tmps) = true then Oper.wp Tryz.prog o a w K Q else E := by
  have hw : Region.wanted o (yielded ops a.tmps) = true := by simp [Region.wanted, hg]
  rw [if_pos hw]
  obtain ⟨v', w', hr, h2⟩ := run_append_one w o.type v n xs hown hn g y hb
  unfold Oper.wp
  simp [execOp, hop, resolve, invoke, builtin, hs, hx, hr, Result.andThen]
  exact hK _ _ h2

/-- What the closure of adder keeps: the sums of the first 0 to k bytes, and the function of the bytes. -/
structure SumsAt (w : World) (sb ab : Nat) (fv : Value) (σ : Nat → Int) (k : Nat) (vs : Value) : Prop where
  sb : Blk w sb 24 #[vs]
  ab : Blk w ab 114 #[fv]
  row : w.ownsRow 0 3 1 vs (k + 1) ((List.range (k + 1)).map fun i => Value.int .i64 (σ i))
theorem SumsAt.slice_ {w : World} {sb ab : Nat} {fv : Value} {σ : Nat → Int} {k : Nat} {vs : Value} (h : SumsAt w sb ab fv σ k vs) :
    ∃ g c, vs = .slice (some ⟨g, 0, none⟩) (k + 1) c ∧ k + 1 ≤ c ∧ c ≤ maxLen ∧ g < w.heap.size ∧ ∀ i, i ≤ k → w.cell? ⟨g, i, none⟩ = some (.int .i64 (σ i)) := by
  rcases h.row.2 with ⟨_, h0⟩ | ⟨g, cap, cur, rfl, _, hh, hl, hm, _, ht⟩
  · omega
  · refine ⟨g, cap, rfl, hl, hm, lt_of_heap hh, fun i hi => ?_⟩
    rw [cell_of_row w g i cur _ (0, 0) hh]
    have e : (cur.toList.take ((k + 1) * 1))[i]? = ((List.range (k + 1)).map fun i => Value.int .i64 (σ i))[i]? := by rw [ht]
    rw [List.getElem?_take, if_pos (by omega)] at e
    simp only [Array.getElem?_toList] at e
    rw [e]
    simp [List.getElem?_range (show i < k + 1 by omega)]
/-- The numbers of bytes and their sums. -/
structure Adds (σ b : Nat → Int) : Prop where
  step : ∀ i, i ≤ 100000 → σ (i + 1) = σ i + b i
  lo : ∀ i, i ≤ 100000 → 0 ≤ σ i ∧ σ i ≤ 100000000
  byte : ∀ i, i ≤ 100000 → 0 ≤ b i ∧ b i ≤ 255
set_option maxRecDepth 20000 in
set_option maxHeartbeats 2000000 in
theorem sum_any (P : Nat → Prop) (fn : FuncId) (cap : Array Value) (σ b : Nat → Int) (sb ab k n : Nat) (vs : Value) (w : World) (hS : SumsAt w sb ab (.func (.func fn) #[] cap) σ k vs) (hE : Enters fn) (hA : Adds σ b)
    (hk : k ≤ 65536) (hn : n ≤ 65536) (pS : ¬ P sb) (pV : ∀ g, vs.ownBlock = some g → ¬ P g) (pin : ∀ g, P g → g < w.heap.size) (pA : P ab)
    (hat : ∀ W (i : Nat), Kept P w W → k ≤ i → i < n → Calls Tryz.prog fn (#[.int .i64 i] ++ cap) W fun e w' => e = .returned (.int .u8 (b i)) ∧ w' = W) :
    Calls Tryz.prog 93 #[.int .i64 n, .pointer (some ⟨sb, 0, none⟩), .pointer (some ⟨ab, 0, none⟩)] w fun e w' =>
      e = .returned (.int .i64 (σ n)) ∧ Kept P w w' ∧ ∃ k' vs', (k ≤ k' ∧ n ≤ k' ∧ (k' = k ∨ k' = n)) ∧ SumsAt w' sb ab (.func (.func fn) #[] cap) σ k' vs' ∧ ∀ g, vs'.ownBlock = some g → ¬ P g := by
  have HI := Lib.hid (And.intro hS (And.intro hE (And.intro hA (And.intro pS (And.intro pV (And.intro pin (And.intro pA hat)))))))
  obtain ⟨g, c, rfl, hc1, hc2, -, -⟩ := hS.slice_
  have c0 := hS.sb.cell 0
  simp only [List.getElem?_toArray, List.getElem?_cons_zero] at c0
  have hk1 : IntKind.i64.wrap ((k : Int) + 1 - 1) = k := by rw [wr64 (by omega) (by omega)]; omega
  clear hS hE hA pS pV pin pA hat
  go_enter Tryz.func93, Tryz.ntmps93
  go_wp2_with fail
  go_loopw [5] (fun i wr => ∃ (j : Nat) (vs' : Value), i = .int .i64 j ∧ k ≤ j ∧ (j ≤ n ∨ j = k) ∧ Hid (Kept P w wr ∧ SumsAt wr sb ab (.func (.func fn) #[] cap) σ j vs' ∧ ∀ g, vs'.ownBlock = some g → ¬ P g)) (fun i _ => n - (intOf i).toNat)
  case atStart => exact ⟨k, _, rfl, Nat.le_refl _, .inr rfl, Lib.hid ⟨Kept.refl _ _, HI.out.1, HI.out.2.2.2.2.1⟩⟩
  case round =>
    obtain ⟨j, vs', rfl, hkj, hjn, HJ⟩ := hrel
    obtain ⟨wq, rfl⟩ : ∃ wq, wq = wr := ⟨_, rfl⟩
    obtain ⟨g', c', rfl, l1, l2, lg, hcl⟩ := HJ.out.2.1.slice_
    have hj : j ≤ 65536 := by omega
    have d0 := HJ.out.2.1.sb.cell 0
    have d1 := HJ.out.2.1.ab.cell 0
    simp only [List.getElem?_toArray, List.getElem?_cons_zero] at d0 d1
    have z0 := HJ.out.2.1.sb.frozen 0
    have lsb := HJ.out.2.1.sb.lt
    have lab := HJ.out.2.1.ab.lt
    unfold maxLen at l2
    by_cases hlt : j < n
    · have d2 := hcl j (Nat.le_refl _)
      obtain ⟨A, hA⟩ : ∃ A, A = σ j := ⟨_, rfl⟩
      obtain ⟨B, hB⟩ : ∃ B, B = b j := ⟨_, rfl⟩
      have hst := HI.out.2.2.1.step j (by omega)
      have hlo := HI.out.2.2.1.lo j (by omega)
      have hby := HI.out.2.2.1.byte j (by omega)
      rw [← hA] at d2 hst hlo
      rw [← hB] at hst hby
      obtain ⟨C, hC⟩ : ∃ C, C = A + B := ⟨_, rfl⟩
      have hw1 : IntKind.i64.wrap B = B := wr64 (by omega) (by omega)
      have hw2 : IntKind.i64.wrap (A + B) = C := by rw [wr64 (by omega) (by omega)]; exact hC.symm
      have HG : Hid (∀ (W : World) (v1 : Value) (w1 : World), Below wq.heap.size wq W → Grew W w1 0 3 1 (.slice (some ⟨g', 0, none⟩) (j + 1) c') v1 (j + 1 + 1) (((List.range (j + 1)).map fun i => Value.int .i64 (σ i)) ++ [.int .i64 C]) →
          Blk w1 sb 24 #[.slice (some ⟨g', 0, none⟩) (j + 1) c'] ∧ Kept P w (w1.setCell ⟨sb, 0, none⟩ v1) ∧ SumsAt (w1.setCell ⟨sb, 0, none⟩ v1) sb ab (.func (.func fn) #[] cap) σ (j + 1) v1 ∧ ∀ g, v1.ownBlock = some g → ¬ P g) := Lib.hid fun W v1 w1 hb hG => by
        have hrow := ownsRow_below HJ.out.2.1.row hb
        have hs1 : Blk W sb 24 #[.slice (some ⟨g', 0, none⟩) (j + 1) c'] := (hb.block sb lsb).trans HJ.out.2.1.sb
        have hs2 := hG.blkOther hrow hs1 (by decide)
        have ha1 : Blk W ab 114 #[.func (.func fn) #[] cap] := (hb.block ab lab).trans HJ.out.2.1.ab
        have ha2 := hG.blkOther hrow ha1 (by decide)
        have pin' : ∀ q, P q → q < wq.heap.size := fun q hq => Nat.lt_of_lt_of_le (HI.out.2.2.2.2.2.1 q hq) HJ.out.1.size
        have pv' : ∀ q, v1.ownBlock = some q → ¬ P q := fun q hq hP => by
          rcases hG.blk with h | h
          · exact HJ.out.2.2 q (h ▸ hq) hP
          · rw [h] at hq
            cases hq
            have h1 := pin' _ hP
            have h2 := hb.size
            omega
        have hk1 : Kept P w W := HJ.out.1.trans (Kept.of_below hb pin')
        have hk2 : Kept P w w1 := hk1.grown hG.grown (fun q hq => Nat.lt_of_lt_of_le (pin' q hq) hb.size) (fun q hq => HJ.out.2.2 q hq)
        refine ⟨hs2, hk2.setCell HI.out.2.2.2.1 _, ⟨?_, ?_, ?_⟩, pv'⟩
        · exact hs2.set_ 0 v1
        · exact (Below.heap_setCell _ _ _ _ (fun e => Blk.ne_ ha2 hs2 (by decide) e)).trans ha2
        · have e : ((List.range (j + 1)).map fun i => Value.int .i64 (σ i)) ++ [.int .i64 C] = (List.range (j + 1 + 1)).map fun i => Value.int .i64 (σ i) := by
            rw [List.range_succ (n := j + 1), List.map_append, List.map_singleton, hst, hC]
          rw [← e]
          refine own_keep hG.own fun q cur hq hh => Below.heap_setCell _ _ _ _ fun e => ?_
          subst e
          exact Blk.ne_ (t := 3) (t' := 24) hh hs2 (by decide) rfl
      have HF : Hid (∀ W, Below wq.heap.size wq W → W.cell? ⟨sb, 0, none⟩ = some (.slice (some ⟨g', 0, none⟩) (j + 1) c') ∧ W.cell? ⟨g', j, none⟩ = some (.int .i64 A) ∧ W.cell? ⟨ab, 0, none⟩ = some (.func (.func fn) #[] cap)) := Lib.hid fun W hb =>
        ⟨(hb.cell (p := ⟨sb, 0, none⟩) lsb).trans d0, (hb.cell (p := ⟨g', j, none⟩) lg).trans d2, (hb.cell (p := ⟨ab, 0, none⟩) lab).trans d1⟩
      have HC : Hid (∀ W, Below wq.heap.size wq W → Calls Tryz.prog fn (#[.int .i64 j] ++ cap) W fun e w' => e = .returned (.int .u8 B) ∧ w' = W) := Lib.hid fun W hb => by
        rw [hB]
        exact HI.out.2.2.2.2.2.2.2 W j (HJ.out.1.trans (Kept.of_below hb fun q hq => Nat.lt_of_lt_of_le (HI.out.2.2.2.2.2.1 q hq) HJ.out.1.size)) hkj hlt
      have hen := HI.out.2.1
      unfold Enters at hen
      have hi1 : (0 : Int) ≤ (j : Int) ∧ (j : Int) < (j : Int) + 1 := by omega
      clear hA hB hC hst d0 d1 d2 hcl
      go_wp2_with fail
      refine wp_region_T 11 (fun w' : World => Below wq.heap.size wq w') (by kernel_rfl) (Below.refl _ _).drew (fun hHeld => ?_)
      refine wpAnyT_take (i := 0) (oi := ?o1) (v := ?v1) ?h1 ?a1 ?b1 ?c1 ?d1 ?e1 ?f1 ?j1 ?q1 (Or.inl ⟨?g1, ?y1⟩) ?s1 ?r1
      case h1 => (simp only [List.getElem?_toArray, List.getElem?_cons_zero]; rfl)
      case a1 => kernel_rfl
      case b1 => kernel_rfl
      case c1 => kernel_rfl
      case d1 => kernel_rfl
      case e1 => kernel_rfl
      case f1 => kernel_rfl
      case j1 => kernel_rfl
      case q1 => exact fun _ _ _ h => h
      case g1 => rfl
      case y1 => (intro wS hSw; obtain ⟨s0, s1, s2⟩ := HF.out _ hSw; go_simp; (try with_reducible rfl))
      case s1 => assumption
      (try simp only [Act.put, List.setIfInBounds_toArray, List.set_cons_zero, List.set_cons_succ])
      refine wpAnyT_take (i := 1) (oi := ?o2) (v := ?v2) ?h2 ?a2 ?b2 ?c2 ?d2 ?e2 ?f2 ?j2 ?q2 (Or.inl ⟨?g2, ?y2⟩) ?s2 ?r2
      case h2 => (simp only [List.getElem?_toArray, List.getElem?_cons_zero, List.getElem?_cons_succ]; rfl)
      case a2 => kernel_rfl
      case b2 => kernel_rfl
      case c2 => kernel_rfl
      case d2 => kernel_rfl
      case e2 => kernel_rfl
      case f2 => kernel_rfl
      case j2 => kernel_rfl
      case q2 => exact fun _ _ _ h => h
      case g2 => rfl
      case y2 => (intro wS hSw; obtain ⟨s0, s1, s2⟩ := HF.out _ hSw; go_simp; (try with_reducible rfl))
      case s2 => assumption
      (try simp only [Act.put, List.setIfInBounds_toArray, List.set_cons_zero, List.set_cons_succ])
      refine wpAnyT_take (i := 2) (oi := ?o3) (v := ?v3) ?h3 ?a3 ?b3 ?c3 ?d3 ?e3 ?f3 ?j3 ?q3 (Or.inl ⟨?g3, ?y3⟩) ?s3 ?r3
      case h3 => (simp only [List.getElem?_toArray, List.getElem?_cons_zero, List.getElem?_cons_succ]; rfl)
      case a3 => kernel_rfl
      case b3 => kernel_rfl
      case c3 => kernel_rfl
      case d3 => kernel_rfl
      case e3 => kernel_rfl
      case f3 => kernel_rfl
      case j3 => kernel_rfl
      case q3 => exact fun _ _ _ h => h
      case g3 => rfl
      case y3 => (intro wS hSw; obtain ⟨s0, s1, s2⟩ := HF.out _ hSw; go_simp; (try with_reducible rfl))
      case s3 => assumption
      (try simp only [Act.put, List.setIfInBounds_toArray, List.set_cons_zero, List.set_cons_succ])
      refine wpAnyT_take (i := 3) (oi := ?o4) (v := ?v4) ?h4 ?a4 ?b4 ?c4 ?d4 ?e4 ?f4 ?j4 ?q4 (Or.inl ⟨?g4, ?y4⟩) ?s4 ?r4
      case h4 => (simp only [List.getElem?_toArray, List.getElem?_cons_zero, List.getElem?_cons_succ]; rfl)
      case a4 => kernel_rfl
      case b4 => kernel_rfl
      case c4 => kernel_rfl
      case d4 => kernel_rfl
      case e4 => kernel_rfl
      case f4 => kernel_rfl
      case j4 => kernel_rfl
      case q4 => exact fun _ _ _ h => h
      case g4 => rfl
      case y4 => (intro wS hSw; obtain ⟨s0, s1, s2⟩ := HF.out _ hSw; go_simp; (try with_reducible rfl))
      case s4 => assumption
      (try simp only [Act.put, List.setIfInBounds_toArray, List.set_cons_zero, List.set_cons_succ])
      refine wpAnyT_take (i := 4) (oi := ?o5) (v := ?v5) ?h5 ?a5 ?b5 ?c5 ?d5 ?e5 ?f5 ?j5 ?q5 (Or.inl ⟨?g5, ?y5⟩) ?s5 ?r5
      case h5 => (simp only [List.getElem?_toArray, List.getElem?_cons_zero, List.getElem?_cons_succ]; rfl)
      case a5 => kernel_rfl
      case b5 => kernel_rfl
      case c5 => kernel_rfl
      case d5 => kernel_rfl
      case e5 => kernel_rfl
      case f5 => kernel_rfl
      case j5 => kernel_rfl
      case q5 => exact fun _ _ _ h => h
      case g5 => rfl
      case y5 => (intro wS hSw; obtain ⟨s0, s1, s2⟩ := HF.out _ hSw; go_simp; (try with_reducible rfl))
      case s5 => assumption
      (try simp only [Act.put, List.setIfInBounds_toArray, List.set_cons_zero, List.set_cons_succ])
      refine wpAnyT_take (i := 5) (oi := ?o6) (v := ?v6) ?h6 ?a6 ?b6 ?c6 ?d6 ?e6 ?f6 ?j6 ?q6 (Or.inl ⟨?g6, ?y6⟩) ?s6 ?r6
      case h6 => (simp only [List.getElem?_toArray, List.getElem?_cons_zero, List.getElem?_cons_succ]; rfl)
      case a6 => kernel_rfl
      case b6 => kernel_rfl
      case c6 => kernel_rfl
      case d6 => kernel_rfl
      case e6 => kernel_rfl
      case f6 => kernel_rfl
      case j6 => kernel_rfl
      case q6 => exact fun _ _ _ h => h
      case g6 => rfl
      case y6 => (intro wS hSw; obtain ⟨s0, s1, s2⟩ := HF.out _ hSw; go_simp; (try with_reducible rfl))
      case s6 => assumption
      (try simp only [Act.put, List.setIfInBounds_toArray, List.set_cons_zero, List.set_cons_succ])
      refine wpAnyT_take (i := 6) (oi := ?o7) (v := ?v7) ?h7 ?a7 ?b7 ?c7 ?d7 ?e7 ?f7 ?j7 ?q7 (Or.inl ⟨?g7, ?y7⟩) ?s7 ?r7
      case h7 => (simp only [List.getElem?_toArray, List.getElem?_cons_zero, List.getElem?_cons_succ]; rfl)
      case a7 => kernel_rfl
      case b7 => kernel_rfl
      case c7 => kernel_rfl
      case d7 => kernel_rfl
      case e7 => kernel_rfl
      case f7 => kernel_rfl
      case j7 => kernel_rfl
      case q7 => exact fun _ _ _ h => h
      case g7 => rfl
      case y7 => (intro wS hSw; obtain ⟨s0, s1, s2⟩ := HF.out _ hSw; go_simp; (try with_reducible rfl))
      case s7 => assumption
      (try simp only [Act.put, List.setIfInBounds_toArray, List.set_cons_zero, List.set_cons_succ])
      refine wpAnyT_call (i := 7) (oi := ?o8) (v := (.int .u8 B)) ?h8 ?a8 ?b8 ?c8 ?d8 ?e8 ?f8 ?j8 ?q8 ?g8 fn (#[.int .i64 j] ++ cap) ?x8 ?y8 ?s8 ?r8
      case h8 => (simp only [List.getElem?_toArray, List.getElem?_cons_zero, List.getElem?_cons_succ]; rfl)
      case a8 => kernel_rfl
      case b8 => kernel_rfl
      case c8 => kernel_rfl
      case d8 => kernel_rfl
      case e8 => kernel_rfl
      case f8 => kernel_rfl
      case j8 => kernel_rfl
      case q8 => exact fun _ _ _ h => h
      case g8 => rfl
      case x8 => (intro wS hSw; go_simp; (try with_reducible rfl))
      case y8 => (intro wS hSw; exact HC.out wS hSw)
      case s8 => assumption
      (try simp only [Act.put, List.setIfInBounds_toArray, List.set_cons_zero, List.set_cons_succ])
      refine wpAnyT_take (i := 8) (oi := ?o9) (v := ?v9) ?h9 ?a9 ?b9 ?c9 ?d9 ?e9 ?f9 ?j9 ?q9 (Or.inl ⟨?g9, ?y9⟩) ?s9 ?r9
      case h9 => (simp only [List.getElem?_toArray, List.getElem?_cons_zero, List.getElem?_cons_succ]; rfl)
      case a9 => kernel_rfl
      case b9 => kernel_rfl
      case c9 => kernel_rfl
      case d9 => kernel_rfl
      case e9 => kernel_rfl
      case f9 => kernel_rfl
      case j9 => kernel_rfl
      case q9 => exact fun _ _ _ h => h
      case g9 => rfl
      case y9 => (intro wS hSw; obtain ⟨s0, s1, s2⟩ := HF.out _ hSw; go_simp; (try with_reducible rfl))
      case s9 => assumption
      (try simp only [Act.put, List.setIfInBounds_toArray, List.set_cons_zero, List.set_cons_succ])
      refine wpAnyT_take (i := 9) (oi := ?o10) (v := ?v10) ?h10 ?a10 ?b10 ?c10 ?d10 ?e10 ?f10 ?j10 ?q10 (Or.inl ⟨?g10, ?y10⟩) ?s10 ?r10
      case h10 => (simp only [List.getElem?_toArray, List.getElem?_cons_zero, List.getElem?_cons_succ]; rfl)
      case a10 => kernel_rfl
      case b10 => kernel_rfl
      case c10 => kernel_rfl
      case d10 => kernel_rfl
      case e10 => kernel_rfl
      case f10 => kernel_rfl
      case j10 => kernel_rfl
      case q10 => exact fun _ _ _ h => h
      case g10 => rfl
      case y10 => (intro wS hSw; obtain ⟨s0, s1, s2⟩ := HF.out _ hSw; go_simp; (try with_reducible rfl))
      case s10 => assumption
      (try simp only [Act.put, List.setIfInBounds_toArray, List.set_cons_zero, List.set_cons_succ])
      refine wpAnyT_ready (rs := [10]) (by kernel_rfl) (by simp) ?_
      refine AllReadyT.cons (o := ?oB11) ?hB11 ?kB11 AllReadyT.nil
      case hB11 => (simp only [List.getElem?_toArray, List.getElem?_cons_zero, List.getElem?_cons_succ]; rfl)
      case kB11 =>
        intro K hK
        go_simp
        refine hK.out _ _ (fun _ => ((Below.refl _ _).alloc (Nat.le_refl _) _).drew) ?_
        clear hK K
        (try simp only [Act.put, List.setIfInBounds_toArray, List.set_cons_zero, List.set_cons_succ])
        have hb1 : (wq.alloc (.cells #[.int .i64 C] 3)).drew.heap[wq.heap.size]? = some (.cells #[.int .i64 C] 3 (0, 0)) := heap_alloc_new wq _
        have HB1 : Hid (Below wq.heap.size wq (wq.alloc (.cells #[.int .i64 C] 3)).drew) := Lib.hid ((Below.refl _ _).alloc (Nat.le_refl _) _).drew
        generalize hW1 : (wq.alloc (.cells #[.int .i64 C] 3)).drew = W1 at *
        refine wpAnyT_ready (rs := [11]) (by kernel_rfl) (by simp) ?_
        refine AllReadyT.cons (o := ?oB12) ?hB12 ?kB12 AllReadyT.nil
        case hB12 => (simp only [List.getElem?_toArray, List.getElem?_cons_zero, List.getElem?_cons_succ]; rfl)
        case kB12 =>
          intro K hK
          refine step_append_one rfl (.tmp 14) (.tmp 24) rfl _ (j + 1) _ rfl (ownsRow_below HJ.out.2.1.row HB1.out) (by omega) wq.heap.size C rfl hb1 (fun v1 w1 hG => ?_)
          refine hK.out _ _ (no_more (by kernel_rfl)) ?_
          clear hK K
          (try simp only [Act.put, List.setIfInBounds_toArray, List.set_cons_zero, List.set_cons_succ])
          have HN := Lib.hid (HG.out W1 v1 w1 HB1.out hG)
          obtain ⟨g2, cp2, rfl, -⟩ := HN.out.2.2.1.slice_
          have e0 := HN.out.1.cell 0
          have y0 := HN.out.1.frozen 0
          simp only [List.getElem?_toArray, List.getElem?_cons_zero] at e0
          clear hG hb1 hW1 hHeld
          refine wpAnyT_ready (rs := [12]) (by kernel_rfl) (by simp) ?_
          refine AllReadyT.cons (o := ?oB13) ?hB13 ?kB13 AllReadyT.nil
          case hB13 => (simp only [List.getElem?_toArray, List.getElem?_cons_zero, List.getElem?_cons_succ]; rfl)
          case kB13 =>
            intro K hK
            go_simp
            refine hK.out _ _ (no_more (by kernel_rfl)) ?_
            clear hK K
            (try simp only [Act.put, List.setIfInBounds_toArray, List.set_cons_zero, List.set_cons_succ])
            refine wpAnyT_done (by kernel_rfl) ?_ _
            go_wp2_with fail
            exact ⟨⟨j + 1, _, by go_num, by omega, .inl (by omega), Lib.hid HN.out.2⟩, by simp [intOf]; omega⟩
    · have hne : k ≤ j ∧ n ≤ j ∧ (j = k ∨ j = n) := by omega
      have d2 := hcl n hne.2.1
      have hi1 : (0 : Int) ≤ (n : Int) ∧ (n : Int) < (j : Int) + 1 := by omega
      clear hcl
      go_wp2_with fail
      go_ret
      exact ⟨rfl, HJ.out.1, j, _, hne, HJ.out.2⟩
end RecF
section RecMap
open Go.RowKit

/-- What the entries hold of a number. -/
def lkV (es : List (Int × Value)) (id : Int) : Option Value := (es.find? fun p => decide (p.1 = id)).map (·.2)
theorem lkV_nil (id : Int) : lkV [] id = none := rfl
theorem lkV_cons (p : Int × Value) (es : List (Int × Value)) (id : Int) : lkV (p :: es) id = if p.1 = id then some p.2 else lkV es id := by
  unfold lkV
  rw [List.find?_cons]
  by_cases h : p.1 = id <;> simp [h]
theorem lkV_append (a b : List (Int × Value)) (id : Int) : lkV (a ++ b) id = (lkV a id).or (lkV b id) := by
  induction a with
  | nil => rfl
  | cons p t ih =>
    rw [List.cons_append, lkV_cons, lkV_cons]
    split
    · rfl
    · exact ih
/-- A block is a map with these entries, in the order in which they were laid. -/
def MapE (w : World) (mb : Nat) (es : List (Int × Value)) : Prop :=
  ∃ (a : Array MapEntry) (clock : Nat), w.heap[mb]? = some (.map a clock) ∧ a.toList.map (fun e => (e.key, e.val)) = es.map fun p => (Value.int .i64 p.1, p.2)
theorem MapE.lt {w : World} {mb : Nat} {es : List (Int × Value)} (h : MapE w mb es) : mb < w.heap.size := by
  obtain ⟨a, c, hb, _⟩ := h
  exact (Array.getElem?_eq_some_iff.1 hb).1
theorem MapE.of_block {w w' : World} {mb : Nat} {es : List (Int × Value)} (h : MapE w mb es) (hb : w'.heap[mb]? = w.heap[mb]?) : MapE w' mb es := by
  obtain ⟨a, c, h1, h2⟩ := h
  exact ⟨a, c, hb.trans h1, h2⟩
theorem MapE.made (w : World) : MapE (w.alloc (.map #[] 0)) w.heap.size [] := ⟨#[], 0, (MapKept.heap_alloc w _).1, rfl⟩
theorem find_now (id : Int) : ∀ (l : List MapEntry) (es : List (Int × Value)) (i : Nat), l.map (fun e => (e.key, e.val)) = es.map (fun p => (Value.int .i64 p.1, p.2)) →
    (lkV es id = none ∧ Instr.findNow (.int .i64) (.int .i64 id) l i = some none) ∨ ∃ v j, lkV es id = some v ∧ Instr.findNow (.int .i64) (.int .i64 id) l i = some (some (j, v))
  | [], [], i, _ => .inl ⟨rfl, rfl⟩
  | [], _ :: _, _, h => by simp at h
  | _ :: _, [], _, h => by simp at h
  | e :: l, p :: es, i, h => by
    simp only [List.map_cons, List.cons.injEq, Prod.mk.injEq] at h
    obtain ⟨⟨hk, hv⟩, ht⟩ := h
    rw [lkV_cons]
    by_cases hp : p.1 = id
    · refine .inr ⟨p.2, i, by rw [if_pos hp], ?_⟩
      simp [Instr.findNow, hk, Instr.sameNow, hp, hv]
    · rw [if_neg hp]
      have hne : (id == p.1) = false := by rw [beq_eq_false_iff_ne]; exact fun h => hp h.symm
      have hf : Instr.findNow (.int .i64) (.int .i64 id) (e :: l) i = Instr.findNow (.int .i64) (.int .i64 id) l (i + 1) := by
        simp [Instr.findNow, hk, Instr.sameNow, hne]
      rw [hf]
      exact find_now id l es (i + 1) ht
section
variable {P : Program} {t k e : TypeId} {w : World} {mb : Nat} {es : List (Int × Value)} {id : Int}
theorem MapE.look_ (h : MapE w mb es) (ht : P.underlying t = some (.map k e)) (hk : P.underlying k = some (.int .i64)) {v : Value} (hv : lkV es id = some v) (ok : Bool) :
    (Instr.lookup t (.map (some mb)) (.int .i64 id) ok).run P w = .ok (if ok then .tuple #[v, .bool true] else v) w := by
  obtain ⟨a, c, hb, hm⟩ := h
  rcases find_now id a.toList es 0 hm with ⟨h0, _⟩ | ⟨v', j, h1, hf⟩
  · rw [h0] at hv; cases hv
  · rw [h1] at hv
    cases hv
    have hc : ∀ em, (Instr.checkKey em 10000 k (.int .i64 id)).run P w = .ok () w := fun em => MapKept.run_checkKey (k := .int .i64 id) hk (by simp [MapKept.IsKey]) em 9999
    cases ok <;> simp [Instr.lookup, run_underlying ht, MapKept.run_getObj_map hb, hc, MapKept.run_findKey hk hf, Result.andThen]
theorem MapE.look_no (h : MapE w mb es) (ht : P.underlying t = some (.map k e)) (hk : P.underlying k = some (.int .i64)) (hv : lkV es id = none) {z : Value} (hz : (zeroValue e).run P w = .ok z w) (ok : Bool) :
    (Instr.lookup t (.map (some mb)) (.int .i64 id) ok).run P w = .ok (if ok then .tuple #[z, .bool false] else z) w := by
  obtain ⟨a, c, hb, hm⟩ := h
  rcases find_now id a.toList es 0 hm with ⟨_, hf⟩ | ⟨v', j, h1, _⟩
  · have hc : ∀ em, (Instr.checkKey em 10000 k (.int .i64 id)).run P w = .ok () w := fun em => MapKept.run_checkKey (k := .int .i64 id) hk (by simp [MapKept.IsKey]) em 9999
    cases ok <;> simp [Instr.lookup, run_underlying ht, MapKept.run_getObj_map hb, hc, MapKept.run_findKey hk hf, hz, Result.andThen]
  · rw [h1] at hv; cases hv
/-- A new entry is laid behind the others; nothing else turns. -/
theorem MapE.put_ (h : MapE w mb es) (ht : P.underlying t = some (.map k e)) (hk : P.underlying k = some (.int .i64)) (hv : lkV es id = none) (v : Value) :
    ∃ w', (Instr.mapUpdate t (.map (some mb)) (.int .i64 id) v).run P w = .ok () w' ∧ MapE w' mb (es ++ [(id, v)]) ∧ w.grownBy w' (some mb) := by
  have hlt := h.lt
  obtain ⟨a, c, hb, hm⟩ := h
  rcases find_now id a.toList es 0 hm with ⟨_, hf⟩ | ⟨v', j, h1, _⟩
  · have hc : (Instr.checkKey false 10000 k (.int .i64 id)).run P w = .ok () w := MapKept.run_checkKey (k := .int .i64 id) hk (by simp [MapKept.IsKey]) false 9999
    refine ⟨{ w with heap := w.heap.setIfInBounds mb (.map (a.push { key := .int .i64 id, val := v, born := c }) (c + 1)) }, ?_, ⟨_, _, (MapKept.heap_set hb).1, ?_⟩, ⟨rfl, rfl, rfl, by simp, fun i _ hi => (MapKept.heap_set hb).2 i (fun e => hi (by rw [e]))⟩⟩
    · simp [Instr.mapUpdate, run_underlying ht, MapKept.run_getObj_map hb, hc, MapKept.run_findKey hk hf, MapKept.run_setObj_map _ hb, Result.andThen]
    · simp [hm]
  · rw [h1] at hv; cases hv
end

/-- The new entry at the operation, for the walk. -/
theorem wpList_mapUpdate_E {P : Program} (w : World) {ops : Array Oper} {rest : List Oper} {o : Oper} {a : Act} {Q : Exit → Act → World → Prop}
    (hg : o.guard = none) (m x v : Operand) (t : TypeId) (hop : o.op = Op.mapUpdate t m x v) (k e : TypeId) (ht : P.underlying t = some (.map k e)) (hk : P.underlying k = some (.int .i64))
    (mb : Nat) (es : List (Int × Value)) (hm : a.eval m = .map (some mb)) (h : MapE w mb es) (id : Int) (val : Value) (hx : a.eval x = .int .i64 id) (hv : a.eval v = val) (hno : lkV es id = none)
    (hK : ∀ w', MapE w' mb (es ++ [(id, val)]) → w.grownBy w' (some mb) → wpList P ops Q rest (a.put o.dst undef) w') :
    wpList P ops Q (o :: rest) a w := by
  refine wpList_plain hg fun K' hK' => ?_
  obtain ⟨w', hrun, r1, r2⟩ := h.put_ ht hk hno val
  unfold Oper.wp
  simp [execOp, hop, hm, hx, hv, hrun, Result.andThen]
  exact hK' _ _ (hK w' r1 r2)
end RecMap
section FmtH
open Go.RowKit Fx Go.Sort

theorem flat_snoc (fs : List Fld) (f : Fld) : flat (fs ++ [f]) = flat fs ++ fldC f := by unfold flat; simp
theorem usedB_snoc (fs : List Fld) (f : Fld) (i : Int) : usedB (fs ++ [f]) i = (usedB fs i || decide (f.frm = i)) := by unfold usedB; simp
/-- What stands behind the append. -/
theorem add_mem {P : Nat → Prop} {tb : Nat} {s : St} {f : Fld} {w w8 W0 w9 : World} {cs cs2 : Array Value} {mb b1 b2 c b3 : Nat} {vF vO v1 : Value} {vs : List Value} (hC : Core w P tb s cs mb b1 b2 c b3 vF vs) (hO : Open w P s cs vs vO)
    (hs : w.heap.size ≤ w8.heap.size) (h8 : ∀ g, g ≠ tb → g < w.heap.size → w8.heap[g]? = w.heap[g]?) (hb8 : Blk w8 tb 190 cs2) (z2 : cs2.size = 56) (i2 : ∀ i, i < 38 → cs2[i]? = cs[i]?)
    (l2 : cs2[39]? = some (.int .i64 (ls (lm s.d) (s.o.fs ++ [f])))) (u2 : ∀ i : Nat, i < 16 → cs2[40 + i]? = some (.bool (usedB (s.o.fs ++ [f]) i)))
    (hB : Below w8.heap.size w8 W0) (hGr : Grew W0 w9 0 56 4 vO v1 (s.o.fs.length + 1) (flat s.o.fs ++ fldC f)) :
    TabAt (w9.setCell ⟨tb, 38, none⟩ v1) P tb ⟨s.d, ⟨s.o.id, s.o.fs ++ [f]⟩⟩ := by
  have hlt := hC.blk.lt
  have far8 : ∀ (g : Nat) (cur : Array Value) (t : TypeId) (fr : Nat × Nat), t ≠ 190 → w.heap[g]? = some (Obj.cells cur t fr) → w8.heap[g]? = w.heap[g]? := fun g cur t fr n1 hg => by
    refine h8 g (fun e => ?_) (lt_of_heap hg)
    have hh : w.heap[g]? = some (.cells cs 190 (0, 0)) := by rw [e]; exact hC.blk
    rw [hg] at hh
    cases hh
    exact n1 rfl
  have hR : W0.ownsRow 0 56 4 vO s.o.fs.length (flat s.o.fs) := ownsRow_below (own_keep hO.rowO fun g cur _ hh => far8 g _ _ _ (by decide) hh) hB
  have hb9 : Blk w9 tb 190 cs2 := hGr.blkOther hR (hb8.below hB) (by decide)
  obtain ⟨w10, hw10⟩ : ∃ w10, w10 = w9.setCell ⟨tb, 38, none⟩ v1 := ⟨_, rfl⟩
  have hb10 := hb9.set_ 38 v1
  rw [← hw10] at hb10 ⊢
  have e10 : ∀ g, g ≠ tb → w10.heap[g]? = w9.heap[g]? := fun g hg => by rw [hw10]; exact Below.heap_setCell _ _ _ _ hg
  have ne_tb : ∀ (g : Nat) (cur : Array Value) (t : TypeId) (fr : Nat × Nat), t ≠ 190 → w9.heap[g]? = some (Obj.cells cur t fr) → g ≠ tb := fun g cur t fr n1 hg e => by
    have hh : w9.heap[g]? = some (.cells cs2 190 (0, 0)) := by rw [e]; exact hb9
    rw [hg] at hh
    cases hh
    exact n1 rfl
  have W0far : ∀ (g : Nat) (cur : Array Value) (t : TypeId) (fr : Nat × Nat), t ≠ 190 → w.heap[g]? = some (Obj.cells cur t fr) → W0.heap[g]? = w.heap[g]? ∧ g < W0.heap.size := fun g cur t fr n1 hg => by
    have hl := lt_of_heap hg
    exact ⟨(hB.block g (by omega)).trans (far8 g cur t fr n1 hg), Nat.lt_of_lt_of_le (Nat.lt_of_lt_of_le hl hs) hB.size⟩
  have far : ∀ (g : Nat) (cur : Array Value) (t : TypeId) (fr : Nat × Nat), t ≠ 190 → some g ≠ vO.ownBlock → w.heap[g]? = some (Obj.cells cur t fr) → w10.heap[g]? = w.heap[g]? := fun g cur t fr n1 n2 hg => by
    obtain ⟨e1, e2⟩ := W0far g cur t fr n1 hg
    have e3 : w9.heap[g]? = W0.heap[g]? := hGr.grown.block g e2 n2
    rw [e10 g (ne_tb g cur t fr n1 (by rw [e3, e1]; exact hg)), e3, e1]
  have hM : w10.heap[mb]? = w.heap[mb]? := by
    have hl := hC.map.lt
    have ne : mb ≠ tb := fun e => hC.map.heap_ne hC.blk e.symm
    have e1 : W0.heap[mb]? = w.heap[mb]? := (hB.block mb (by omega)).trans (h8 mb ne hl)
    have e2 : w9.heap[mb]? = W0.heap[mb]? := hGr.heapOther hR (Nat.lt_of_lt_of_le (Nat.lt_of_lt_of_le hl hs) hB.size) (fun cur' fr' h => by rw [e1] at h; exact hC.map.heap_ne h rfl)
    rw [e10 mb ne, e2, e1]
  have typeO : ∀ (g : Nat) (cur : Array Value) (t : TypeId) (fr : Nat × Nat), t ≠ 56 → w.heap[g]? = some (Obj.cells cur t fr) → some g ≠ vO.ownBlock := fun g cur t fr n1 hg e => by
    obtain ⟨cur', hh⟩ := own_heap hO.rowO e.symm
    rw [hg] at hh
    cases hh
    exact n1 rfl
  have oth : ∀ i, i ≠ 38 → (cs2.setIfInBounds 38 v1)[i]? = cs2[i]? := fun i hi => Array.getElem?_setIfInBounds_ne (fun e => hi e.symm)
  have hsz10 : w.heap.size ≤ w10.heap.size := by
    rw [hw10]; have := hGr.grown.size; have := hB.size; simp [World.setCell]; omega
  refine ⟨_, mb, b1, b2, c, b3, vF, vs, v1, ⟨hb10, by simp [z2], fun i hi => by rw [oth i (by omega), i2 i (by omega)]; exact hC.kinds i hi, by rw [oth 35 (by decide), i2 35 (by decide)]; exact hC.cF, by rw [oth 36 (by decide), i2 36 (by decide)]; exact hC.cM, by rw [oth 37 (by decide), i2 37 (by decide)]; exact hC.cI,
    ?_, hC.map.of_block hM, ?_, hC.vsl, ?_, fun k hk => Nat.lt_of_lt_of_le (hC.pin k hk) hsz10, hC.pT, hC.pM, hC.pF, hC.pB⟩,
    ⟨Array.getElem?_setIfInBounds_self_of_lt (by omega), by rw [oth 39 (by decide)]; exact l2, fun i hi => by rw [oth (40 + i) (by omega)]; exact u2 i hi, ?_, ?_, ?_⟩⟩
  · exact hC.boxes.far fun g cur t ht hg => far g cur t _ (by rcases ht with rfl | rfl <;> decide) (typeO g cur t _ (by rcases ht with rfl | rfl <;> decide) hg) hg
  · exact own_keep hC.rowF fun g cur _ hh => far g _ _ _ (by decide) (typeO g _ _ _ (by decide) hh) hh
  · intro i hi
    exact own_keep (hC.done i hi) fun g cur hg hh => far g _ _ _ (by decide) (fun e => hO.apart i hi g e.symm hg) hh
  · rw [List.length_append, flat_snoc]
    exact own_keep hGr.own fun g cur _ hh => e10 g (ne_tb g _ _ _ (by decide) hh)
  · intro g hg hP
    rcases hGr.blk with h | h
    · exact hO.pO g (h ▸ hg) hP
    · rw [h] at hg
      cases hg
      have := hC.pin _ hP
      have := hB.size
      omega
  · intro i hi g hg hv
    rcases hGr.blk with h | h
    · exact hO.apart i hi g (h ▸ hg) hv
    · rw [h] at hg
      cases hg
      have := own_lt (hC.done i hi) hv
      have := hB.size
      omega

/-- What stands behind the mark of a used number. -/
structure Mid (P : Nat → Prop) (tb : Nat) (s : St) (f : Fld) (w w7 : World) (cs : Array Value) (w' : World) (cs8 : Array Value) : Prop where
  blk : Blk w' tb 190 cs8
  ne : ∀ g, g ≠ tb → w'.heap[g]? = w7.heap[g]?
  size : w'.heap.size = w7.heap.size
  z : cs8.size = 56
  i : ∀ i, i < 39 → cs8[i]? = cs[i]?
  l : cs8[39]? = some (.int .i64 (ls (lm s.d) (s.o.fs ++ [f])))
  u : ∀ i : Nat, i < 16 → cs8[40 + i]? = some (.bool (usedB (s.o.fs ++ [f]) i))
  k : Kept P w w'
set_option maxRecDepth 100000 in
set_option maxHeartbeats 2000000 in
theorem add_main (P : Nat → Prop) (tb K : Nat) (s : St) (f : Fld) (er : Addr) (w : World) (hT : TabAt w P tb s) (hE : ErrAt w er) (hPe : P 1) (hG : Fx.Good s) (h0 : 0 < s.o.id) (h1 : s.o.fs.length < 16) (hf : Ints f) (hK : f.kind = K) (k1 : 1 ≤ K) (k6 : K ≤ 6) :
    Calls Tryz.prog 115 #[adr tb, fldV f] w (AddPost P tb s f er w) := by
  obtain ⟨kd, n, fm, tx⟩ := f
  obtain rfl : kd = (K : Int) := hK
  obtain ⟨a, c, q1, q2, q3, q4, q5, q6, q7, q8⟩ := hT.cells_
  obtain ⟨b1, b2, cc, b3, hcell, hX, _⟩ := hT.boxes_
  have hk := kindAt_of hcell K k1 k6
  have HKA := Lib.hid hk
  have HX := Lib.hid hX
  obtain ⟨fr, hfr⟩ : ∃ x, x = fnR K := ⟨_, rfl⟩
  obtain ⟨fl, hfl⟩ : ∃ x, x = fnL K := ⟨_, rfl⟩
  obtain ⟨cr, hcr⟩ : ∃ x, x = capR K b1 cc b3 := ⟨_, rfl⟩
  obtain ⟨x0, x1, x2, x3, x4⟩ := hk
  rw [← hfr, ← hcr] at x1
  rw [← hfl] at x2
  obtain ⟨wd, hv0⟩ : ∃ x, x = wordB K := ⟨_, rfl⟩
  obtain ⟨fw, hv3⟩ : ∃ x, x = fnW K := ⟨_, rfl⟩
  obtain ⟨cw, hv5⟩ : ∃ x, x = capW K cc := ⟨_, rfl⟩
  obtain ⟨fd, hv4⟩ : ∃ x, x = fnD K := ⟨_, rfl⟩
  rw [← hv0] at x0
  rw [← hv3, ← hv5] at x3
  rw [← hv4] at x4
  obtain ⟨L, hL⟩ : ∃ L, L = s.o.fs.length := ⟨_, rfl⟩
  rw [← hL] at q2 q4 h1
  have d1 : (L : Int) < 16 := by omega
  have d2 : 1 ≤ (K : Int) := by omega
  have d3 : (K : Int) ≤ 6 := by omega
  have d4 : (0 : Int) ≤ K := by omega
  have d5 : (K : Int) < 7 := by omega
  have HT := Lib.hid hT
  have HE := Lib.hid (hE.below (bx (.cells #[.int .i64 K, .int .i64 n, .int .i64 fm, .string tx] 56)))
  unfold maxLen at q5
  have HF := Lib.hid (And.intro hfr (And.intro hcr hfl))
  have hG1 := Lib.hid h0
  have HLL0 := Lib.hid hL
  clear hT hE q7 hL hcell hX hfr hfl hcr hv0 hv3 hv4 hv5
  go_enter Tryz.func115, Tryz.ntmps115
  go_wp2_with fail
  refine (require_any true er _ HE.out).mono ?_
  rintro e w' ⟨rfl, rfl⟩
  unfold ends
  go_wp2_with fail
  refine (require_any true er _ HE.out).mono ?_
  rintro e w' ⟨rfl, rfl⟩
  unfold ends
  go_wp2_with fail
  go_region
  obtain ⟨w1, hw1⟩ : ∃ w1, w1 = ((w.alloc (.cells #[.int .i64 K, .int .i64 n, .int .i64 fm, .string tx] 56)).alloc (.cells #[.string wd, clo fr cr, clo fl #[], clo fw cw, clo fd #[]] 184)).drew := ⟨_, rfl⟩
  rw [← hw1]
  have e0 : w1.cell? ⟨w.heap.size, 0, none⟩ = some (.int .i64 K) := by rw [hw1]; simp [go_sem]
  have e1 : w1.cell? ⟨w.heap.size, 1, none⟩ = some (.int .i64 n) := by rw [hw1]; simp [go_sem]
  have e2 : w1.cell? ⟨w.heap.size, 2, none⟩ = some (.int .i64 fm) := by rw [hw1]; simp [go_sem]
  have e3 : w1.cell? ⟨w.heap.size, 3, none⟩ = some (.string tx) := by rw [hw1]; simp [go_sem]
  have y1 : w1.cell? ⟨w.heap.size + 1, 1, none⟩ = some (clo fr cr) := by rw [hw1]; simp [go_sem]
  have y2 : w1.cell? ⟨w.heap.size + 1, 2, none⟩ = some (clo fl #[]) := by rw [hw1]; simp [go_sem]
  have s1 : w.heap.size + 1 < w1.heap.size := World.block_lt_of_cell? (h := y2)
  have hB1 : Below w.heap.size w w1 := by rw [hw1]; exact ((bx _).alloc (by simp) _).drew
  have HB1 := Lib.hid hB1
  have HE1 := Lib.hid (HE.out.below (w' := w1) (by rw [hw1]; exact (bx _).drew))
  have HT1 := Lib.hid (HT.out.below hB1)
  have HX1 := Lib.hid (HX.out.below hB1)
  have hN : NumsOk s.o.fs := fun i hi hk => by
    have := hG.each i hi
    unfold Fx.right at this
    rw [if_neg (by omega), if_pos hk] at this
    have := sized_of this
    omega
  obtain ⟨rv, hrv⟩ : ∃ x, x = Fx.right (lm s.d) s.o.fs ⟨K, n, fm, tx⟩ := ⟨_, rfl⟩
  have HR : Hid (∀ w', Below w1.heap.size w1 w' → Calls Tryz.prog fr (#[adr tb, fldV ⟨K, n, fm, tx⟩] ++ cr) w' fun e w'' => e = .returned (.bool rv) ∧ Below w'.heap.size w' w'') := Lib.hid (fun w' hb => by
    rw [HF.out.1, HF.out.2.1, hrv]
    exact right_any P tb K b1 b2 cc b3 s _ w' (HT1.out.below hb) (HX1.out.below hb) hG.few hN hf k1 k6 rfl)
  have HLE : Hid (rv = true → ∀ w', Below w1.heap.size w1 w' → Calls Tryz.prog fl #[adr tb, fldV ⟨K, n, fm, tx⟩] w' fun e w'' => e = .returned (.int .i64 (lf (lm s.d) ⟨K, n, fm, tx⟩)) ∧ Below w'.heap.size w' w'') := Lib.hid (fun _ w' hb => by
    rw [HF.out.2.2]
    exact least_any P tb K s _ w' (HT1.out.below hb) hf k1 k6 rfl)
  have ER : ∀ (args : Array Value) (w : World), (callFunc fr args).run Tryz.prog w = .ok (.enter fr args) w := by rw [HF.out.1]; exact enR K
  have EL : ∀ (args : Array Value) (w : World), (callFunc fl args).run Tryz.prog w = .ok (.enter fl args) w := by rw [HF.out.2.2]; exact enL K
  have HN := Lib.hid hN
  have HRV := Lib.hid hrv
  have HQ := Lib.hid (And.intro q1 (And.intro q2 (And.intro q3 (And.intro q6 (And.intro q4 h1)))))
  clear hw1 x0 x1 x2 x3 x4 q1 q2 q3 q6 hN hrv hB1 HX1 HX HE q4 h1 d1 d2 d3 d4 d5 h0
  go_wp2_with fail
  refine (HR.out w1 (Below.refl _ _)).mono ?_
  rintro e w2 ⟨rfl, hB2⟩
  obtain ⟨hc, hz⟩ := bcell hB2
  have s1' : w.heap.size < w1.heap.size := by omega
  have stb : tb < w1.heap.size := Nat.lt_of_lt_of_le HQ.out.2.2.2.1 HB1.out.size
  rw [← hc _ _ s1'] at e0 e1 e2 e3
  rw [← hc _ _ s1] at y1 y2
  have HBP : Hid (Below w.heap.size w w1) := HB1
  have HE2 := Lib.hid (HE1.out.below hB2)
  have HT2 := Lib.hid (HT1.out.below hB2)
  have HB2 : Hid (Below w.heap.size w w2) := Lib.hid (HB1.out.trans (hB2.mono HB1.out.size))
  have HB12 := Lib.hid hB2
  have s2 : w.heap.size + 1 < w2.heap.size := Nat.lt_of_lt_of_le s1 hB2.size
  clear hc hz hB2 s1 s1' stb HBP HB1 HE1 HT1
  go_wp2_with fail
  refine (require_any rv er _ HE2.out).mono ?_
  rintro e w' ⟨rfl, rfl⟩
  cases rv with
  | false =>
    have hA : addB s ⟨K, n, fm, tx⟩ = false := addB_right HRV.out.symm
    unfold ends
    go_wp2_with fail
    exact ⟨rfl, add_stop hA rfl (Kept.of_below HB2.out q8)⟩
  | true =>
    have hr := HRV.out.symm
    have hlf := right_lf hG.fine hr
    obtain ⟨S, hS⟩ : ∃ S, S = ls (lm s.d) s.o.fs := ⟨_, rfl⟩
    obtain ⟨D, hD⟩ : ∃ D, D = lf (lm s.d) ⟨K, n, fm, tx⟩ := ⟨_, rfl⟩
    rw [← hD] at hlf
    have hS0 : 0 ≤ S := by rw [hS]; exact ls_nonneg hG.fine hG.each
    have hS1 : S ≤ 65536 := by rw [hS]; exact hG.len
    have hW : IntKind.i64.wrap (S + D) = S + D := IntWalk.i64_in _ (by omega)
    obtain ⟨a2, c2, q1, q2, q3, q4, q5', q6, q7, q8'⟩ := HT2.out.cells_
    rw [← hS] at q3
    have HLL : Hid (∀ w', Below w2.heap.size w2 w' → Calls Tryz.prog fl #[adr tb, .agg #[.int .i64 K, .int .i64 n, .int .i64 fm, .string tx]] w' fun e w'' => e = .returned (.int .i64 D) ∧ w''.cell? ⟨tb, 39, none⟩ = some (.int .i64 S) ∧ w''.frozen? ⟨tb, 39, none⟩ = false ∧
        w''.cell? ⟨w.heap.size, 0, none⟩ = some (.int .i64 K) ∧ w''.cell? ⟨w.heap.size, 1, none⟩ = some (.int .i64 n) ∧ w''.cell? ⟨w.heap.size, 2, none⟩ = some (.int .i64 fm) ∧ w''.cell? ⟨w.heap.size, 3, none⟩ = some (.string tx) ∧ w''.cell? ⟨w.heap.size + 1, 2, none⟩ = some (clo fl #[]) ∧ Below w2.heap.size w2 w'') := Lib.hid (fun w' hb => by
      refine (HLE.out rfl w' (HB12.out.trans (hb.mono HB12.out.size))).mono ?_
      rintro e w'' ⟨rfl, hb2⟩
      rw [hD]
      have h3 := hb.trans (hb2.mono hb.size)
      obtain ⟨hc, hz⟩ := bcell h3
      have s2' : w.heap.size < w2.heap.size := by omega
      exact ⟨rfl, by rw [hc _ _ q6]; exact q3, by rw [hz _ _ q6]; exact q7 39, by rw [hc _ _ s2']; exact e0, by rw [hc _ _ s2']; exact e1, by rw [hc _ _ s2']; exact e2, by rw [hc _ _ s2']; exact e3, by rw [hc _ _ s2]; exact y2, h3⟩)
    have z39 := q7 39
    have HSD := Lib.hid (And.intro hlf (And.intro hS0 hS1))
    have HS := Lib.hid hS
    have HD := Lib.hid hD
    clear hr hlf hS0 hS1 q1 q2 q4 q5' q7 q8' hS hD y1
    unfold ends
    go_wp2_with fail
    go_cut [] from 43 (fun w' => ∃ w6, Below w2.heap.size w2 w6 ∧ w' = w6.setCell ⟨tb, 39, none⟩ (.int .i64 (S + D)))
    case first =>
      go_region_with (refine (HLL.out _ (by first | exact Below.refl _ _ | exact (Below.refl _ _).drew | assumption)).mono ?_; rintro e w6 ⟨rfl, hH6⟩)
      all_goals
        go_wp2_with fail
        go_meet
        obtain ⟨_, _, _, _, _, _, _, hH7⟩ := hH6
        exact ⟨_, hH7, rfl⟩
    case rest =>
      obtain ⟨w6, hB6, rfl⟩ := hcut
      obtain ⟨cs, mb, d1, d2, dd1, d3, vF, vs, vO, hC, hO⟩ := HT2.out.below hB6
      have hsz := hC.sz
      have htb := hC.blk.lt
      obtain ⟨w7, hw7⟩ : ∃ w7, w7 = w6.setCell ⟨tb, 39, none⟩ (.int .i64 (S + D)) := ⟨_, rfl⟩
      rw [← hw7]
      obtain ⟨cs7, hcs7⟩ : ∃ cs7, cs7 = cs.setIfInBounds 39 (.int .i64 (S + D)) := ⟨_, rfl⟩
      have hb7 : Blk w7 tb 190 cs7 := by rw [hw7, hcs7]; exact hC.blk.set_ 39 _
      have ne7 : ∀ g, g ≠ tb → w7.heap[g]? = w6.heap[g]? := fun g hg => by rw [hw7]; exact Below.heap_setCell _ _ _ _ hg
      have z7 : w7.heap.size = w6.heap.size := by rw [hw7]; simp [World.setCell]
      have hN : w.heap.size ≠ tb := by have := HQ.out.2.2.2.1; omega
      have bx0 : ∀ o, w7.cell? ⟨w.heap.size, o, none⟩ = w2.cell? ⟨w.heap.size, o, none⟩ := fun o => by
        have e1 : w7.cell? ⟨w.heap.size, o, none⟩ = w6.cell? ⟨w.heap.size, o, none⟩ := World.cell?_of_block (w := w6) (a := ⟨w.heap.size, o, none⟩) (ne7 _ hN)
        rw [e1]
        exact (bcell hB6).1 _ _ (by omega)
      rw [← bx0] at e0 e1 e2 e3
      have p38 : w7.cell? ⟨tb, 38, none⟩ = some vO := by rw [hb7.cell 38, hcs7, Array.getElem?_setIfInBounds_ne (by decide)]; exact hO.cO
      have p39 : w7.cell? ⟨tb, 39, none⟩ = some (.int .i64 (S + D)) := by rw [hb7.cell 39, hcs7, Array.getElem?_setIfInBounds_self_of_lt (by omega)]
      have t7 : tb < w7.heap.size := by omega
      have n7 : w.heap.size < w7.heap.size := by have := hB6.size; omega
      have HE7 : Hid (ErrAt w7 er) := Lib.hid ⟨by
        have h6 := HE2.out.below hB6
        have hne : 1 ≠ tb := fun e => hC.pT (e ▸ hPe)
        exact (World.cell?_of_block (w := w6) (a := ⟨1, 0, none⟩) (ne7 _ hne)).trans h6.cell⟩
      have HK7 : Hid (Kept P w w7) := Lib.hid (by rw [hw7]; exact Kept.setCell (Kept.of_below (HB2.out.trans (hB6.mono HB2.out.size)) q8) hC.pT _)
      have HC := Lib.hid hC
      have HO := Lib.hid hO
      have H7 := Lib.hid (And.intro hb7 (And.intro ne7 (And.intro z7 (And.intro hcs7 hsz))))
      have hSD : ls (lm s.d) (s.o.fs ++ [⟨K, n, fm, tx⟩]) = S + D := by rw [ls_snoc, ← HS.out, ← HD.out]
      have HSS := Lib.hid hSD
      have r2 := right_frm HRV.out.symm
      have HR2 : Hid ((⟨K, n, fm, tx⟩ : Fld).frm = -1 ∨ counts s.o.fs fm = true) := Lib.hid r2
      clear hw7 hb7 ne7 z7 hcs7 hsz hC hO hN bx0 hB6 HT2 HE2 HB2 HB12 hSD r2 HLL HLE HR q3 q6 y2 s2 hW
      by_cases hle : S + D ≤ 65536
      · have hd : decide (S + D ≤ 65536) = true := decide_eq_true hle
        go_wp2_with fail
        refine (require_any true er _ HE7.out).mono ?_
        rintro e w' ⟨rfl, rfl⟩
        unfold ends
        go_upto_if 63 with (fail)
        go_cut [] from 61 (fun w' => ∃ cs8, Mid P tb s ⟨K, n, fm, tx⟩ w w7 cs w' cs8)
        case first =>
          have hcs7 := H7.out.2.2.2.1
          have hsz := H7.out.2.2.2.2
          have o7 : ∀ i, i ≠ 39 → cs7[i]? = cs[i]? := fun i hi => by rw [hcs7]; exact Array.getElem?_setIfInBounds_ne (fun e => hi e.symm)
          have l7 : cs7[39]? = some (.int .i64 (ls (lm s.d) (s.o.fs ++ [⟨K, n, fm, tx⟩]))) := by rw [hcs7, Array.getElem?_setIfInBounds_self_of_lt (by omega), HSS.out]
          have z7 : cs7.size = 56 := by rw [hcs7]; simp [hsz]
          rcases HR2.out with hq | hq
          · have hq2 : fm = -1 := hq
            have hM : Hid (Mid P tb s ⟨K, n, fm, tx⟩ w w7 cs w7 cs7) := Lib.hid ⟨H7.out.1, fun _ _ => rfl, rfl, z7, fun i hi => o7 i (by omega), l7, fun i hi => by
              rw [o7 (40 + i) (by omega), usedB_snoc, HO.out.cU i hi]
              have : decide ((⟨K, n, fm, tx⟩ : Fld).frm = (i : Int)) = false := decide_eq_false (by show ¬ fm = _; omega)
              rw [this, Bool.or_false], HK7.out⟩
            have hneg : decide (0 ≤ fm) = false := decide_eq_false (by omega)
            have hneg2 : ¬ 0 ≤ fm := by omega
            clear hq hq2 hcs7 hsz o7 l7 z7
            go_wp2_with fail
            go_meet
            exact ⟨_, hM.out⟩
          · have hcn := counts_of hq
            obtain ⟨Q, rfl⟩ : ∃ Q : Nat, fm = Q := ⟨fm.toNat, by omega⟩
            have hQ : Q < 16 := by have := HQ.out.2.2.2.2.2; have := hcn.2.1; have := hG.few; omega
            obtain ⟨ub, hub⟩ : ∃ ub, w7.cell? ⟨tb, 40 + Q, none⟩ = some (.bool ub) := ⟨_, by rw [H7.out.1.cell, o7 (40 + Q) (by omega)]; exact HO.out.cU Q hQ⟩
            have huz : w7.frozen? ⟨tb, 40 + Q, none⟩ = false := H7.out.1.frozen _
            have hM : Hid (Mid P tb s ⟨K, n, Q, tx⟩ w w7 cs (w7.drew.setCell ⟨tb, 40 + Q, none⟩ (.bool true)) (cs7.setIfInBounds (40 + Q) (.bool true))) := Lib.hid ⟨Blk.set_ (w := w7.drew) H7.out.1 _ _, fun g hg => Below.heap_setCell _ _ _ _ hg, by simp [World.setCell], by simp [z7],
              fun i hi => by rw [Array.getElem?_setIfInBounds_ne (by omega), o7 i (by omega)], by rw [Array.getElem?_setIfInBounds_ne (by omega)]; exact l7, fun i hi => by
                rw [usedB_snoc]
                by_cases he : i = Q
                · subst he
                  rw [Array.getElem?_setIfInBounds_self_of_lt (by omega), decide_eq_true (show (⟨K, n, (i : Int), tx⟩ : Fld).frm = (i : Int) from rfl), Bool.or_true]
                · rw [Array.getElem?_setIfInBounds_ne (by omega), o7 (40 + i) (by omega), HO.out.cU i hi, decide_eq_false (show ¬ (⟨K, n, (Q : Int), tx⟩ : Fld).frm = (i : Int) by show ¬ (Q : Int) = _; omega), Bool.or_false],
              Kept.setCell (Kept.drew HK7.out) HC.out.pT _⟩
            have hQ2 : (Q : Int) < 16 := by omega
            have hpos : decide (0 ≤ (Q : Int)) = true := decide_eq_true (by omega)
            have hpos2 : 0 ≤ (Q : Int) := by omega
            clear hq hcn hcs7 hsz o7 l7 z7
            go_wp2_with fail
            go_region
            go_wp2_with fail
            go_meet
            exact ⟨_, hM.out⟩
        case rest =>
          obtain ⟨cs8, hM⟩ := hcut
          have bx8 : ∀ o, wc.cell? ⟨w.heap.size, o, none⟩ = w7.cell? ⟨w.heap.size, o, none⟩ := fun o =>
            World.cell?_of_block (w := w7) (a := ⟨w.heap.size, o, none⟩) (hM.ne w.heap.size (by have := HQ.out.2.2.2.1; omega))
          rw [← bx8] at e0 e1 e2 e3
          obtain ⟨aO, cO, rfl, v1, v2⟩ := own_slice HO.out.rowO
          have p38' : wc.cell? ⟨tb, 38, none⟩ = some (.slice aO s.o.fs.length cO) := by rw [hM.blk.cell, hM.i 38 (by omega)]; exact HO.out.cO
          have p38z : wc.frozen? ⟨tb, 38, none⟩ = false := hM.blk.frozen _
          have t8 : tb < wc.heap.size := hM.blk.lt
          obtain ⟨M, hMl⟩ : ∃ M, M = s.o.fs.length := ⟨_, rfl⟩
          rw [← hMl] at p38' v1
          have hM1000 : M ≤ 1000 := by have := hG.few; omega
          unfold maxLen at v2
          have HM := Lib.hid hM
          have HML := Lib.hid hMl
          have hsz8 : w6.heap.size ≤ wc.heap.size := by rw [hM.size]; have := H7.out.2.2.1; omega
          have n8 : w.heap.size < wc.heap.size := by rw [hM.size]; exact n7
          have HR : Hid (((wc.alloc (.cells (fldC ⟨K, n, fm, tx⟩).toArray 56)).drew).ownsRow 0 56 4 (.slice aO M cO) M (flat s.o.fs)) := Lib.hid (by
            have h1 : wc.ownsRow 0 56 4 (.slice aO M cO) M (flat s.o.fs) := by
              rw [hMl]
              exact own_keep HO.out.rowO fun g cur _ hh => by
                have hne : g ≠ tb := fun e => by
                  have h2 : w6.heap[g]? = some (.cells cs 190 (0, 0)) := by rw [e]; exact HC.out.blk
                  rw [hh] at h2; cases h2
                rw [hM.ne g hne, H7.out.2.1 g hne]
            exact ownsRow_below h1 (bx _).drew)
          have HH : Hid (((wc.alloc (.cells (fldC ⟨K, n, fm, tx⟩).toArray 56)).drew).heap[wc.heap.size]? = some (.cells (fldC ⟨K, n, fm, tx⟩).toArray 56 (0, 0))) := Lib.hid (heap_alloc_new wc _)
          have HKEY : Hid (∀ v' w', Grew ((wc.alloc (.cells (fldC ⟨K, n, fm, tx⟩).toArray 56)).drew) w' 0 56 4 (.slice aO M cO) v' (M + 1) (flat s.o.fs ++ fldC ⟨K, n, fm, tx⟩) →
              ∃ a1 c1, v' = .slice a1 (M + 1) c1 ∧ w'.cell? ⟨tb, 38, none⟩ = some (.slice aO M cO) ∧ w'.frozen? ⟨tb, 38, none⟩ = false) := Lib.hid (fun v' w' hg => by
            obtain ⟨a1, c1, h1, _, _⟩ := own_slice hg.own
            have hb := hg.blkOther HR.out (HM.out.blk.below ((bx (.cells (fldC ⟨K, n, fm, tx⟩).toArray 56)).drew)) (by decide)
            refine ⟨a1, c1, h1, ?_, hb.frozen 38⟩
            rw [hb.cell 38, HM.out.i 38 (by omega), HO.out.cO, HML.out])
          have HFIN : Hid (∀ v1 w9, Grew ((wc.alloc (.cells (fldC ⟨K, n, fm, tx⟩).toArray 56)).drew) w9 0 56 4 (.slice aO M cO) v1 (M + 1) (flat s.o.fs ++ fldC ⟨K, n, fm, tx⟩) →
              AddPost P tb s ⟨K, n, fm, tx⟩ er w (.returned (.tuple #[])) (w9.setCell ⟨tb, 38, none⟩ v1)) := Lib.hid (fun v1 w9 hg => by
            have hA : addB s ⟨K, n, fm, tx⟩ = true := by
              unfold addB
              rw [← HRV.out, HSS.out, hd, decide_eq_true hG1.out, decide_eq_true (show s.o.fs.length < 16 by rw [← HLL0.out]; exact HQ.out.2.2.2.2.2)]; rfl
            have e := HML.out
            subst e
            refine ⟨by rw [hA]; rfl, ?_, fun _ => add_mem HC.out HO.out hsz8 (fun g hg _ => by rw [HM.out.ne g hg, H7.out.2.1 g hg]) HM.out.blk HM.out.z (fun i hi => HM.out.i i (by omega)) HM.out.l HM.out.u ((bx _).drew) hg⟩
            exact Kept.setCell (Kept.grown (Kept.drew (Kept.alloc HM.out.k (fun k hk => Nat.lt_of_lt_of_le (q8 k hk) HM.out.k.size) _)) hg.grown (fun k hk => by have := q8 k hk; have := HM.out.k.size; simp; omega) (fun k hk => HO.out.pO k hk)) HC.out.pT _)
          clear hM hMl bx8 p38 p39
          go_wp2_with fail
          go_region_law (refine step_append_fld rfl (.tmp 75) (.tmp 77) rfl (.slice aO M cO) M (flat s.o.fs) rfl HR.out hM1000 wc.heap.size ⟨K, n, fm, tx⟩ rfl HH.out ?_; intro v1 w1 hGr; obtain ⟨a1, c1, rfl, g35, g35z⟩ := HKEY.out v1 w1 hGr)
          all_goals
            go_wp2_with fail
            go_end0
            exact HFIN.out _ _ hGr
      · have hd : decide (S + D ≤ 65536) = false := decide_eq_false hle
        have hA : addB s ⟨K, n, fm, tx⟩ = false := by unfold addB; rw [HSS.out, hd]; simp
        go_wp2_with fail
        refine (require_any false er _ HE7.out).mono ?_
        rintro e w' ⟨rfl, rfl⟩
        unfold ends
        go_wp2_with fail
        exact ⟨rfl, add_stop hA rfl HK7.out⟩
end FmtH
end Go.Proofs.YtlhobhfmombjjaaGreatDoor
