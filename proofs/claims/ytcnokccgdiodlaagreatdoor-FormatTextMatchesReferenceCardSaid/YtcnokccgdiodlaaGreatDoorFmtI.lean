/- One element is appended to a row of the call's own. No condition of its own. -/
import Derived.Test.YtcnokccgdiodlaaGreatDoorFmtG
import Derived.Deep.RegionLaw
namespace Go.Proofs.YtcnokccgdiodlaaGreatDoor
open Go.RowKit Fx Go.Sort

theorem infoFld : (Tryz.prog.info? 56).map (fun i => (i.zero, i.size, i.bytes)) = some (some (.agg #[.int .i64 0, .int .i64 0, .int .i64 0, .string ⟨#[]⟩]), 4, 40) := by kernel_rfl
theorem infoFmt : (Tryz.prog.info? 34).map (fun i => (i.zero, i.size, i.bytes)) = some (some (.agg #[.int .i64 0, .slice none 0 0]), 2, 32) := by kernel_rfl
theorem Blk.ne_ {w : World} {g g' : Nat} {t t' : TypeId} {cs cs' : Array Value} (h : Blk w g t cs) (h' : Blk w g' t' cs') (hne : t ≠ t') : g ≠ g' := by
  rintro rfl
  unfold Blk at h h'
  rw [h] at h'
  injection h' with h'
  injection h' with _ ht
  exact hne ht
theorem own_blk_ne {w : World} {base g : Nat} {e t : TypeId} {size n : Nat} {v : Value} {xs : List Value} {cs : Array Value} (h : w.ownsRow base e size v n xs) (hg : Blk w g t cs) (hne : e ≠ t) : v.ownBlock ≠ some g := by
  rcases h.2 with ⟨rfl, _⟩ | ⟨g', cap, cur, rfl, _, hh, _⟩
  · simp [Value.ownBlock]
  · intro he
    have : g' = g := by simpa [Value.ownBlock] using he
    subst this
    exact Blk.ne_ (t := e) hh hg hne rfl
/-- What an append of one element leaves. -/
structure Grew (w w' : World) (base : Nat) (e : TypeId) (size : Nat) (v v' : Value) (n : Nat) (xs : List Value) : Prop where
  own : w'.ownsRow base e size v' n xs
  grown : w.grownBy w' v.ownBlock
  blk : v'.ownBlock = v.ownBlock ∨ v'.ownBlock = some w.heap.size
section
variable {w w' : World} {base : Nat} {e : TypeId} {size : Nat} {v v' : Value} {n : Nat} {xs : List Value}
/-- A block of another type is as it was. -/
theorem Grew.blkOther {m : Nat} {ys : List Value} {g : Nat} {t : TypeId} {cs : Array Value} (h : Grew w w' base e size v v' n xs) (h0 : w.ownsRow base e size v m ys) (hg : Blk w g t cs) (hne : e ≠ t) : Blk w' g t cs :=
  (h.grown.block g hg.lt fun e => own_blk_ne h0 hg hne e.symm).trans hg
theorem Grew.heapOther {m : Nat} {ys : List Value} {g : Nat} (h : Grew w w' base e size v v' n xs) (h0 : w.ownsRow base e size v m ys) (hl : g < w.heap.size) (hne : ∀ cur fr, w.heap[g]? ≠ some (.cells cur e fr)) : w'.heap[g]? = w.heap[g]? :=
  h.grown.block g hl fun e1 => by
    rcases h0.2 with ⟨rfl, _⟩ | ⟨g', cap, cur, rfl, _, hh, _⟩
    · simp [Value.ownBlock] at e1
    · have : g = g' := by simpa [Value.ownBlock] using e1
      subst this
      exact hne _ _ hh
end
theorem run_append_fld (w : World) (ty : TypeId) (v : Value) (n : Nat) (xs : List Value) (hown : w.ownsRow 0 56 4 v n xs) (hn : n ≤ 1000) (g : Nat) (f : Fld) (hg : w.heap[g]? = some (.cells (fldC f).toArray 56 (0, 0))) :
    ∃ v' w', (Builtin.append_ #[32, 32] ty #[v, .slice (some ⟨g, 0, none⟩) 1 1]).run Tryz.prog w = .ok v' w' ∧ Grew w w' 0 56 4 v v' (n + 1) (xs ++ fldC f) := by
  obtain ⟨i0, hi, hz0, hz1, hz2⟩ := info_parts infoFld
  obtain ⟨v', w', h1, h2, h3, _, h5⟩ := run_append_own_at (P := Tryz.prog) w 0 32 ty 56 i0 _ 4 40 Tryz.underlying32 hi hz0 hz1 hz2 rfl (by decide) v n xs hown ⟨g, 0, none⟩ 1 1 (fldC f) rfl
    (fun j u hu => by
      have hadd : (⟨g, 0, none⟩ : Addr).add j = ⟨g, j, none⟩ := by unfold Addr.add; split <;> simp_all
      rw [hadd, cell_of_row w g j _ _ _ hg]; simpa using hu)
    (fun u hu => by simp [fldC] at hu; rcases hu with rfl | rfl | rfl | rfl <;> rfl) (by unfold maxLen; omega) (by omega) (Nat.zero_le _)
  exact ⟨v', w', h1, h2, h3, h5⟩
theorem step_append_fld {ops : Array Oper} {o : Oper} {a : Act} {w : World} {K : Act → World → Prop} {Q : Exit → Act → World → Prop} {E : Prop}
    (hg : o.guard = none) (s x : Operand) (hop : o.op = Op.call { callee := Callee.builtin Builtin.append, args := #[s, x], argTypes := #[32, 32] })
    (v : Value) (n : Nat) (xs : List Value) (hs : a.eval s = v) (hown : w.ownsRow 0 56 4 v n xs) (hn : n ≤ 1000) (g : Nat) (f : Fld) (hx : a.eval x = .slice (some ⟨g, 0, none⟩) 1 1)
    (hb : w.heap[g]? = some (.cells (fldC f).toArray 56 (0, 0)))
    (hK : ∀ v' w', Grew w w' 0 56 4 v v' (n + 1) (xs ++ fldC f) → K (a.put o.dst v') w') :
    if Region.wanted o (yielded ops a.tmps) = true then Oper.wp Tryz.prog o a w K Q else E := by
  have hw : Region.wanted o (yielded ops a.tmps) = true := by simp [Region.wanted, hg]
  rw [if_pos hw]
  obtain ⟨v', w', hr, h2⟩ := run_append_fld w o.type v n xs hown hn g f hb
  unfold Oper.wp
  simp [execOp, hop, resolve, invoke, builtin, hs, hx, hr, Result.andThen]
  exact hK _ _ h2
theorem run_append_fmt (w : World) (ty : TypeId) (v : Value) (n : Nat) (xs : List Value) (hown : w.ownsRow 0 34 2 v n xs) (hn : n ≤ 1000) (g : Nat) (id : Int) (u : Value) (hu : u.oneCell' = true) (hg : w.heap[g]? = some (.cells #[.int .i64 id, u] 34 (0, 0))) :
    ∃ v' w', (Builtin.append_ #[22, 22] ty #[v, .slice (some ⟨g, 0, none⟩) 1 1]).run Tryz.prog w = .ok v' w' ∧ Grew w w' 0 34 2 v v' (n + 1) (xs ++ [.int .i64 id, u]) := by
  obtain ⟨i0, hi, hz0, hz1, hz2⟩ := info_parts infoFmt
  obtain ⟨v', w', h1, h2, h3, _, h5⟩ := run_append_own_at (P := Tryz.prog) w 0 22 ty 34 i0 _ 2 32 Tryz.underlying22 hi hz0 hz1 hz2 rfl (by decide) v n xs hown ⟨g, 0, none⟩ 1 1 [.int .i64 id, u] rfl
    (fun j y hy => by
      have hadd : (⟨g, 0, none⟩ : Addr).add j = ⟨g, j, none⟩ := by unfold Addr.add; split <;> simp_all
      rw [hadd, cell_of_row w g j _ _ _ hg]; simpa using hy)
    (fun y hy => by simp at hy; rcases hy with rfl | rfl; rfl; exact hu) (by unfold maxLen; omega) (by omega) (Nat.zero_le _)
  exact ⟨v', w', h1, h2, h3, h5⟩
theorem step_append_fmt {ops : Array Oper} {o : Oper} {a : Act} {w : World} {K : Act → World → Prop} {Q : Exit → Act → World → Prop} {E : Prop}
    (hg : o.guard = none) (s x : Operand) (hop : o.op = Op.call { callee := Callee.builtin Builtin.append, args := #[s, x], argTypes := #[22, 22] })
    (v : Value) (n : Nat) (xs : List Value) (hs : a.eval s = v) (hown : w.ownsRow 0 34 2 v n xs) (hn : n ≤ 1000) (g : Nat) (id : Int) (u : Value) (hu : u.oneCell' = true) (hx : a.eval x = .slice (some ⟨g, 0, none⟩) 1 1)
    (hb : w.heap[g]? = some (.cells #[.int .i64 id, u] 34 (0, 0)))
    (hK : ∀ v' w', Grew w w' 0 34 2 v v' (n + 1) (xs ++ [.int .i64 id, u]) → K (a.put o.dst v') w') :
    if Region.wanted o (yielded ops a.tmps) = true then Oper.wp Tryz.prog o a w K Q else E := by
  have hw : Region.wanted o (yielded ops a.tmps) = true := by simp [Region.wanted, hg]
  rw [if_pos hw]
  obtain ⟨v', w', hr, h2⟩ := run_append_fmt w o.type v n xs hown hn g id u hu hb
  unfold Oper.wp
  simp [execOp, hop, resolve, invoke, builtin, hs, hx, hr, Result.andThen]
  exact hK _ _ h2
end Go.Proofs.YtcnokccgdiodlaaGreatDoor
