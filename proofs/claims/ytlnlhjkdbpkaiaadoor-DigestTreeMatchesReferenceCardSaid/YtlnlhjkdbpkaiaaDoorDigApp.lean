/- A whole list of strings is appended to a list of the call's own. Conditions: both lists are readable, and have together at most 1000 strings. -/
import Derived.Test.YtlnlhjkdbpkaiaaDoorDigU
namespace Go.Proofs.YtlnlhjkdbpkaiaaDoor
open Go.RowKit

theorem storeCells_nil (p : Addr) (w : World) : (storeCells p []).run Tryd.prog w = .ok () w := by first | rfl | (unfold storeCells; rfl) | simp [storeCells]
theorem run_append_list (w : World) (base : Nat) (ty : TypeId) (v vx : Value) (l l2 : List ByteArray) (hown : OwnL w base v l) (hx : ListAt w vx l2) (hl : l.length + l2.length ≤ 1000) (hb : base ≤ w.heap.size) :
    ∃ v' w', (Builtin.append_ #[26, 26] ty #[v, vx]).run Tryd.prog w = .ok v' w' ∧ OwnL w' base v' (l ++ l2) ∧ Below base w w' := by
  obtain ⟨i0, hi, hz0, hz1, hz2⟩ := info_parts infoStr
  obtain ⟨_, ⟨a, c, rfl, rfl⟩ | ⟨b, off, cap, rfl, k1, k2, k3, k4, k5⟩⟩ := hx
  · have hfc : ∀ a c, (Builtin.firstCells 1 0 (.slice a 0 c)).run Tryd.prog w = .ok #[] w := by
      intro a c
      cases a with
      | none => exact run_firstCells_none w 1 0 0 c
      | some a => exact run_firstCells_some w 1 0 a 0 c [] rfl (fun j u h => by simp at h)
    obtain ⟨a0, c0, rfl, hc0, ha0⟩ := hown.form2
    refine ⟨.slice a0 l.length c0, w, ?_, by rw [List.append_nil]; exact hown, Below.refl _ _⟩
    have hu := Tryd.underlying26
    have hsz := szStr w
    rcases ha0 with ⟨rfl, h0⟩ | ⟨g, rfl⟩
    · simp [Builtin.append_, underlying, hu, hsz, Sem.run_bind, Result.andThen, Builtin.lenOf, hfc, hc0]
    · simp [Builtin.append_, underlying, hu, hsz, Sem.run_bind, Result.andThen, Builtin.lenOf, hfc, hc0, storeCells_nil]
  · obtain ⟨v', w', hrun, r1, r2, _⟩ := run_append_own (P := Tryd.prog) w base 26 ty 9 i0 (.string ⟨#[]⟩) 1 16 Tryd.underlying26 hi hz0 hz1 hz2 rfl (by decide) v l.length _ hown ⟨b, off, none⟩ l2.length cap (l2.map Value.string) (by simp)
      (fun j u hu => by
        rw [List.getElem?_map] at hu
        cases hj : l2[j]? with
        | none => rw [hj] at hu; cases hu
        | some y =>
          rw [hj] at hu
          injection hu with hu
          subst hu
          have hjl := (List.getElem?_eq_some_iff.1 hj).1
          have := k4 j hjl
          simp only [List.getD, hj, Option.getD_some] at this
          rw [show (⟨b, off, none⟩ : Addr).add j = ⟨b, off + j, none⟩ by cases j <;> simp [Addr.add]]
          exact this)
      (fun u hu => by
        obtain ⟨y, _, rfl⟩ := List.mem_map.1 hu
        rfl) (by unfold maxLen; omega) (by omega) hb
    refine ⟨v', w', hrun, ?_, (Below.refl base w).grown r2 hb (fun k e => (World.ownsRow.lt hown k e).1)⟩
    unfold OwnL
    rw [List.length_append, List.map_append]
    exact r1

/-- As an operation of a straight walk. -/
theorem wpList_append_list {ops : Array Oper} {rest : List Oper} {o : Oper} {a : Act} {w : World} {Q : Exit → Act → World → Prop} (hgd : o.guard = none) (s x : Operand)
    (hop : o.op = Op.call { callee := Callee.builtin Builtin.append, args := #[s, x], argTypes := #[26, 26] })
    (base : Nat) (v vx : Value) (l l2 : List ByteArray) (hs : a.eval s = v) (hown : OwnL w base v l) (hx : a.eval x = vx) (hlx : ListAt w vx l2) (hl : l.length + l2.length ≤ 1000) (hb : base ≤ w.heap.size)
    (h : ∀ v' w', OwnL w' base v' (l ++ l2) → Below base w w' → wpList Tryd.prog ops Q rest (a.put o.dst v') w') :
    wpList Tryd.prog ops Q (o :: rest) a w := by
  refine wpList_plain hgd fun K hK => ?_
  obtain ⟨v', w', hr, h2, h3⟩ := run_append_list w base o.type v vx l l2 hown hlx hl hb
  unfold Oper.wp execOp
  simp only [hop, resolve, invoke, builtin, Sem.run_bind, Sem.run_pure, Result.andThen_ok, List.map_toArray, List.map_cons, List.map_nil, hs, hx, hr]
  exact hK _ _ (h v' w' h2 h3)
/-- As a step of a region. -/
theorem step_append_list {ops : Array Oper} {o : Oper} {a : Act} {w : World} {K : Act → World → Prop} {Q : Exit → Act → World → Prop} {E : Prop}
    (hg : o.guard = none) (s x : Operand) (hop : o.op = Op.call { callee := Callee.builtin Builtin.append, args := #[s, x], argTypes := #[26, 26] })
    (base : Nat) (v vx : Value) (l l2 : List ByteArray) (hs : a.eval s = v) (hown : OwnL w base v l) (hx : a.eval x = vx) (hlx : ListAt w vx l2) (hl : l.length + l2.length ≤ 1000) (hb : base ≤ w.heap.size)
    (hK : ∀ v' w', OwnL w' base v' (l ++ l2) → Below base w w' → K (a.put o.dst v') w') :
    if Region.wanted o (yielded ops a.tmps) = true then Oper.wp Tryd.prog o a w K Q else E := by
  have hw : Region.wanted o (yielded ops a.tmps) = true := by simp [Region.wanted, hg]
  rw [if_pos hw]
  obtain ⟨v', w', hr, h2, h3⟩ := run_append_list w base o.type v vx l l2 hown hlx hl hb
  unfold Oper.wp
  simp [execOp, hop, resolve, invoke, builtin, hs, hx, hr, Result.andThen]
  exact hK _ _ h2 h3
end Go.Proofs.YtlnlhjkdbpkaiaaDoor
