/- Numbers in a row of the call's own: appending them; the reference's table of words. No condition of its own. -/
import Derived.Test.YtlnlhjkdbpkaiaaDoorDigM
import Derived.Laws.BytesArg
import Derived.LoopTactic
namespace Go.Proofs.YtlnlhjkdbpkaiaaDoor
open Go.RowKit

/-- The numbers lie in a row of the call's own. -/
def OwnI (W : World) (base : Nat) (E : TypeId) (k : IntKind) (v : Value) (l : List Nat) : Prop := W.ownsRow base E 1 v l.length (l.map fun (n : Nat) => Value.int k (n : Int))
theorem OwnI.nil (W : World) (base : Nat) (E : TypeId) (k : IntKind) : OwnI W base E k (.slice none 0 0) [] := World.ownsRow_nil W base _ _
theorem OwnI.mono {W : World} {base base' : Nat} {E : TypeId} {k : IntKind} {v : Value} {l : List Nat} (h : OwnI W base E k v l) (hb : base' ≤ base) : OwnI W base' E k v l := World.ownsRow.mono h hb
theorem OwnI.alloc {W : World} {base : Nat} {E : TypeId} {k : IntKind} {v : Value} {l : List Nat} (h : OwnI W base E k v l) (o : Obj) : OwnI (W.alloc o) base E k v l := World.ownsRow.alloc h o
theorem OwnI.drew {W : World} {base : Nat} {E : TypeId} {k : IntKind} {v : Value} {l : List Nat} (h : OwnI W base E k v l) : OwnI W.drew base E k v l := h
theorem OwnI.below {W W' : World} {base : Nat} {E : TypeId} {k : IntKind} {v : Value} {l : List Nat} (h : OwnI W base E k v l) (hb : Below W.heap.size W W') : OwnI W' base E k v l := by
  obtain ⟨h1, h2 | ⟨g, cap, cur, e1, e2, e3, e4⟩⟩ := h
  · exact ⟨h1, .inl h2⟩
  · exact ⟨h1, .inr ⟨g, cap, cur, e1, e2, (hb.block g (Array.getElem?_eq_some_iff.1 e3).1).trans e3, e4⟩⟩
theorem OwnI.form {W : World} {base : Nat} {E : TypeId} {k : IntKind} {v : Value} {l : List Nat} (h : OwnI W base E k v l) : ∃ a c, v = .slice a l.length c ∧ l.length ≤ c := by
  obtain ⟨_, ⟨rfl, h2⟩ | ⟨g, cap, cur, rfl, _, _, h4, _⟩⟩ := h
  · exact ⟨none, 0, by rw [h2], by omega⟩
  · exact ⟨_, cap, rfl, h4⟩
/-- The cells of the numbers from block g, place off on. -/
def NumsAt (W : World) (k : IntKind) (g off : Nat) (l : List Nat) : Prop := ∀ j, j < l.length → W.cell? ⟨g, off + j, none⟩ = some (.int k ((l.getD j 0 : Nat) : Int))
theorem NumsAt.below {W W' : World} {k : IntKind} {g off : Nat} {l : List Nat} (h : NumsAt W k g off l) {B : Nat} (hb : Below B W W') (hg : g < B) : NumsAt W' k g off l := fun j hj => (hb.cell (p := ⟨g, off + j, none⟩) hg).trans (h j hj)
theorem OwnI.row {W : World} {base : Nat} {E : TypeId} {k : IntKind} {v : Value} {l : List Nat} (h : OwnI W base E k v l) (h1 : 1 ≤ l.length) :
    ∃ g c, v = .slice (some ⟨g, 0, none⟩) l.length c ∧ l.length ≤ c ∧ c ≤ 9223372036854775807 ∧ g < W.heap.size ∧ NumsAt W k g 0 l := by
  obtain ⟨_, ⟨rfl, h2⟩ | ⟨g, cap, cur, rfl, _, h3, h4, h5, _, h7⟩⟩ := h
  · omega
  · refine ⟨g, cap, rfl, h4, by unfold maxLen at h5; omega, (Array.getElem?_eq_some_iff.1 h3).1, fun j hj => ?_⟩
    rw [cell_of_row W g (0 + j) cur _ _ h3, Nat.zero_add]
    have : cur.toList[j]? = (l.map fun (n : Nat) => Value.int k (n : Int))[j]? := by
      rw [← h7, List.getElem?_take, if_pos (by omega)]
    rw [← Array.getElem?_toList, this]
    simp [List.getD, hj]
/-- A type of slices of numbers. -/
structure NumT (ST E : TypeId) (k : IntKind) : Prop where
  u : Tryd.prog.underlying ST = some (.slice E)
  i : ∃ i0, Tryd.prog.info? E = some i0 ∧ i0.zero = some (.int k 0) ∧ i0.size = 1 ∧ i0.bytes ≤ 8
theorem infoU8 : (Tryd.prog.info? 5).map (fun i => (i.zero, i.size, i.bytes)) = some (some (.int .u8 0), 1, 1) := by kernel_rfl
theorem infoU32 : (Tryd.prog.info? 47).map (fun i => (i.zero, i.size, i.bytes)) = some (some (.int .u32 0), 1, 4) := by kernel_rfl
theorem numU8 : NumT 42 5 .u8 := ⟨Tryd.underlying42, by
  obtain ⟨i0, hi, hz0, hz1, hz2⟩ := info_parts infoU8
  exact ⟨i0, hi, hz0, hz1, by omega⟩⟩
theorem numU32 : NumT 48 47 .u32 := ⟨Tryd.underlying48, by
  obtain ⟨i0, hi, hz0, hz1, hz2⟩ := info_parts infoU32
  exact ⟨i0, hi, hz0, hz1, by omega⟩⟩

theorem run_append_nums {ST E : TypeId} {k : IntKind} (hT : NumT ST E k) (w : World) (base : Nat) (ty : TypeId) (v : Value) (l : List Nat) (hown : OwnI w base E k v l) (b off c m : Nat) (news : List Nat) (hm : m = news.length)
    (hc : NumsAt w k b off news) (hl : l.length + news.length ≤ 1000000) (hb : base ≤ w.heap.size) :
    ∃ v' w', (Builtin.append_ #[ST, ST] ty #[v, .slice (some ⟨b, off, none⟩) m c]).run Tryd.prog w = .ok v' w' ∧ OwnI w' base E k v' (l ++ news) ∧ Below base w w' := by
  obtain ⟨hu, i0, hi, hz0, hz1, hz2⟩ := hT
  subst hm
  obtain ⟨v', w', hrun, r1, r2, _⟩ := run_append_own (P := Tryd.prog) w base ST ty E i0 (.int k 0) 1 i0.bytes hu hi hz0 hz1 rfl rfl (by decide) v l.length _ hown ⟨b, off, none⟩ news.length c (news.map fun (n : Nat) => Value.int k (n : Int)) (by simp)
    (fun j u hu => by
      rw [List.getElem?_map] at hu
      cases hj : news[j]? with
      | none => rw [hj] at hu; cases hu
      | some y =>
        rw [hj] at hu
        injection hu with hu
        subst hu
        have hjl := (List.getElem?_eq_some_iff.1 hj).1
        have := hc j hjl
        simp only [List.getD, hj, Option.getD_some] at this
        rw [show (⟨b, off, none⟩ : Addr).add j = ⟨b, off + j, none⟩ by cases j <;> simp [Addr.add]]
        exact this)
    (fun u hu => by
      obtain ⟨y, _, rfl⟩ := List.mem_map.1 hu
      rfl) (by unfold maxLen; omega) (Nat.le_trans (Nat.mul_le_mul hl hz2) (by decide)) hb
  refine ⟨v', w', hrun, ?_, (Below.refl base w).grown r2 hb (fun k e => (World.ownsRow.lt hown k e).1)⟩
  unfold OwnI
  rw [List.length_append, List.map_append]
  exact r1
theorem wpList_append_nums {ST E : TypeId} {k : IntKind} (hT : NumT ST E k) {ops : Array Oper} {rest : List Oper} {o : Oper} {a : Act} {w : World} {Q : Exit → Act → World → Prop} (hgd : o.guard = none) (s x : Operand)
    (hop : o.op = Op.call { callee := Callee.builtin Builtin.append, args := #[s, x], argTypes := #[ST, ST] })
    (base : Nat) (v : Value) (l : List Nat) (hs : a.eval s = v) (hown : OwnI w base E k v l) (b off c m : Nat) (news : List Nat) (hx : a.eval x = .slice (some ⟨b, off, none⟩) m c) (hm : m = news.length)
    (hc : NumsAt w k b off news) (hl : l.length + news.length ≤ 1000000) (hb : base ≤ w.heap.size)
    (h : ∀ v' w', OwnI w' base E k v' (l ++ news) → Below base w w' → wpList Tryd.prog ops Q rest (a.put o.dst v') w') :
    wpList Tryd.prog ops Q (o :: rest) a w := by
  refine wpList_plain hgd fun K hK => ?_
  obtain ⟨v', w', hr, h2, h3⟩ := run_append_nums hT w base o.type v l hown b off c m news hm hc hl hb
  unfold Oper.wp execOp
  simp only [hop, resolve, invoke, builtin, Sem.run_bind, Sem.run_pure, Result.andThen_ok, List.map_toArray, List.map_cons, List.map_nil, hs, hx, hr]
  exact hK _ _ (h v' w' h2 h3)
theorem step_append_nums {ST E : TypeId} {k : IntKind} (hT : NumT ST E k) {ops : Array Oper} {o : Oper} {a : Act} {w : World} {K : Act → World → Prop} {Q : Exit → Act → World → Prop} {E' : Prop}
    (hg : o.guard = none) (s x : Operand) (hop : o.op = Op.call { callee := Callee.builtin Builtin.append, args := #[s, x], argTypes := #[ST, ST] })
    (base : Nat) (v : Value) (l : List Nat) (hs : a.eval s = v) (hown : OwnI w base E k v l) (b off c m : Nat) (news : List Nat) (hx : a.eval x = .slice (some ⟨b, off, none⟩) m c) (hm : m = news.length)
    (hc : NumsAt w k b off news) (hl : l.length + news.length ≤ 1000000) (hb : base ≤ w.heap.size)
    (hK : ∀ v' w', OwnI w' base E k v' (l ++ news) → Below base w w' → K (a.put o.dst v') w') :
    if Region.wanted o (yielded ops a.tmps) = true then Oper.wp Tryd.prog o a w K Q else E' := by
  have hw : Region.wanted o (yielded ops a.tmps) = true := by simp [Region.wanted, hg]
  rw [if_pos hw]
  obtain ⟨v', w', hr, h2, h3⟩ := run_append_nums hT w base o.type v l hown b off c m news hm hc hl hb
  unfold Oper.wp
  simp [execOp, hop, resolve, invoke, builtin, hs, hx, hr, Result.andThen]
  exact hK _ _ h2 h3
/-- A row of literals that was just made. -/
theorem nums_new (W : World) (k : IntKind) (T : TypeId) (l : List Nat) (cs : Array Value) (h : cs = cellsN k l) : NumsAt (W.alloc (.cells cs T)) k W.heap.size 0 l := by
  subst h
  intro j hj
  rw [Nat.zero_add]
  exact (Row.new W T k l).cell hj
theorem nums_one (W : World) (k : IntKind) (T : TypeId) (e : Int) (n : Nat) (h : e = (n : Int)) : NumsAt (W.alloc (.cells #[.int k e] T)) k W.heap.size 0 [n] := nums_new W k T [n] _ (by subst h; rfl)
theorem nums_four (W : World) (k : IntKind) (T : TypeId) (e0 e1 e2 e3 : Int) (n0 n1 n2 n3 : Nat) (h0 : e0 = (n0 : Int)) (h1 : e1 = (n1 : Int)) (h2 : e2 = (n2 : Int)) (h3 : e3 = (n3 : Int)) : NumsAt (W.alloc (.cells #[.int k e0, .int k e1, .int k e2, .int k e3] T)) k W.heap.size 0 [n0, n1, n2, n3] := nums_new W k T [n0, n1, n2, n3] _ (by subst h0; subst h1; subst h2; subst h3; rfl)

set_option maxRecDepth 100000 in
set_option maxHeartbeats 2000000 in
/-- The reference's table of words. -/
theorem rConstants_any (w : World) :
    Calls Tryd.prog 51 #[] w fun e w' => e = .returned (.slice (some ⟨w.heap.size, 0, none⟩) 64 64) ∧ NumsAt w' .u32 w.heap.size 0 Ds.kTab ∧ Below w.heap.size w w' ∧ w.heap.size < w'.heap.size := by
  have HN : Hid (∀ cs, cs = cellsN .u32 Ds.kTab → NumsAt (w.alloc (.cells cs 47)) .u32 w.heap.size 0 Ds.kTab) := Lib.hid (fun cs h => nums_new w .u32 _ _ cs h)
  go_enter Tryd.func51, Tryd.ntmps51
  go_wp2_with fail
  go_ret
  exact ⟨rfl, HN.out _ rfl, (Below.refl _ w).alloc (Nat.le_refl _) _, by simp⟩
end Go.Proofs.YtlnlhjkdbpkaiaaDoor
