/- A region that draws its order, where what is read is written only by an operation that waits for the reading: told by a condition on the world that holds as long as that operation has not come up. No condition of its own. (After the library's OrdersHeld.) The steps of a drawn region in one line each (tools/compact.py writes them): what is decided stands in one Boolean. No condition of its own. (After RecT and the library's OrdersHeld.) Plain facts on tables of formats: what a table is built of, when it is valid, and the least lengths. No condition of its own. -/
import Derived.OrdersHeld
import Derived.Deep.RegionHeld
import Derived.WalkKit
namespace Go.Proofs.YtdndmhlmbpgdeaaGreatDoor
section RecT
open Go.RowKit

section
variable {P : Program} {ops : Array Oper} {Q : Exit → Act → World → Prop} {md : Region.Mode} {m : Nat} {F S' : World → Prop}
/-- Whatever has come up, what it waits for has come up. -/
def Closed (md : Region.Mode) (ops : Array Oper) (L : Array Bool) : Prop := ∀ k o, ops[k]? = some o → L.getD k false = true → ∀ e ∈ o.after, Region.binds md e = true → L.getD e.on false = true
def closedB (md : Region.Mode) (ops : Array Oper) (L : Array Bool) : Bool := (List.range ops.size).all fun k => match ops[k]? with
  | none => true
  | some o => !L.getD k false || o.after.toList.all fun e => !Region.binds md e || L.getD e.on false
theorem closed_of {L : Array Bool} (h : closedB md ops L = true) : Closed md ops L := fun k o ho hk e he hb => by
  unfold closedB at h
  rw [List.all_eq_true] at h
  have h1 := h k (by rw [List.mem_range]; exact (Array.getElem?_eq_some_iff.1 ho).1)
  simp only [ho, Bool.or_eq_true, Bool.not_eq_true', List.all_eq_true] at h1
  rcases h1 with h1 | h1
  · rw [h1] at hk; cases hk
  · rcases h1 e (by simpa using he) with h2 | h2
    · rw [h2] at hb; cases hb
    · exact h2
/-- One waits for another. -/
def dependsB (md : Region.Mode) (ops : Array Oper) : Nat → Nat → Nat → Bool
  | 0, _, _ => false
  | n + 1, k, i => match ops[k]? with
    | none => false
    | some o => o.after.toList.any fun e => Region.binds md e && (e.on == i || dependsB md ops n e.on i)
theorem depends_of {L : Array Bool} (hc : Closed md ops L) {i : Nat} : ∀ (n k : Nat), dependsB md ops n k i = true → L.getD k false = true → L.getD i false = true
  | 0, _, h, _ => by cases h
  | n + 1, k, h, hk => by
    unfold dependsB at h
    cases ho : ops[k]? with
    | none => simp only [ho] at h; cases h
    | some o =>
      simp only [ho, List.any_eq_true, Bool.and_eq_true, Bool.or_eq_true, beq_iff_eq] at h
      obtain ⟨e, he, hb, h1⟩ := h
      have h2 := hc k o ho hk e (by simpa using he) hb
      rcases h1 with h1 | h1
      · rw [← h1]; exact h2
      · exact depends_of hc n e.on h1 h2
theorem unlisted {L : Array Bool} {k : Nat} (hk : k < L.size) (h : ¬ L.getD k false = true) : L.getD k true = false := by
  simp [hk] at h ⊢
  exact h
theorem listed_not {L : Array Bool} {k : Nat} (h : L.getD k true = false) : ¬ L.getD k false = true := by
  intro h2
  rcases Nat.lt_or_ge k L.size with h' | h'
  · simp [h'] at h h2; rw [h] at h2; cases h2
  · simp [Array.getElem?_eq_none h'] at h
theorem Closed.step {L : Array Bool} (hc : Closed md ops L) {j : Nat} (hj : j ∈ Region.ready md ops L) : Closed md ops (L.setIfInBounds j true) := fun k o ho hk e he hb => by
  by_cases hjk : j = k
  · subst hjk
    obtain ⟨_, o', ho', hall⟩ := mem_ready.1 hj
    rw [ho] at ho'
    cases ho'
    exact getD_set_true (hall e he hb)
  · rw [getD_set_ne false hjk] at hk
    exact getD_set_true (hc k o ho hk e he hb)

/-- Whatever order is picked from here on; as long as m has not come up, F holds. -/
def wpAnyT (P : Program) (md : Region.Mode) (ops : Array Oper) (Q : Exit → Act → World → Prop) (m : Nat) (F : World → Prop) : Nat → Array Bool → Act → World → Prop
  | 0, L, a, w => Region.ready md ops L = [] ∧ Q .normal a w
  | fuel + 1, L, a, w =>
    (Region.ready md ops L = [] → Q .normal a w) ∧
    ∀ i ∈ Region.ready md ops L, wpOp P ops Q i (fun a' w' => ((L.setIfInBounds i true).getD m true = false → F w') ∧ wpAnyT P md ops Q m F fuel (L.setIfInBounds i true) a' w') a w
theorem wpAny_of_T : ∀ (fuel : Nat) (L : Array Bool) (a : Act) (w : World), wpAnyT P md ops Q m F fuel L a w → wpAny P md ops Q fuel L a w
  | 0, _, _, _, h => h
  | fuel + 1, _, _, _, h => ⟨h.1, fun i hi => wpOp_mono (fun a' w' h' => wpAny_of_T fuel _ a' w' h'.2) (h.2 i hi)⟩
theorem firstT {i : Nat} {oi : Oper} {v : Value} (Y : Act → Prop) (hi : ops[i]? = some oi) (him : i ≠ m)
    (step : ∀ (a : Act) (w : World) (K : Act → World → Prop), Y a → S' w → K (a.put oi.dst v) w → wpOp P ops Q i K a w)
    (put : ∀ (j : Nat) (oj : Oper), ops[j]? = some oj → oi.apart ops oj = true → ∀ (a : Act) (w : World) (K : Act → World → Prop), Y a → wpOp P ops Q j K (a.put oi.dst v) w → wpOp P ops Q j (fun a' w' => Y a' ∧ K (a'.put oi.dst v) w') a w)
    (hF : ∀ (L : Array Bool) (w : World), m < L.size → Closed md ops L → L.getD i true = false → (L.getD m true = false → F w) → S' w) :
    ∀ (fuel : Nat) (L : Array Bool) (a : Act) (w : World), m < L.size → Closed md ops L →
      (∀ j oj, ops[j]? = some oj → j ≠ i → L.getD j true = false → (∀ e ∈ oj.after, Region.binds md e = true → e.on ≠ i) → oi.apart ops oj = true) →
      i ∈ Region.ready md ops L → Y a → (L.getD m true = false → F w) →
      wpAnyT P md ops Q m F fuel (L.setIfInBounds i true) (a.put oi.dst v) w → wpAnyT P md ops Q m F (fuel + 1) L a w := by
  intro fuel
  induction fuel with
  | zero =>
    intro L a w hm hc _ hr hy hS H
    refine ⟨fun h => (by rw [h] at hr; cases hr), fun j hj => ?_⟩
    by_cases hji : j = i
    · subst hji
      exact step a w _ hy (hF L w hm hc (mem_ready.1 hr).1 hS) ⟨fun h => hS (by rwa [getD_set_ne true him] at h), H⟩
    · have := ready_mono hj hji
      rw [H.1] at this
      cases this
  | succ fuel ih =>
    intro L a w hm hc hfree hr hy hS H
    refine ⟨fun h => (by rw [h] at hr; cases hr), fun j hj => ?_⟩
    by_cases hji : j = i
    · subst hji
      exact step a w _ hy (hF L w hm hc (mem_ready.1 hr).1 hS) ⟨fun h => hS (by rwa [getD_set_ne true him] at h), H⟩
    · have h1 := H.2 j (ready_mono hj hji)
      obtain ⟨hjun, oj, hoj, hall⟩ := mem_ready.1 hj
      have hiun := (mem_ready.1 hr).1
      have hnot : ∀ e ∈ oj.after, Region.binds md e = true → e.on ≠ i := fun e he hb heq => by
        have h1 := hall e he hb
        rw [heq] at h1
        exact listed_not hiun h1
      have h2 := put j oj hoj (hfree j oj hoj hji hjun hnot) a w _ hy h1
      have hfree' : ∀ k ok, ops[k]? = some ok → k ≠ i → (L.setIfInBounds j true).getD k true = false →
          (∀ e ∈ ok.after, Region.binds md e = true → e.on ≠ i) → oi.apart ops ok = true := fun k ok hk hki hun hno => by
        refine hfree k ok hk hki ?_ hno
        by_cases hjk : j = k
        · subst hjk; exact hjun
        · rw [getD_set_ne true hjk] at hun; exact hun
      refine wpOp_mono (fun a' w' h3 => ?_) h2
      have hS' : (L.setIfInBounds j true).getD m true = false → F w' := fun h => h3.2.1 (by
        rw [Array.setIfInBounds_comm _ _ (Ne.symm hji), getD_set_ne true him]; exact h)
      refine ⟨hS', ih (L.setIfInBounds j true) a' w' (by simpa using hm) (hc.step hj) hfree' (ready_mono hr (Ne.symm hji)) h3.1 hS' ?_⟩
      rw [Array.setIfInBounds_comm _ _ hji]
      exact h3.2.2

/-- Number i is taken first; m waits for it, and as long as m has not come up it yields v. -/
theorem wpAnyT_take {i : Nat} {oi : Oper} {v : Value} {fuel : Nat} {L : Array Bool} {a : Act} {w : World} (hi : ops[i]? = some oi)
    (hs : Region.noSelect ops = true) (hf : Region.free md ops L i = true) (hr : (Region.ready md ops L).contains i = true) (hm : decide (m < L.size) = true) (hc : closedB md ops L = true) (hd : dependsB md ops 100 m i = true) (him : decide (i ≠ m) = true)
    (hQ : ∀ c a w, Q (.panic c) (a.put oi.dst v) w → Q (.panic c) a w) (hy : YieldsIf P ops F oi v a) (hS : F w)
    (h : wpAnyT P md ops Q m F fuel (L.setIfInBounds i true) (a.put oi.dst v) w) : wpAnyT P md ops Q m F (fuel + 1) L a w :=
  firstT (S' := F) (YieldsIf P ops F oi v) hi (of_decide_eq_true him) (fun _ _ _ hy hS hK => hy.wpOp hi hS hK)
    (fun j oj hj hap a w K hy hK => wpOp_putIf hj hap (fun cs b => Region.noSelect_spec hs i oi cs b hi) (fun cs b => Region.noSelect_spec hs j oj cs b hj) hQ hy hK)
    (fun L w hm hc hun hS => hS (unlisted hm fun h => listed_not hun (depends_of hc 100 m hd h)))
    fuel L a w (of_decide_eq_true hm) (closed_of hc) (Region.free_spec hi hf) (by simpa using hr) hy (fun _ => hS) h
/-- Number i is taken first; it yields v in whatever world. -/
theorem wpAnyT_any {i : Nat} {oi : Oper} {v : Value} {fuel : Nat} {L : Array Bool} {a : Act} {w : World} (hi : ops[i]? = some oi)
    (hs : Region.noSelect ops = true) (hf : Region.free md ops L i = true) (hr : (Region.ready md ops L).contains i = true) (hm : decide (m < L.size) = true) (hc : closedB md ops L = true) (him : decide (i ≠ m) = true)
    (hQ : ∀ c a w, Q (.panic c) (a.put oi.dst v) w → Q (.panic c) a w) (hy : YieldsIf P ops (fun _ => True) oi v a) (hS : L.getD m true = false → F w)
    (h : wpAnyT P md ops Q m F fuel (L.setIfInBounds i true) (a.put oi.dst v) w) : wpAnyT P md ops Q m F (fuel + 1) L a w :=
  firstT (S' := fun _ => True) (YieldsIf P ops (fun _ => True) oi v) hi (of_decide_eq_true him) (fun _ _ _ hy hS hK => hy.wpOp hi hS hK)
    (fun j oj hj hap a w K hy hK => wpOp_putIf hj hap (fun cs b => Region.noSelect_spec hs i oi cs b hi) (fun cs b => Region.noSelect_spec hs j oj cs b hj) hQ hy hK)
    (fun _ _ _ _ _ _ => trivial)
    fuel L a w (of_decide_eq_true hm) (closed_of hc) (Region.free_spec hi hf) (by simpa using hr) hy hS h

/-- Each of these comes up next. -/
def AllReadyT (P : Program) (md : Region.Mode) (ops : Array Oper) (Q : Exit → Act → World → Prop) (m : Nat) (F : World → Prop) (fuel : Nat) (L : Array Bool) (a : Act) (w : World) (rs : List Nat) : Prop :=
  ∀ i ∈ rs, wpOp P ops Q i (fun a' w' => ((L.setIfInBounds i true).getD m true = false → F w') ∧ wpAnyT P md ops Q m F fuel (L.setIfInBounds i true) a' w') a w
theorem AllReadyT.nil {fuel : Nat} {L : Array Bool} {a : Act} {w : World} : AllReadyT P md ops Q m F fuel L a w [] := fun _ h => by cases h
theorem AllReadyT.cons {fuel : Nat} {L : Array Bool} {a : Act} {w : World} {i : Nat} {o : Oper} {rs : List Nat} (ho : ops[i]? = some o)
    (h : ∀ K' : Act → World → Prop, Shut (∀ a w, ((L.setIfInBounds i true).getD m true = false → F w) → wpAnyT P md ops Q m F fuel (L.setIfInBounds i true) a w → K' a w) → if Region.wanted o (yielded ops a.tmps) = true then Oper.wp P o a w K' Q else K' (a.put o.dst undef) w)
    (hs : AllReadyT P md ops Q m F fuel L a w rs) : AllReadyT P md ops Q m F fuel L a w (i :: rs) := fun j hj => by
  rcases List.mem_cons.1 hj with rfl | hj
  · exact wpOp_step ho (fun K' hK => h K' (fun a w hS hW => hK a w ⟨hS, hW⟩))
  · exact hs j hj
theorem wpAnyT_ready {rs : List Nat} {fuel : Nat} {L : Array Bool} {a : Act} {w : World} (hr : Region.ready md ops L = rs) (hne : rs ≠ [])
    (h : AllReadyT P md ops Q m F fuel L a w rs) : wpAnyT P md ops Q m F (fuel + 1) L a w :=
  ⟨fun h0 => absurd (hr ▸ h0) hne, hr ▸ h⟩
theorem wpAnyT_done {L : Array Bool} {a : Act} {w : World} (hr : Region.ready md ops L = []) (h : Q .normal a w) : ∀ fuel, wpAnyT P md ops Q m F fuel L a w
  | 0 => ⟨hr, h⟩
  | _ + 1 => ⟨fun _ => h, by rw [hr]; simp⟩
theorem wp_region_T {id : Nat} {a : Act} {w : World} (m : Nat) (F : World → Prop) (hm : P.follows .mixedOrders = true) (hF : F w.drew)
    (h : F w.drew → wpAnyT P .any ops Q m F ops.size (Array.replicate ops.size false) a w.drew) : (Code.region id ops true).wp P Q a w :=
  wp_region_any hm (wpAny_of_T _ _ _ _ (h hF))
/-- Behind m. -/
theorem no_more {L : Array Bool} {p : Prop} (h : L.getD m true = true) : L.getD m true = false → p := fun h2 => by rw [h] at h2; cases h2

/-! a call that keeps the world -/
/-- The operation calls a function that gives v and leaves the world as it is. -/
def CallsIf (P : Program) (ops : Array Oper) (S : World → Prop) (o : Oper) (v : Value) (a : Act) : Prop :=
  Region.wanted o (yielded ops a.tmps) = true ∧ ∃ f args, ∀ w, S w → (execOp a.eval o).run P w = .ok (.enter f args) w ∧ Calls P f args w fun e w' => e = .returned v ∧ w' = w
theorem callsif_step {S : World → Prop} {i : Nat} {o : Oper} {v : Value} {a : Act} (hi : ops[i]? = some o) (hy : CallsIf P ops S o v a) {K : Act → World → Prop} {w : World} (hS : S w) (h : K (a.put o.dst v) w) : wpOp P ops Q i K a w := by
  obtain ⟨hw, f, args, hc⟩ := hy
  obtain ⟨h1, h2⟩ := hc w hS
  unfold Go.wpOp
  simp only [hi, hw, if_true]
  refine .inl ?_
  unfold Oper.wp
  rw [h1]
  exact h2.mono fun e w' ⟨he, hw'⟩ => by subst he; subst hw'; exact h
theorem callsif_same {S : World → Prop} {o : Oper} {v : Value} {a a' : Act} (hy : CallsIf P ops S o v a) (he : execOp a'.eval o = execOp a.eval o) (hw : Region.wanted o (yielded ops a'.tmps) = Region.wanted o (yielded ops a.tmps)) : CallsIf P ops S o v a' := by
  obtain ⟨h1, f, args, h2⟩ := hy
  exact ⟨by rw [hw]; exact h1, f, args, fun w hS => by rw [he]; exact h2 w hS⟩
theorem callsif_put {S : World → Prop} {j : Nat} {oi oj : Oper} {v : Value} (hj : ops[j]? = some oj) (hap : oi.apart ops oj = true) (hsi : ∀ cs b, oi.op ≠ .select cs b) (hsj : ∀ cs b, oj.op ≠ .select cs b)
    (hQ : ∀ c a w, Q (.panic c) (a.put oi.dst v) w → Q (.panic c) a w) {K : Act → World → Prop} {a : Act} {w : World} (hy : CallsIf P ops S oi v a) (h : wpOp P ops Q j K (a.put oi.dst v) w) :
    wpOp P ops Q j (fun a' w' => CallsIf P ops S oi v a' ∧ K (a'.put oi.dst v) w') a w := by
  obtain ⟨h1, h2, h3⟩ := Oper.apart_spec hap
  have keep : ∀ u, CallsIf P ops S oi v (a.put oj.dst u) := fun u => callsif_same hy (execOp_put oi hsi a oj.dst u h3) (wanted_put oi a oj.dst u h3)
  have next : ∀ (u : Value) (w' : World), K ((a.put oi.dst v).put oj.dst u) w' → CallsIf P ops S oi v (a.put oj.dst u) ∧ K ((a.put oj.dst u).put oi.dst v) w' := fun u w' hk => ⟨keep u, by rw [← Act.put_comm a v u h2]; exact hk⟩
  unfold wpOp at h ⊢
  simp only [hj] at h ⊢
  rw [wanted_put oj a oi.dst v h1] at h
  by_cases hw : Region.wanted oj (yielded ops a.tmps) = true
  · rw [if_pos hw] at h ⊢
    rcases h with h | ⟨hasks, hlets⟩
    · left
      unfold Oper.wp at h ⊢
      rw [execOp_put oj hsj a oi.dst v h1] at h
      generalize (execOp a.eval oj).run P w = r at h ⊢
      match r, h with
      | .ok (.value u) w', h => exact next u w' h
      | .ok .skip w', h => exact next undef w' h
      | .ok (.defer d) w', h =>
        have hd : CallsIf P ops S oi v ({ a with defers := d :: a.defers } : Act) := callsif_same hy rfl rfl
        refine ⟨callsif_same hd (execOp_put oi hsi _ oj.dst undef h3) (wanted_put oi _ oj.dst undef h3), ?_⟩
        rw [← Act.put_comm _ v undef h2, ← Act.put_defers]
        exact h
      | .ok (.enter f args) w', h =>
        refine Calls.mono h fun e w'' he => ?_
        cases e with
        | returned u => exact next u w'' he
        | panicked c => exact hQ _ _ _ he
        | outgrown => exact he
      | .ok (.row row args) w', h => exact Rows.mono h fun u w'' he => next u w'' he
      | .halt (.panic u) w', h => exact hQ _ _ _ h
    · right
      refine ⟨?_, hlets⟩
      unfold Oper.asks at hasks ⊢
      rw [execOp_put oj hsj a oi.dst v h1] at hasks
      exact hasks
  · rw [if_neg hw] at h ⊢
    exact next undef w h
/-- The call number i is taken first; m waits for it. -/
theorem wpAnyT_call {i : Nat} {oi : Oper} {v : Value} {fuel : Nat} {L : Array Bool} {a : Act} {w : World} (hi : ops[i]? = some oi)
    (hs : Region.noSelect ops = true) (hf : Region.free md ops L i = true) (hr : (Region.ready md ops L).contains i = true) (hm : decide (m < L.size) = true) (hc : closedB md ops L = true) (hd : dependsB md ops 100 m i = true) (him : decide (i ≠ m) = true)
    (hQ : ∀ c a w, Q (.panic c) (a.put oi.dst v) w → Q (.panic c) a w) (hw : Region.wanted oi (yielded ops a.tmps) = true) (f : FuncId) (args : Array Value) (he : ∀ w, F w → (execOp a.eval oi).run P w = .ok (.enter f args) w) (hcl : ∀ w, F w → Calls P f args w fun e w' => e = .returned v ∧ w' = w) (hS : F w)
    (h : wpAnyT P md ops Q m F fuel (L.setIfInBounds i true) (a.put oi.dst v) w) : wpAnyT P md ops Q m F (fuel + 1) L a w :=
  firstT (S' := F) (CallsIf P ops F oi v) hi (of_decide_eq_true him) (fun _ _ _ hy hS hK => callsif_step hi hy hS hK)
    (fun j oj hj hap _ _ _ hy hK => callsif_put hj hap (fun cs b => Region.noSelect_spec hs i oi cs b hi) (fun cs b => Region.noSelect_spec hs j oj cs b hj) hQ hy hK)
    (fun L w hm hc hun hS => hS (unlisted hm fun h => listed_not hun (depends_of hc 100 m hd h)))
    fuel L a w (of_decide_eq_true hm) (closed_of hc) (Region.free_spec hi hf) (by simpa using hr) ⟨hw, f, args, fun w hS => ⟨he w hS, hcl w hS⟩⟩ (fun _ => hS) h
end
end RecT
section Take
open Go.RowKit

theorem pA (a : Act) (d : Nat) (v : Value) : Act.put a d v = { a with tmps := a.tmps.setIfInBounds d v } := rfl
theorem pB {α : Type _} (l : List α) (i : Nat) (a : α) : l.toArray.setIfInBounds i a = (l.set i a).toArray := List.setIfInBounds_toArray _ _ _
theorem pC {α : Type _} (x : α) (l : List α) (a : α) : (x :: l).set 0 a = a :: l := List.set_cons_zero
theorem pD {α : Type _} (x : α) (l : List α) (n : Nat) (a : α) : (x :: l).set (n + 1) a = x :: l.set n a := List.set_cons_succ
theorem eA {α : Type _} (l : List α) (i : Nat) : l.toArray[i]? = l[i]? := List.getElem?_toArray
theorem eB {α : Type _} (a : α) (l : List α) : (a :: l)[0]? = some a := List.getElem?_cons_zero
theorem eC {α : Type _} (a : α) (l : List α) (i : Nat) : (a :: l)[i + 1]? = l[i]? := List.getElem?_cons_succ
section
variable {P : Program} {ops : Array Oper} {Q : Exit → Act → World → Prop} {md : Region.Mode} {m : Nat} {F : World → Prop}
def okH (md : Region.Mode) (ops : Array Oper) (L : Array Bool) (i : Nat) : Bool :=
  Region.noSelect ops && (Region.free md ops L i && (Region.ready md ops L).contains i)
def okA (md : Region.Mode) (ops : Array Oper) (L : Array Bool) (i m : Nat) : Bool :=
  okH md ops L i && (decide (m < L.size) && (closedB md ops L && decide (i ≠ m)))
def okT (md : Region.Mode) (ops : Array Oper) (L : Array Bool) (i m : Nat) : Bool := okA md ops L i m && dependsB md ops 100 m i
theorem takeH (i : Nat) {oi : Oper} {v : Value} {fuel : Nat} {L : Array Bool} {a : Act} {w : World} (hi : ops[i]? = some oi := by simp only [eA, eB, eC]; rfl) (hb : okH md ops L i = true := by kernel_rfl)
    (hQ : ∀ c a w, Q (.panic c) (a.put oi.dst v) w → Q (.panic c) a w := by exact fun _ _ _ h => h) (hw : Region.wanted oi (yielded ops a.tmps) = true := by rfl)
    (y : ∀ w, F w → (execOp a.eval oi).run P w = .ok (.value v) w) (S : F w := by assumption)
    (h : wpAnyH P md ops Q F fuel (L.setIfInBounds i true) (a.put oi.dst v) w) : wpAnyH P md ops Q F (fuel + 1) L a w := by
  unfold okH at hb
  rw [Bool.and_eq_true, Bool.and_eq_true] at hb
  exact wpAnyH_take hi hb.1 hb.2.1 hb.2.2 hQ (Or.inl ⟨hw, y⟩) S h
theorem takeT (i : Nat) {oi : Oper} {v : Value} {fuel : Nat} {L : Array Bool} {a : Act} {w : World} (hi : ops[i]? = some oi := by simp only [eA, eB, eC]; rfl) (hb : okT md ops L i m = true := by kernel_rfl)
    (hQ : ∀ c a w, Q (.panic c) (a.put oi.dst v) w → Q (.panic c) a w := by exact fun _ _ _ h => h) (hw : Region.wanted oi (yielded ops a.tmps) = true := by rfl)
    (y : ∀ w, F w → (execOp a.eval oi).run P w = .ok (.value v) w) (S : F w := by assumption)
    (h : wpAnyT P md ops Q m F fuel (L.setIfInBounds i true) (a.put oi.dst v) w) : wpAnyT P md ops Q m F (fuel + 1) L a w := by
  unfold okT okA okH at hb
  rw [Bool.and_eq_true, Bool.and_eq_true, Bool.and_eq_true, Bool.and_eq_true, Bool.and_eq_true, Bool.and_eq_true] at hb
  obtain ⟨⟨⟨h1, h2, h3⟩, h4, h5, h6⟩, h7⟩ := hb
  exact wpAnyT_take hi h1 h2 h3 h4 h5 h7 h6 hQ (Or.inl ⟨hw, y⟩) S h
theorem anyT (i : Nat) {oi : Oper} {v : Value} {fuel : Nat} {L : Array Bool} {a : Act} {w : World} (hi : ops[i]? = some oi := by simp only [eA, eB, eC]; rfl) (hb : okA md ops L i m = true := by kernel_rfl)
    (hQ : ∀ c a w, Q (.panic c) (a.put oi.dst v) w → Q (.panic c) a w := by exact fun _ _ _ h => h) (hw : Region.wanted oi (yielded ops a.tmps) = true := by rfl)
    (y : ∀ w, True → (execOp a.eval oi).run P w = .ok (.value v) w := by intro wS _; go_simp; (try with_reducible rfl)) (S : L.getD m true = false → F w := by exact fun _ => by assumption)
    (h : wpAnyT P md ops Q m F fuel (L.setIfInBounds i true) (a.put oi.dst v) w) : wpAnyT P md ops Q m F (fuel + 1) L a w := by
  unfold okA okH at hb
  rw [Bool.and_eq_true, Bool.and_eq_true, Bool.and_eq_true, Bool.and_eq_true, Bool.and_eq_true] at hb
  obtain ⟨⟨h1, h2, h3⟩, h4, h5, h6⟩ := hb
  exact wpAnyT_any hi h1 h2 h3 h4 h5 h6 hQ (Or.inl ⟨hw, fun w hw => y w hw⟩) S h
theorem takeHn (i : Nat) {oi : Oper} {v : Value} {fuel : Nat} {L : Array Bool} {a : Act} {w : World} (hi : ops[i]? = some oi := by simp only [eA, eB, eC]; rfl) (hb : okH md ops L i = true := by kernel_rfl)
    (hQ : ∀ c a w, Q (.panic c) (a.put oi.dst v) w → Q (.panic c) a w := by exact fun _ _ _ h => h) (hw : Region.wanted oi (yielded ops a.tmps) = true := by rfl)
    (y : ∀ w, F w → (execOp a.eval oi).run P w = .ok (.value v) w := by intro wS hSw; obtain ⟨nS, rfl⟩ := hSw; go_simp; (try with_reducible rfl)) (S : F w := by assumption)
    (h : wpAnyH P md ops Q F fuel (L.setIfInBounds i true) (a.put oi.dst v) w) : wpAnyH P md ops Q F (fuel + 1) L a w := takeH i hi hb hQ hw y S h
theorem takeTn (i : Nat) {oi : Oper} {v : Value} {fuel : Nat} {L : Array Bool} {a : Act} {w : World} (hi : ops[i]? = some oi := by simp only [eA, eB, eC]; rfl) (hb : okT md ops L i m = true := by kernel_rfl)
    (hQ : ∀ c a w, Q (.panic c) (a.put oi.dst v) w → Q (.panic c) a w := by exact fun _ _ _ h => h) (hw : Region.wanted oi (yielded ops a.tmps) = true := by rfl)
    (y : ∀ w, F w → (execOp a.eval oi).run P w = .ok (.value v) w := by intro wS hSw; obtain ⟨nS, rfl⟩ := hSw; go_simp; (try with_reducible rfl)) (S : F w := by assumption)
    (h : wpAnyT P md ops Q m F fuel (L.setIfInBounds i true) (a.put oi.dst v) w) : wpAnyT P md ops Q m F (fuel + 1) L a w := takeT i hi hb hQ hw y S h
end
end Take
section FmtPlain
namespace Fx

/-- A field. -/
structure Fld where
  kind : Int
  n : Int
  frm : Int
  text : ByteArray
/-- A format. -/
structure Fm where
  id : Int
  fs : List Fld
/-- The field without anything. -/
def zf : Fld := ⟨0, 0, 0, ByteArray.empty⟩
/-- The format without anything. -/
def zm : Fm := ⟨0, []⟩

/-- What a list of pairs holds of a number. -/
def lk (m : List (Int × Int)) (id : Int) : Option Int := (m.find? fun p => decide (p.1 = id)).map (·.2)
def lkz (m : List (Int × Int)) (id : Int) : Int := (lk m id).getD 0
def knows (m : List (Int × Int)) (id : Int) : Bool := (lk m id).isSome
/-- The least length of a field. -/
def lf (m : List (Int × Int)) (f : Fld) : Int :=
  if f.kind = 1 then f.text.size else if f.kind = 4 then 0 else if f.kind = 5 then lkz m f.n else f.n
/-- The least length of fields. -/
def ls (m : List (Int × Int)) (fs : List Fld) : Int := (fs.map (lf m)).sum
/-- The least lengths of formats, the last one first. -/
def lm (d : List Fm) : List (Int × Int) := d.foldl (fun m f => (f.id, ls m f.fs) :: m) []

def counts (fs : List Fld) (q : Int) : Bool :=
  decide (0 ≤ q) && (decide (q < fs.length) && (decide ((fs.getD q.toNat zf).kind = 2) && !(fs.any fun g => decide (g.frm = q))))
def sized (lo hi : Int) (f : Fld) : Bool := decide (f.frm = -1) && (decide (f.text.size = 0) && (decide (lo ≤ f.n) && decide (f.n ≤ hi)))
def counted (fs : List Fld) (f : Fld) : Bool := decide (f.n = 0) && (decide (f.text.size = 0) && counts fs f.frm)
def nests (m : List (Int × Int)) (fs : List Fld) (f : Fld) : Bool := decide (f.text.size = 0) && (knows m f.n && counts fs f.frm)
def tells (m : List (Int × Int)) (fs : List Fld) (f : Fld) : Bool := decide (lkz m f.n < 2 ^ (8 * (fs.getD f.frm.toNat zf).n).toNat)
def literal (f : Fld) : Bool := decide (f.n = 0) && (decide (f.frm = -1) && (decide (1 ≤ f.text.size) && decide (f.text.size ≤ 16)))
/-- Whether a field may stand behind others. -/
def right (m : List (Int × Int)) (fs : List Fld) (f : Fld) : Bool :=
  if f.kind = 1 then literal f
  else if f.kind = 2 then sized 1 3 f
  else if f.kind = 3 then sized 0 4096 f || counted fs f
  else if f.kind = 4 then nests m fs f
  else if f.kind = 5 then nests m fs f && tells m fs f
  else if f.kind = 6 then sized 1 3 f
  else false

/-- The beginning of a table: formats that are complete, and the one that is open. -/
structure St where
  d : List Fm
  o : Fm
def st0 : St := ⟨[], zm⟩
def endO (s : St) : Option St := if s.o.id = 0 then some s else if s.o.fs.length = 0 then none else some ⟨s.d ++ [s.o], s.o⟩
def beginO (s : St) (id : Int) : Option St :=
  match endO s with
  | none => none
  | some s1 => if s1.d.length < 60 ∧ s.o.id < id ∧ id ≤ 1000000 then some ⟨s1.d, ⟨id, []⟩⟩ else none
def addB (s : St) (f : Fld) : Bool :=
  decide (0 < s.o.id) && (decide (s.o.fs.length < 16) && (right (lm s.d) s.o.fs f && decide (ls (lm s.d) (s.o.fs ++ [f]) ≤ 65536)))
def addO (s : St) (f : Fld) : Option St := if addB s f then some ⟨s.d, ⟨s.o.id, s.o.fs ++ [f]⟩⟩ else none
def addL : St → List Fld → Option St
  | s, [] => some s
  | s, f :: t => (addO s f).bind fun s1 => addL s1 t
def runL : St → List Fm → Option St
  | s, [] => endO s
  | s, f :: t => (beginO s f.id).bind fun s1 => (addL s1 f.fs).bind fun s2 => runL s2 t
/-- The table that a list is, if it is valid. -/
def buildO (l : List Fm) : Option St := runL st0 l
def vd (l : List Fm) : Bool := (buildO l).isSome
def least (l : List Fm) (id : Int) : Int := if vd l then lkz (lm l) id else 0

/-! The same, said at once. -/
/-- A format that may stand behind others. -/
structure FmOk (d : List Fm) (f : Fm) : Prop where
  lo : 1 ≤ f.id
  hi : f.id ≤ 1000000
  some_ : 1 ≤ f.fs.length
  few : f.fs.length ≤ 16
  each : ∀ k, k < f.fs.length → right (lm d) (f.fs.take k) (f.fs.getD k zf) = true
  len : ls (lm d) f.fs ≤ 65536
/-- The formats are valid. -/
structure Ok (l : List Fm) : Prop where
  few : l.length ≤ 60
  asc : ∀ i, i + 1 < l.length → (l.getD i zm).id < (l.getD (i + 1) zm).id
  each : ∀ i, i < l.length → FmOk (l.take i) (l.getD i zm)

theorem lm_nil : lm [] = [] := rfl
theorem lm_snoc (d : List Fm) (f : Fm) : lm (d ++ [f]) = (f.id, ls (lm d) f.fs) :: lm d := by unfold lm; rw [List.foldl_append]; rfl
theorem ls_nil (m : List (Int × Int)) : ls m [] = 0 := rfl
theorem ls_snoc (m : List (Int × Int)) (fs : List Fld) (f : Fld) : ls m (fs ++ [f]) = ls m fs + lf m f := by unfold ls; simp
theorem lk_nil (id : Int) : lk [] id = none := rfl
theorem lk_cons (p : Int × Int) (m : List (Int × Int)) (id : Int) : lk (p :: m) id = if p.1 = id then some p.2 else lk m id := by
  unfold lk
  rw [List.find?_cons]
  by_cases h : p.1 = id <;> simp [h]
theorem lkz_cons (p : Int × Int) (m : List (Int × Int)) (id : Int) : lkz (p :: m) id = if p.1 = id then p.2 else lkz m id := by
  unfold lkz; rw [lk_cons]; split <;> rfl

/-- All numbers of a list of pairs lie from 0 to 65536. -/
def Fine (m : List (Int × Int)) : Prop := ∀ id v, lk m id = some v → 0 ≤ v ∧ v ≤ 65536
theorem Fine.lkz {m : List (Int × Int)} (h : Fine m) (id : Int) : 0 ≤ lkz m id ∧ lkz m id ≤ 65536 := by
  unfold Fx.lkz
  cases hl : lk m id with
  | none => simp
  | some v => exact h id v hl
theorem fine_nil : Fine [] := fun id v h => by rw [lk_nil] at h; cases h
theorem Fine.cons {m : List (Int × Int)} (h : Fine m) {p : Int × Int} (h1 : 0 ≤ p.2) (h2 : p.2 ≤ 65536) : Fine (p :: m) := fun id v hv => by
  rw [lk_cons] at hv
  split at hv
  · cases hv; exact ⟨h1, h2⟩
  · exact h id v hv

theorem right_kind {m : List (Int × Int)} {fs : List Fld} {f : Fld} (h : right m fs f = true) : 1 ≤ f.kind ∧ f.kind ≤ 6 := by
  unfold right at h
  repeat' split at h
  all_goals first | omega | cases h
theorem sized_of {lo hi : Int} {f : Fld} (h : sized lo hi f = true) : f.frm = -1 ∧ f.text.size = 0 ∧ lo ≤ f.n ∧ f.n ≤ hi := by simpa [sized] using h
theorem literal_of {f : Fld} (h : literal f = true) : f.n = 0 ∧ f.frm = -1 ∧ 1 ≤ f.text.size ∧ f.text.size ≤ 16 := by simpa [literal] using h
theorem counts_of {fs : List Fld} {q : Int} (h : counts fs q = true) : 0 ≤ q ∧ q < fs.length ∧ (fs.getD q.toNat zf).kind = 2 ∧ ∀ g ∈ fs, g.frm ≠ q := by
  simp [counts] at h
  refine ⟨h.1, h.2.1, ?_, fun g hg he => h.2.2.2 g hg he⟩
  simpa [List.getD] using h.2.2.1
theorem nests_of {m : List (Int × Int)} {fs : List Fld} {f : Fld} (h : nests m fs f = true) : f.text.size = 0 ∧ knows m f.n = true ∧ counts fs f.frm = true := by simpa [nests] using h
theorem counted_of {fs : List Fld} {f : Fld} (h : counted fs f = true) : f.n = 0 ∧ f.text.size = 0 ∧ counts fs f.frm = true := by simpa [counted] using h
theorem right_lf {m : List (Int × Int)} {fs : List Fld} {f : Fld} (hm : Fine m) (h : right m fs f = true) : 0 ≤ lf m f ∧ lf m f ≤ 65536 := by
  unfold right at h
  unfold lf
  split at h
  · rename_i h1
    have := literal_of h
    rw [if_pos h1]; omega
  · rename_i h1
    rw [if_neg h1]
    split at h
    · rename_i h2
      have := sized_of h
      rw [if_neg (by omega), if_neg (by omega)]; omega
    · split at h
      · rename_i h3
        rw [if_neg (by omega), if_neg (by omega)]
        rcases Bool.or_eq_true_iff.1 h with h | h
        · have := sized_of h; omega
        · have := counted_of h; omega
      · split at h
        · rename_i h4; rw [if_pos h4]; omega
        · split at h
          · rename_i h4 h5
            rw [if_neg h4, if_pos h5]
            exact hm.lkz _
          · split at h
            · have := sized_of h
              rw [if_neg (by omega), if_neg (by omega)]; omega
            · cases h
/-- Where a field that may stand there has its number. -/
theorem right_frm {m : List (Int × Int)} {fs : List Fld} {f : Fld} (h : right m fs f = true) : f.frm = -1 ∨ counts fs f.frm = true := by
  unfold right at h
  split at h
  · exact .inl (literal_of h).2.1
  · split at h
    · exact .inl (sized_of h).1
    · split at h
      · rcases Bool.or_eq_true_iff.1 h with h | h
        · exact .inl (sized_of h).1
        · exact .inr (counted_of h).2.2
      · split at h
        · exact .inr (nests_of h).2.2
        · split at h
          · rw [Bool.and_eq_true] at h; exact .inr (nests_of h.1).2.2
          · split at h
            · exact .inl (sized_of h).1
            · cases h

/-! What holds of a beginning on the way. -/
structure Good (s : St) : Prop where
  pre : Ok s.d
  lo : 0 ≤ s.o.id
  hi : s.o.id ≤ 1000000
  few : s.o.fs.length ≤ 16
  each : ∀ k, k < s.o.fs.length → right (lm s.d) (s.o.fs.take k) (s.o.fs.getD k zf) = true
  len : ls (lm s.d) s.o.fs ≤ 65536
  none_ : s.o.id = 0 → s.o.fs = [] ∧ s.d = []
  /-- The one that is open comes behind all others, while it is being read. -/
  asc : ∀ g ∈ s.d, g.id < s.o.id
  room : s.o.id ≠ 0 → s.d.length < 60

theorem ok_nil : Ok [] := ⟨by simp, fun i h => by simp at h, fun i h => by simp at h⟩
theorem good0 : Good st0 := ⟨ok_nil, by decide, by decide, by decide, fun k h => by simp [st0, zm] at h, by decide, fun _ => ⟨rfl, rfl⟩, fun g hg => by simp [st0] at hg, fun h => absurd rfl h⟩

theorem getD_snoc_lt {α : Type} {l : List α} {x z : α} {i : Nat} (h : i < l.length) : (l ++ [x]).getD i z = l.getD i z := by
  simp [List.getD, List.getElem?_append_left h]
theorem getD_snoc_eq {α : Type} {l : List α} {x z : α} : (l ++ [x]).getD l.length z = x := by
  simp [List.getD]
theorem take_snoc_le {α : Type} {l : List α} {x : α} {i : Nat} (h : i ≤ l.length) : (l ++ [x]).take i = l.take i := by
  rw [List.take_append_of_le_length h]

theorem Ok.snoc {d : List Fm} {f : Fm} (h : Ok d) (hf : FmOk d f) (hl : d.length < 60) (ha : ∀ g ∈ d, g.id < f.id) : Ok (d ++ [f]) := by
  refine ⟨by simp; omega, fun i hi => ?_, fun i hi => ?_⟩
  · simp only [List.length_append, List.length_cons, List.length_nil] at hi
    by_cases h1 : i + 1 < d.length
    · rw [getD_snoc_lt (by omega), getD_snoc_lt h1]; exact h.asc i h1
    · have hdl : d.length = i + 1 := by omega
      rw [getD_snoc_lt (by omega)]
      have : (d ++ [f]).getD (i + 1) zm = f := by
        have := getD_snoc_eq (l := d) (x := f) (z := zm)
        rwa [hdl] at this
      rw [this]
      apply ha
      simp only [List.getD, List.getElem?_eq_getElem (show i < d.length by omega), Option.getD_some]
      exact List.getElem_mem _
  · simp only [List.length_append, List.length_cons, List.length_nil] at hi
    rw [take_snoc_le (by omega)]
    by_cases h1 : i < d.length
    · rw [getD_snoc_lt h1]; exact h.each i h1
    · obtain rfl : i = d.length := by omega
      rw [getD_snoc_eq, List.take_length]; exact hf

theorem Ok.take {l : List Fm} (h : Ok l) (k : Nat) : Ok (l.take k) := by
  refine ⟨by have := h.few; simp; omega, fun i hi => ?_, fun i hi => ?_⟩
  · simp only [List.length_take] at hi
    have := h.asc i (by omega)
    simpa [List.getD, List.getElem?_take, show i < k by omega, show i + 1 < k by omega] using this
  · simp only [List.length_take] at hi
    have := h.each i (by omega)
    rw [List.take_take, Nat.min_eq_left (by omega)]
    simpa [List.getD, List.getElem?_take, show i < k by omega] using this

theorem ls_nonneg {m : List (Int × Int)} (hm : Fine m) : ∀ {fs : List Fld}, (∀ k, k < fs.length → right m (fs.take k) (fs.getD k zf) = true) → 0 ≤ ls m fs := by
  intro fs
  generalize hn : fs.length = n
  induction n generalizing fs with
  | zero => intro _; rw [List.eq_nil_of_length_eq_zero hn, ls_nil]; omega
  | succ n ih =>
    intro h
    obtain ⟨t, f, rfl⟩ : ∃ t f, fs = t ++ [f] := ⟨fs.dropLast, fs.getLast (by intro e; rw [e] at hn; simp at hn), by rw [List.dropLast_concat_getLast]⟩
    have ht : t.length = n := by simpa using hn
    have h1 := ih ht fun k hk => by
      have := h k (by omega)
      rwa [take_snoc_le (by omega), getD_snoc_lt (by omega)] at this
    have h2 := h n (by omega)
    rw [← ht, getD_snoc_eq, take_snoc_le (Nat.le_refl _)] at h2
    have := (right_lf hm h2).1
    rw [ls_snoc]; omega

theorem Ok.snoc_inv {d : List Fm} {f : Fm} (h : Ok (d ++ [f])) : Ok d ∧ FmOk d f := by
  refine ⟨by have := h.take d.length; rwa [take_snoc_le (Nat.le_refl _), List.take_length] at this, ?_⟩
  have := h.each d.length (by simp)
  rwa [getD_snoc_eq, take_snoc_le (Nat.le_refl _), List.take_length] at this
theorem Ok.fine : ∀ {l : List Fm}, Ok l → Fine (lm l) := by
  intro l
  generalize hn : l.length = n
  induction n generalizing l with
  | zero => intro _; rw [List.eq_nil_of_length_eq_zero hn]; exact fine_nil
  | succ n ih =>
    intro h
    obtain ⟨d, f, rfl⟩ : ∃ t f, l = t ++ [f] := ⟨l.dropLast, l.getLast (by intro e; rw [e] at hn; simp at hn), by rw [List.dropLast_concat_getLast]⟩
    obtain ⟨h1, h2⟩ := h.snoc_inv
    have h3 := ih (by simpa using hn) h1
    rw [lm_snoc]
    exact h3.cons (ls_nonneg h3 h2.each) h2.len

theorem Good.fine {s : St} (h : Good s) : Fine (lm s.d) := h.pre.fine
theorem Good.fmOk {s : St} (h : Good s) (h0 : s.o.id ≠ 0) (h1 : s.o.fs.length ≠ 0) : FmOk s.d s.o :=
  ⟨by have := h.lo; omega, h.hi, by omega, h.few, h.each, h.len⟩
/-- What end gives is valid. -/
theorem Good.end_ {s s1 : St} (h : Good s) (h1 : endO s = some s1) : Ok s1.d ∧ (∀ g ∈ s1.d, g.id ≤ s.o.id) ∧ s1.o = s.o ∧ (s.o.id = 0 → s1.d = []) := by
  unfold endO at h1
  split at h1
  · rename_i h0
    cases h1
    exact ⟨h.pre, fun g hg => Int.le_of_lt (h.asc g hg), rfl, fun h0 => (h.none_ h0).2⟩
  · rename_i h0
    split at h1
    · cases h1
    · rename_i h2
      cases h1
      refine ⟨h.pre.snoc (h.fmOk h0 h2) (h.room h0) h.asc, fun g hg => ?_, rfl, fun h => absurd h h0⟩
      rcases List.mem_append.1 hg with hg | hg
      · exact Int.le_of_lt (h.asc g hg)
      · simp only [List.mem_singleton] at hg; subst hg; exact Int.le_refl _
theorem Good.begin_ {s s1 : St} {id : Int} (h : Good s) (h1 : beginO s id = some s1) : Good s1 := by
  unfold beginO at h1
  split at h1
  · cases h1
  · rename_i s2 h2
    obtain ⟨a, b, c, _⟩ := h.end_ h2
    split at h1
    · rename_i h3
      cases h1
      have := h.lo
      exact ⟨a, by show 0 ≤ id; omega, h3.2.2, by simp, fun k hk => by simp at hk, by rw [ls_nil]; omega, fun h0 => by simp at h0; omega, fun g hg => by have := b g hg; show g.id < id; omega, fun _ => h3.1⟩
    · cases h1
theorem addB_of {s : St} {f : Fld} (h : addB s f = true) : 0 < s.o.id ∧ s.o.fs.length < 16 ∧ right (lm s.d) s.o.fs f = true ∧ ls (lm s.d) (s.o.fs ++ [f]) ≤ 65536 := by simpa [addB] using h
theorem Good.add_ {s s1 : St} {f : Fld} (h : Good s) (h1 : addO s f = some s1) : Good s1 := by
  unfold addO at h1
  split at h1
  · rename_i h2
    obtain ⟨a, b, c, d⟩ := addB_of h2
    cases h1
    refine ⟨h.pre, h.lo, h.hi, by simp; omega, fun k hk => ?_, d, fun h0 => by simp at h0; omega, h.asc, h.room⟩
    simp only [List.length_append, List.length_cons, List.length_nil] at hk
    simp only
    rw [take_snoc_le (by omega)]
    by_cases hk1 : k < s.o.fs.length
    · rw [getD_snoc_lt hk1]; exact h.each k hk1
    · obtain rfl : k = s.o.fs.length := by omega
      rw [getD_snoc_eq, List.take_length]; exact c
  · cases h1

/-! A valid list is built, and is what was built. -/
theorem addL_some : ∀ {t : List Fld} {s s1 : St}, addL s t = some s1 → s1 = ⟨s.d, ⟨s.o.id, s.o.fs ++ t⟩⟩
  | [], s, s1, h => by cases h; simp
  | f :: t, s, s1, h => by
    unfold addL at h
    cases h1 : addO s f with
    | none => rw [h1] at h; cases h
    | some s2 =>
      rw [h1] at h
      have h2 := addL_some h
      unfold addO at h1
      split at h1
      · cases h1; rw [h2]; simp
      · cases h1
theorem Good.addL_ : ∀ {t : List Fld} {s s1 : St}, Good s → addL s t = some s1 → Good s1
  | [], s, s1, g, h => by cases h; exact g
  | f :: t, s, s1, g, h => by
    unfold addL at h
    cases h1 : addO s f with
    | none => rw [h1] at h; cases h
    | some s2 => rw [h1] at h; exact Good.addL_ (g.add_ h1) h
theorem endO_d {s s1 : St} (h : endO s = some s1) : s1.d = if s.o.id = 0 then s.d else s.d ++ [s.o] := by
  unfold endO at h
  split at h
  · rename_i h0; cases h; rw [if_pos h0]
  · rename_i h0
    split at h
    · cases h
    · cases h; rw [if_neg h0]
theorem runL_some : ∀ {l : List Fm} {s s1 : St}, Good s → runL s l = some s1 → (∀ f ∈ l, f.id ≠ 0) ∧ s1.d = (if s.o.id = 0 then s.d else s.d ++ [s.o]) ++ l ∧ Ok s1.d
  | [], s, s1, g, h => by
    unfold runL at h
    exact ⟨by simp, by rw [endO_d h]; simp, (g.end_ h).1⟩
  | f :: t, s, s1, g, h => by
    unfold runL at h
    cases h1 : beginO s f.id with
    | none => rw [h1] at h; cases h
    | some s2 =>
      rw [h1] at h
      simp only [Option.bind_some] at h
      cases h2 : addL s2 f.fs with
      | none => rw [h2] at h; cases h
      | some s3 =>
        rw [h2] at h
        simp only [Option.bind_some] at h
        have g2 := g.begin_ h1
        have g3 := g2.addL_ h2
        have e3 := addL_some h2
        obtain ⟨i1, i2, i3⟩ := runL_some g3 h
        unfold beginO at h1
        split at h1
        · cases h1
        · rename_i s4 h4
          split at h1
          · rename_i hc
            cases h1
            have hid : f.id ≠ 0 := by have := g.lo; omega
            rw [e3] at i2
            simp only [hid, if_false, List.nil_append] at i2
            refine ⟨fun x hx => ?_, ?_, i3⟩
            · rcases List.mem_cons.1 hx with rfl | hx
              · exact hid
              · exact i1 x hx
            · rw [i2, endO_d h4]; simp
          · cases h1
theorem build_some {l : List Fm} {s : St} (h : buildO l = some s) : s.d = l ∧ Ok l := by
  obtain ⟨_, h2, h3⟩ := runL_some good0 h
  have e : s.d = l := by rw [h2]; simp [st0, zm]
  exact ⟨e, e ▸ h3⟩
theorem sum_nonneg {m : List (Int × Int)} : ∀ {t : List Fld}, (∀ x ∈ t, 0 ≤ lf m x) → 0 ≤ (t.map (lf m)).sum
  | [], _ => by simp
  | a :: t, h => by
    simp only [List.map_cons, List.sum_cons]
    have h1 := h a (by simp)
    have h2 := sum_nonneg (m := m) (t := t) fun x hx => h x (List.mem_cons_of_mem _ hx)
    omega
theorem addL_ok {d : List Fm} {id : Int} (hid : 0 < id) (hm : Fine (lm d)) : ∀ {t fs : List Fld}, (fs ++ t).length ≤ 16 → (∀ k, k < (fs ++ t).length → right (lm d) ((fs ++ t).take k) ((fs ++ t).getD k zf) = true) → ls (lm d) (fs ++ t) ≤ 65536 →
    addL ⟨d, ⟨id, fs⟩⟩ t = some ⟨d, ⟨id, fs ++ t⟩⟩
  | [], fs, _, _, _ => by simp [addL]
  | f :: t, fs, h1, h2, h3 => by
    have e : fs ++ f :: t = (fs ++ [f]) ++ t := by simp
    rw [e] at h1 h2 h3
    have hb : addB ⟨d, ⟨id, fs⟩⟩ f = true := by
      have hr := h2 fs.length (by simp)
      rw [List.append_assoc, List.take_append_of_le_length (Nat.le_refl _), List.take_length] at hr
      have : (fs ++ ([f] ++ t)).getD fs.length zf = f := by simp [List.getD]
      rw [this] at hr
      have hl : ls (lm d) (fs ++ [f]) ≤ 65536 := by
        have h4 : ls (lm d) ((fs ++ [f]) ++ t) = ls (lm d) (fs ++ [f]) + ls (lm d) t := by unfold ls; simp [Int.add_assoc]
        have h5 : 0 ≤ ls (lm d) t := by
          unfold ls
          have : ∀ x ∈ t, 0 ≤ lf (lm d) x := by
            intro x hx
            obtain ⟨j, hj, hjx⟩ := List.getElem_of_mem hx
            have hk := h2 ((fs ++ [f]).length + j) (by simp; omega)
            have : ((fs ++ [f]) ++ t).getD ((fs ++ [f]).length + j) zf = x := by
              simp only [List.getD]
              rw [List.getElem?_append_right (by omega)]
              simp [hj, hjx]
            rw [this] at hk
            exact (right_lf hm hk).1
          exact sum_nonneg this
        omega
      simp only [List.length_append, List.length_cons, List.length_nil] at h1
      simp [addB, hid, hr, hl, show fs.length < 16 by omega]
    have ih := addL_ok hid hm (t := t) (fs := fs ++ [f]) h1 h2 h3
    rw [addL, addO, if_pos hb]
    simpa using ih
theorem runL_ok : ∀ {t d : List Fm} {o : Fm}, Good ⟨d, o⟩ → (o.id = 0 ∨ o.fs.length ≠ 0) → Ok ((if o.id = 0 then d else d ++ [o]) ++ t) → (∀ f ∈ t.head?, o.id < f.id) → (runL ⟨d, o⟩ t).isSome = true
  | [], d, o, g, h0, _, _ => by
    unfold runL endO
    simp only
    split
    · rfl
    · rename_i h1
      rw [if_neg (by rcases h0 with h0 | h0; exact absurd h0 h1; exact h0)]
      rfl
  | f :: t, d, o, g, h0, h1, h2 => by
    obtain ⟨D, hD⟩ : ∃ D, D = if o.id = 0 then d else d ++ [o] := ⟨_, rfl⟩
    rw [← hD] at h1
    have he : endO ⟨d, o⟩ = some ⟨D, o⟩ := by
      unfold endO
      simp only
      split
      · rename_i h3; rw [hD, if_pos h3]
      · rename_i h3
        rw [if_neg (by rcases h0 with h0 | h0; exact absurd h0 h3; exact h0), hD, if_neg h3]
    have hf : FmOk D f := by
      have := h1.each D.length (by simp)
      rw [List.take_append_of_le_length (Nat.le_refl _), List.take_length] at this
      have e : (D ++ f :: t).getD D.length zm = f := by simp [List.getD]
      rwa [e] at this
    have hlt : o.id < f.id := h2 f (by simp)
    have hDl : D.length < 60 := by have := h1.few; simp at this; omega
    have hb : beginO ⟨d, o⟩ f.id = some ⟨D, ⟨f.id, []⟩⟩ := by
      unfold beginO
      rw [he]
      simp only
      rw [if_pos ⟨hDl, hlt, hf.hi⟩]
    have hOD : Ok D := by have := h1.take D.length; rwa [List.take_append_of_le_length (Nat.le_refl _), List.take_length] at this
    have ha := addL_ok (d := D) (id := f.id) (by have := hf.lo; omega) hOD.fine (t := f.fs) (fs := []) (by simpa using hf.few) (by simpa using hf.each) (by simpa using hf.len)
    have g2 := g.begin_ hb
    have g3 := g2.addL_ ha
    rw [runL, hb]
    simp only [Option.bind_some]
    rw [ha]
    simp only [Option.bind_some, List.nil_append] at g3 ⊢
    have hid : f.id ≠ 0 := by have := hf.lo; omega
    refine runL_ok g3 (.inr (by have := hf.some_; simp only; omega)) ?_ ?_
    · rw [if_neg hid]; simpa using h1
    · intro x hx
      cases t with
      | nil => simp at hx
      | cons y t =>
        simp at hx; subst hx
        have := h1.asc D.length (by simp)
        simpa [List.getD, List.getElem?_append_right] using this
theorem build_ok {l : List Fm} (h : Ok l) : ∃ s, buildO l = some s := by
  have := runL_ok (t := l) (d := []) (o := zm) good0 (.inl rfl) (by simpa [zm] using h) (fun f hf => by
    cases l with
    | nil => simp at hf
    | cons y t =>
      simp at hf; subst hf
      have := (h.each 0 (by simp)).lo
      simp [List.getD] at this
      simp [zm]; omega)
  exact Option.isSome_iff_exists.1 this
theorem vd_iff {l : List Fm} : vd l = true ↔ Ok l := by
  unfold vd
  constructor
  · intro h
    obtain ⟨s, hs⟩ := Option.isSome_iff_exists.1 h
    exact (build_some hs).2
  · intro h
    obtain ⟨s, hs⟩ := build_ok h
    rw [hs]; rfl
end Fx
end FmtPlain
end Go.Proofs.YtdndmhlmbpgdeaaGreatDoor
