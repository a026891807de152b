/- Arrays of integers that came in. No condition of its own. -/
import Derived.ChangeSame
import Derived.OpenShut
namespace Go.Proofs.YtphphamfejgdaaaGreatDoor
open Go.RowKit Go.ChangeShapes Go.WideShapes
section
variable {H : Type} {enc : TypeId × Value → H} {P : Program} {W : World} {base : Nat} {sp : Nat → Bool} {held : Bool} {q : IntKind}
/-- Two integers in a row. -/
theorem two_of_trod {t e : TypeId} (ht : P.underlying t = some (.array 2 e)) (he : P.underlying e = some (.int q)) (hc : P.cellsOf e = 1) {fuel : Nat} {c0 c1 : Value} {x : DataW H × List MemPlace}
    (h : DataW.trod enc P W base sp held fuel t [c0, c1] = some x) : ∃ a b : Int, c0 = .int q a ∧ c1 = .int q b ∧ x.2 = [] ∧ (Lit.int q a).wf = true ∧ (Lit.int q b).wf = true := by
  cases fuel with
  | zero => simp [DataW.trod] at h
  | succ n =>
    rw [DataW.trod_step] at h
    unfold DataW.trodStep at h
    simp only [ht] at h
    split at h
    · simp only [Option.map_eq_some_iff] at h
      obtain ⟨xs, hx, e1⟩ := h
      rw [show List.range 2 = [0, 1] from rfl, List.mapM_cons, List.mapM_cons, List.mapM_nil] at hx
      simp only [bind, Option.bind_eq_some_iff, pure, Option.some.injEq, hc] at hx
      obtain ⟨y0, h0, _, ⟨y1, h1, _, rfl, rfl⟩, rfl⟩ := hx
      obtain ⟨a, ea, rfl, wa⟩ := DataW.trod_int he h0
      obtain ⟨b, eb, rfl, wb⟩ := DataW.trod_int he h1
      simp at ea eb
      exact ⟨a, b, ea, eb, by rw [← e1]; rfl, wa, wb⟩
    · cases h
theorem okWide_array {r : Reach} {b0 n : Nat} {t e : TypeId} {v : Value} (ht : P.underlying t = some (.array n e)) (h : Value.okWide P W r b0 t v) : ∃ cs : Array Value, v = .agg cs ∧ cs.size = P.cellsOf t := by
  simp only [Value.okWide, ht] at h
  obtain ⟨cs, h1, h2, _⟩ := h
  exact ⟨cs, h1, h2⟩
/-- Three pairs of integers. -/
theorem open_pairs3 {r : Reach} {b0 : Nat} {t p e : TypeId} {v : Value} {d : DataW H} {ps : List MemPlace} (ht : P.underlying t = some (.array 3 p)) (hp : P.underlying p = some (.array 2 e)) (he : P.underlying e = some (.int q))
    (hc : P.cellsOf e = 1) (hcp : P.cellsOf p = 2) (hct : P.cellsOf t = 6) (hval : Value.okWide P W r b0 t v) (hd : DataW.Trod enc P W base sp held t v d ps) :
    ∃ a0 a1 a2 a3 a4 a5 : Int, v = .agg #[.int q a0, .int q a1, .int q a2, .int q a3, .int q a4, .int q a5] ∧ ps = [] ∧
      (Lit.int q a0).wf = true ∧ (Lit.int q a1).wf = true ∧ (Lit.int q a2).wf = true ∧ (Lit.int q a3).wf = true ∧ (Lit.int q a4).wf = true ∧ (Lit.int q a5).wf = true := by
  obtain ⟨⟨cs⟩, rfl, hs⟩ := okWide_array ht hval
  rw [hct] at hs
  match cs, hs with
  | [c0, c1, c2, c3, c4, c5], _ =>
  obtain ⟨fuel, hf⟩ := hd
  cases fuel with
  | zero => simp [DataW.trod] at hf
  | succ n =>
    rw [DataW.trod_step] at hf
    unfold DataW.trodStep at hf
    simp only [ht, Value.cells] at hf
    rw [if_pos (by rw [hct]; rfl)] at hf
    simp only [Option.map_eq_some_iff] at hf
    obtain ⟨xs, hx, e1⟩ := hf
    rw [show List.range 3 = [0, 1, 2] from rfl, List.mapM_cons, List.mapM_cons, List.mapM_cons, List.mapM_nil] at hx
    simp only [bind, Option.bind_eq_some_iff, pure, Option.some.injEq, hcp] at hx
    obtain ⟨y0, h0, _, ⟨y1, h1, _, ⟨y2, h2, _, rfl, rfl⟩, rfl⟩, rfl⟩ := hx
    obtain ⟨a0, a1, rfl, rfl, p0, w0, w1⟩ := two_of_trod hp he hc h0
    obtain ⟨a2, a3, rfl, rfl, p1, w2, w3⟩ := two_of_trod hp he hc h1
    obtain ⟨a4, a5, rfl, rfl, p2, w4, w5⟩ := two_of_trod hp he hc h2
    refine ⟨a0, a1, a2, a3, a4, a5, rfl, ?_, w0, w1, w2, w3, w4, w5⟩
    have := congrArg Prod.snd e1
    simp only at this
    rw [← this]
    simp [p0, p1, p2]
/-- Four integers. -/
theorem open_ints4 {r : Reach} {b0 : Nat} {t e : TypeId} {v : Value} {d : DataW H} {ps : List MemPlace} (ht : P.underlying t = some (.array 4 e)) (he : P.underlying e = some (.int q))
    (hc : P.cellsOf e = 1) (hct : P.cellsOf t = 4) (hval : Value.okWide P W r b0 t v) (hd : DataW.Trod enc P W base sp held t v d ps) :
    ∃ a0 a1 a2 a3 : Int, v = .agg #[.int q a0, .int q a1, .int q a2, .int q a3] ∧ ps = [] ∧
      (Lit.int q a0).wf = true ∧ (Lit.int q a1).wf = true ∧ (Lit.int q a2).wf = true ∧ (Lit.int q a3).wf = true := by
  obtain ⟨⟨cs⟩, rfl, hs⟩ := okWide_array ht hval
  rw [hct] at hs
  match cs, hs with
  | [c0, c1, c2, c3], _ =>
  obtain ⟨fuel, hf⟩ := hd
  cases fuel with
  | zero => simp [DataW.trod] at hf
  | succ n =>
    rw [DataW.trod_step] at hf
    unfold DataW.trodStep at hf
    simp only [ht, Value.cells] at hf
    rw [if_pos (by rw [hct]; rfl)] at hf
    simp only [Option.map_eq_some_iff] at hf
    obtain ⟨xs, hx, e1⟩ := hf
    rw [show List.range 4 = [0, 1, 2, 3] from rfl, List.mapM_cons, List.mapM_cons, List.mapM_cons, List.mapM_cons, List.mapM_nil] at hx
    simp only [bind, Option.bind_eq_some_iff, pure, Option.some.injEq, hc] at hx
    obtain ⟨y0, h0, _, ⟨y1, h1, _, ⟨y2, h2, _, ⟨y3, h3, _, rfl, rfl⟩, rfl⟩, rfl⟩, rfl⟩ := hx
    obtain ⟨a0, e0, rfl, w0⟩ := DataW.trod_int he h0
    obtain ⟨a1, e2, rfl, w1⟩ := DataW.trod_int he h1
    obtain ⟨a2, e3, rfl, w2⟩ := DataW.trod_int he h2
    obtain ⟨a3, e4, rfl, w3⟩ := DataW.trod_int he h3
    simp at e0 e2 e3 e4
    subst e0; subst e2; subst e3; subst e4
    refine ⟨a0, a1, a2, a3, rfl, ?_, w0, w1, w2, w3⟩
    have := congrArg Prod.snd e1
    simp only at this
    rw [← this]
    simp
end
end Go.Proofs.YtphphamfejgdaaaGreatDoor
