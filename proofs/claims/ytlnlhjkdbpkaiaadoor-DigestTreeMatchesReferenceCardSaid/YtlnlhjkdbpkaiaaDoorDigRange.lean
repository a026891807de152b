/- A range over a function whose iterator keeps state of its own in cells: the iterator may write whatever lies at or beyond the heap's size at its call, the loop's body the blocks that are named. No condition of its own: the law is over any program. -/
import Derived.RangeFuncNested
import Derived.RangeFuncBound
import Derived.RangeFuncCalls
import Derived.RangeFuncLeaves
namespace Go.Proofs.YtlnlhjkdbpkaiaaDoor
open Go.RowKit

/-- Every block that was there, but those that may, is as it was. -/
structure Spares (may : Nat → Prop) (W W' : World) : Prop where
  size : W.heap.size ≤ W'.heap.size
  block : ∀ k, k < W.heap.size → ¬ may k → W'.heap[k]? = W.heap[k]?
theorem Spares.refl (may : Nat → Prop) (W : World) : Spares may W W := ⟨Nat.le_refl _, fun _ _ _ => rfl⟩
theorem Spares.trans {may : Nat → Prop} {a b c : World} (h : Spares may a b) (k : Spares may b c) : Spares may a c :=
  ⟨Nat.le_trans h.size k.size, fun i h1 h2 => (k.block i (Nat.lt_of_lt_of_le h1 h.size) h2).trans (h.block i h1 h2)⟩
theorem Spares.mono {may may' : Nat → Prop} {a b : World} (h : Spares may a b) (hm : ∀ k, may k → may' k) : Spares may' a b := ⟨h.size, fun k h1 h2 => h.block k h1 (fun e => h2 (hm k e))⟩
theorem Spares.setCell {may : Nat → Prop} (W : World) {p : Addr} (hp : may p.block) (v : Value) : Spares may W (W.setCell p v) :=
  ⟨by simp [World.setCell], fun k _ h2 => Below.heap_setCell W p v k (fun e => h2 (e ▸ hp))⟩
theorem Spares.setRow {may : Nat → Prop} (W : World) {g : Nat} (hp : may g) (cs : Array Value) : Spares may W (W.setRow g cs) :=
  ⟨by simp, fun k _ h2 => setRow_other W g k cs (fun e => h2 (e ▸ hp))⟩
theorem Spares.putObj {may : Nat → Prop} (W : World) {l : Nat} (hl : may l) (o : Obj) : Spares may W (W.putObj l o) :=
  ⟨by simp, fun _ _ h2 => World.putObj_heap_other (fun e => h2 (e ▸ hl))⟩
theorem Spares.of_below {may : Nat → Prop} {W W' : World} (h : Below W.heap.size W W') : Spares may W W' := ⟨h.size, fun k h1 _ => h.block k h1⟩
theorem Spares.cell {may : Nat → Prop} {W W' : World} (h : Spares may W W') {p : Addr} (h1 : p.block < W.heap.size) (h2 : ¬ may p.block) : W'.cell? p = W.cell? p := World.cell?_of_block (w := W) (h.block p.block h1 h2)
theorem Spares.frozen {may : Nat → Prop} {W W' : World} (h : Spares may W W') {p : Addr} (h1 : p.block < W.heap.size) (h2 : ¬ may p.block) : W'.frozen? p = W.frozen? p := World.frozen?_of_block (w := W) (h.block p.block h1 h2)

/-- What abides whatever happens at or beyond block B. -/
def Stays {β : Type} (B : Nat) (I : β → World → Prop) : Prop := ∀ s W W', I s W → Below B W W' → I s W'

/-- The contract of an iterator that is never stopped: its own state lies at or beyond the heap's size at its call; the rounds write only the blocks that may, and the loop's record. -/
def SeqOwn {α : Type} (F : Fence) (n : Nat) (P : Program) (g : Nat) (lb : Array Value) (encs : α → Array Value) (may : Nat → Prop) (S : List α → Prop) (w : World) : Prop :=
  ∀ (l : Nat) (J : List α → World → Prop) (W : World), Below w.heap.size w W → w.heap.size ≤ l → l < W.heap.size → Stays W.heap.size J →
    (∀ pre x W1, J pre W1 → YieldAt F (n - 1) P l (encs x) W1 fun e W' => e = .returned (.bool true) ∧ J (pre ++ [x]) W' ∧ Spares (fun k => may k ∨ k = l) W1 W') →
    J [] W →
    CallsIn F n P g (#[.func (.yield l) #[] #[]] ++ lb) W fun e W' => (∃ v, e = .returned v) ∧ ∃ xs, S xs ∧ J xs W'

/-- How the body of a round may be left. -/
def roundEnd {α : Type} (may : Nat → Prop) (I : List α → World → Prop) (xs : List α) (W : World) : Exit → Act → World → Prop
  | .normal, _, W' => Spares may W W' ∧ I xs W'
  | _, _, _ => False

theorem below_put {n : Nat} {W : World} {l : Nat} {o : Obj} (o' : Obj) (hn : n ≤ l) (h : W.heap[l]? = some o) : Below n W (W.putObj l o') :=
  (Below.refl n W).grown (grownBy_putObj' W l o') (by have := (Array.getElem?_eq_some_iff.1 h).1; omega) (fun k e => by cases e; omega)

variable {F : Fence} {n : Nat} {P : Program}

theorem wpIn_rangeFunc_cells {α : Type} {g : Operand} {ps : Array Tmp} {assign body : Code} {Q : Exit → Act → World → Prop} {a : Act} {w : World}
    (hro : F.round = none) (h1 : 1 ≤ n) {gf : Nat} {lb : Array Value} (hg : a.eval g = .func (.func gf) #[] lb) (hFg : F.fn gf) (eg : ∀ args w, (callFunc gf args).run P w = .ok (.enter gf args) w)
    {encs : α → Array Value} {may : Nat → Prop} {S : List α → Prop} (hseq : SeqOwn F (n - 1) P gf lb encs may S w) (hmay : ∀ k, may k → k < w.heap.size) (hps : ∀ x, (encs x).size = ps.size)
    (I : List α → World → Prop) (hI : Stays w.heap.size I) (h0 : I [] w) (Ax : α → Act → World → Prop) (hAx : ∀ x a' W o, Ax x a' W → Ax x a' (W.putObj (w.heap.size + 1) o))
    (hassign : ∀ (l : Nat) (x : α) (W : World) (K : Act → World → Prop), w.heap.size + 2 ≤ W.heap.size → (∀ a' W', Below W.heap.size W W' → Ax x a' W' → K a' W') →
      assign.wpIn (F.inRound l) (n - 1 - 1) P (Exit.then K (fun _ _ _ => False)) { tmps := (ps.zip (encs x)).foldl (fun t (p, v) => t.setIfInBounds p v) a.tmps, defers := [] } W)
    (hbody : ∀ (l : Nat) (pre : List α) (x : α) (a' : Act) (W : World), I pre W → w.heap.size + 2 ≤ W.heap.size → Ax x a' W → body.wpIn (F.inRound l) (n - 1 - 1) P (roundEnd may I (pre ++ [x]) W) a' W)
    (hdone : ∀ (D : Nat) (xs : List α) (W : World), w.heap.size ≤ D → S xs → I xs W → W.heap[D]? = some (.deferred (some [])) → Q .normal { a with defers := { target := .collected D, args := #[] } :: a.defers } W) :
    (Code.rangeFunc g ps assign body).wpIn F n P Q a w := by
  refine wpIn_rangeFunc fun fn hfn => ?_
  rw [hro]
  let rec' : LoopState → Option Code → Loop := fun st pe => { state := st, pending := pe, fn, tmps := a.tmps, params := ps, assign, body, defers := w.heap.size }
  obtain ⟨rc, hrc⟩ : ∃ rc, rc = rec' := ⟨_, rfl⟩
  obtain ⟨V, hV⟩ : ∃ V, V = (w.alloc (.deferred (some []))).alloc (.loop (rc .ready none)) := ⟨_, rfl⟩
  have sV : V.heap.size = w.heap.size + 2 := by rw [hV]; simp
  have bV : Below w.heap.size w V := by rw [hV]; exact ((Below.refl _ w).alloc (Nat.le_refl _) _).alloc (by simp) _
  have loopV : V.heap[w.heap.size + 1]? = some (.loop (rc .ready none)) := by
    have h := World.alloc_heap_new (w.alloc (.deferred (some []))) (.loop (rc .ready none))
    rw [World.size_alloc] at h; rw [hV]; exact h
  have deferV : V.heap[w.heap.size]? = some (.deferred (some [])) := by
    rw [hV]; exact (Below.heap_alloc _ _ _ (by simp)).trans (World.alloc_heap_new w _)
  have no : ∀ k, w.heap.size ≤ k → ¬ may k := fun k hk h => by have := hmay k h; omega
  refine ⟨w.heap.size + 1, [{ target := .collected w.heap.size, args := #[] }], V, { target := .fn (.func gf) lb, args := #[.func (.yield (w.heap.size + 1)) #[] #[]] }, V, gf,
    #[.func (.yield (w.heap.size + 1)) #[] #[]] ++ lb, V, ?_, ?_, ?_, ?_, fun _ => h1, ?_⟩
  · rw [hV, hrc]; exact run_enterLoop_outer _ _ _ _ _
  · simp only [resolve, hg]
    simp [go_sem]
  · intro f' hf'; simp [Target.leads] at hf'; subst hf'; exact hFg
  · simp [invoke, go_sem, eg]
  refine (hseq (w.heap.size + 1) (fun pre W => I pre W ∧ w.heap.size + 2 ≤ W.heap.size ∧ W.heap[w.heap.size + 1]? = some (.loop (rc .ready none)) ∧ W.heap[w.heap.size]? = some (.deferred (some []))) V bV (by omega) (by omega) ?stays ?round ⟨hI _ _ _ h0 bV, by omega, loopV, deferV⟩).mono ?done
  case stays =>
    rintro s A A' ⟨hi, hs, hl, hd⟩ hb
    rw [sV] at hb
    exact ⟨hI _ _ _ hi (hb.mono (by omega)), Nat.le_trans hs hb.size, (hb.block _ (by omega)).trans hl, (hb.block _ (by omega)).trans hd⟩
  case round =>
    rintro pre x W ⟨hi, hs, hl, hd⟩
    have hy := run_yield (P := P) (args := encs x) hl (by rw [hrc]; exact hps x)
    rw [hrc] at hy
    refine ⟨fn, _, assign, body, hy, roundIn_of_wpIn hfn (hassign _ x W _ hs fun a' Wa hba hxa => ?_)⟩
    clear hy
    have la : Wa.heap[w.heap.size + 1]? = some (.loop (rc .ready none)) := (hba.block _ (by omega)).trans hl
    have da : Wa.heap[w.heap.size]? = some (.deferred (some [])) := (hba.block _ (by omega)).trans hd
    have sa := hba.size
    have ia := hI _ _ _ hi (hba.mono (by omega))
    refine ⟨_, run_beginRound la (by rw [hrc]), ?_⟩
    obtain ⟨busy, hbusy⟩ : ∃ o : Obj, o = .loop { rc .ready none with state := .busy } := ⟨_, rfl⟩
    rw [← hbusy]
    have p1 := below_put busy (Nat.le_succ w.heap.size) la
    refine wpIn_mono (hbody _ pre x a' _ (hI _ _ _ ia p1) (by simp; omega) (hAx _ _ _ _ hxa)) ?_
    rintro e a3 W3 hp
    cases e with
    | normal =>
      obtain ⟨hA, hi3⟩ := hp
      have s3 : Wa.heap.size ≤ W3.heap.size := by have := hA.size; simpa using this
      have l3 : W3.heap[w.heap.size + 1]? = some busy := (hA.block _ (by simp; omega) (no _ (by omega))).trans (World.putObj_heap_same (by omega))
      have d3 : W3.heap[w.heap.size]? = some (.deferred (some [])) := ((hA.block _ (by simp; omega) (no _ (by omega))).trans (World.putObj_heap_other (by omega))).trans da
      have run3 := run_endRound (P := P) none (by rw [hbusy] at l3; exact l3)
      refine ⟨_, _, run3, rfl, ⟨hI _ _ _ hi3 (below_put _ (Nat.le_succ w.heap.size) l3), by simp; omega, ?_, (World.putObj_heap_other (by omega)).trans d3⟩, ?_⟩
      · rw [World.putObj_heap_same (by omega)]
        rw [hrc]; rfl
      · exact (((Spares.of_below hba).trans (Spares.putObj Wa (.inr rfl) _)).trans (hA.mono fun k h => .inl h)).trans (Spares.putObj W3 (.inr rfl) _)
    | ret => exact hp.elim
    | exit _ => exact hp.elim
    | goto _ => exact hp.elim
    | panic _ => exact hp.elim
    | outgrown => exact hp.elim
  case done =>
    rintro e W2 ⟨⟨v, rfl⟩, xs, hS, hi, hs, hl, hd⟩
    have h := run_endLoop (P := P) hl (by rw [hrc]; simp [rec'])
    have hp : (rc .ready none).pending = none := by rw [hrc]
    rw [hp] at h
    exact ⟨none, _, h, hdone _ xs _ (Nat.le_refl _) hS (hI _ _ _ hi (below_put _ (Nat.le_succ w.heap.size) hl)) ((World.putObj_heap_other (by omega)).trans hd)⟩
end Go.Proofs.YtlnlhjkdbpkaiaaDoor
