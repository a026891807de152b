/- The descriptions of the kinds of fields, as they lie in a table. No condition of its own. -/
import Derived.Test.YtcnokccgdiodlaaGreatDoorFmtB
import Derived.Laws.Tables
namespace Go.Proofs.YtcnokccgdiodlaaGreatDoor
open Go.RowKit Fx

/-- A function that captures. -/
abbrev clo (f : FuncId) (c : Array Value) : Value := .func (.func f) #[] c
abbrev adr (b : Nat) : Value := .pointer (some ⟨b, 0, none⟩)
/-- What sized returns. -/
abbrev sizedV (word : ByteArray) (b : Nat) : Array Value :=
  #[.string word, clo 103 #[adr b, adr (b + 1)], clo 104 #[], clo 105 #[], clo 106 #[]]
theorem sizedK_any (word : ByteArray) (lo hi : Int) (w : World) :
    Calls Tryz.prog 86 #[.string word, .int .i64 lo, .int .i64 hi] w fun e w' =>
      e = .returned (.agg (sizedV word w.heap.size)) ∧ w'.heap[w.heap.size]? = some (.cells #[.int .i64 lo] 3 (0, 0)) ∧ w'.heap[w.heap.size + 1]? = some (.cells #[.int .i64 hi] 3 (0, 0)) ∧ Below w.heap.size w w' := by
  have hmf : ∀ (fn : Fn) (first cap : Array Value) (w : World), (Instr.makeFunc fn first cap).run Tryz.prog w = .ok (.func fn first cap) w := fun _ _ _ _ => rfl
  go_enter Tryz.func86, Tryz.ntmps86
  go_wp2_with fail
  refine bodyPost_ret (v := .agg (sizedV word w.heap.size)) (by simp [results, Tryz.results86, go_sem]) rfl ⟨rfl, ?_, ?_, ?_⟩
  · exact (Below.heap_alloc _ _ _ (by simp; omega)).trans (heap_alloc2_old _ _ _)
  · exact (Below.heap_alloc _ _ _ (by simp)).trans (heap_alloc2_new _ _ _)
  exact (((Below.refl _ _).alloc (Nat.le_refl _) _).alloc (by simp) _).alloc (by simp; omega) _
/-- What orCounted returns of what sized returned. -/
abbrev countedV (word : ByteArray) (c : Nat) : Array Value :=
  #[.string word, clo 107 #[adr c], clo 104 #[], clo 109 #[adr c], clo 110 #[]]
theorem countedK_any (word : ByteArray) (b : Nat) (w : World) :
    Calls Tryz.prog 87 #[.agg (sizedV word b)] w fun e w' =>
      e = .returned (.agg (countedV word w.heap.size)) ∧ w'.heap[w.heap.size]? = some (.cells (sizedV word b) 73 (0, 0)) ∧ Below w.heap.size w w' := by
  have hmf : ∀ (fn : Fn) (first cap : Array Value) (w : World), (Instr.makeFunc fn first cap).run Tryz.prog w = .ok (.func fn first cap) w := fun _ _ _ _ => rfl
  go_enter Tryz.func87, Tryz.ntmps87
  go_wp2_with fail
  refine bodyPost_ret (v := .agg (countedV word w.heap.size)) (by simp [results, Tryz.results87, go_sem]) rfl ⟨rfl, ?_, ?_⟩
  · exact (Below.heap_alloc _ _ _ (by simp)).trans (heap_alloc_new _ _)
  · exact ((Below.refl _ _).alloc (Nat.le_refl _) _).alloc (by simp) _

/-- The cells of the kinds: of the sized ones' bounds, and of the sized kind in the counted one. -/
def kindsV (b1 c b3 : Nat) : Array Value :=
  #[.string ⟨#[]⟩, .nilFunc, .nilFunc, .nilFunc, .nilFunc,
    .string ⟨#[108, 105, 116, 101, 114, 97, 108]⟩, clo 79 #[], clo 81 #[], clo 82 #[], clo 84 #[],
    .string ⟨#[110, 117, 109, 98, 101, 114]⟩, clo 103 #[adr b1, adr (b1 + 1)], clo 104 #[], clo 105 #[], clo 106 #[],
    .string ⟨#[98, 121, 116, 101, 115]⟩, clo 107 #[adr c], clo 104 #[], clo 109 #[adr c], clo 110 #[],
    .string ⟨#[108, 105, 115, 116]⟩, clo 88 #[], clo 89 #[], clo 90 #[], clo 91 #[],
    .string ⟨#[105, 110, 115, 105, 100, 101]⟩, clo 92 #[], clo 94 #[], clo 90 #[], clo 91 #[],
    .string ⟨#[99, 104, 101, 99, 107]⟩, clo 103 #[adr b3, adr (b3 + 1)], clo 104 #[], clo 105 #[], clo 106 #[]]
/-- What the functions of the kinds have captured. -/
structure Boxes (w : World) (b1 b2 c b3 : Nat) : Prop where
  l1 : w.heap[b1]? = some (.cells #[.int .i64 1] 3 (0, 0))
  h1 : w.heap[b1 + 1]? = some (.cells #[.int .i64 3] 3 (0, 0))
  l2 : w.heap[b2]? = some (.cells #[.int .i64 0] 3 (0, 0))
  h2 : w.heap[b2 + 1]? = some (.cells #[.int .i64 4096] 3 (0, 0))
  k : w.heap[c]? = some (.cells (sizedV ⟨#[98, 121, 116, 101, 115]⟩ b2) 73 (0, 0))
  l3 : w.heap[b3]? = some (.cells #[.int .i64 1] 3 (0, 0))
  h3 : w.heap[b3 + 1]? = some (.cells #[.int .i64 3] 3 (0, 0))
theorem box_cell {w : World} {b : Nat} {n : Int} (h : w.heap[b]? = some (.cells #[.int .i64 n] 3 (0, 0))) : w.cell? ⟨b, 0, none⟩ = some (.int .i64 n) := cell_of_row w b 0 _ _ _ h
theorem lt_of_heap {w : World} {g : Nat} {o : Obj} (h : w.heap[g]? = some o) : g < w.heap.size := (Array.getElem?_eq_some_iff.1 h).1
theorem Boxes.lt {w : World} {b1 b2 c b3 : Nat} (h : Boxes w b1 b2 c b3) : b1 + 1 < w.heap.size ∧ b2 + 1 < w.heap.size ∧ c < w.heap.size ∧ b3 + 1 < w.heap.size :=
  ⟨lt_of_heap h.h1, lt_of_heap h.h2, lt_of_heap h.k, lt_of_heap h.h3⟩
theorem Boxes.kept {P : Nat → Prop} {w w' : World} {b1 b2 c b3 : Nat} (h : Boxes w b1 b2 c b3) (hk : Kept P w w') (hp : P b1 ∧ P (b1 + 1) ∧ P b2 ∧ P (b2 + 1) ∧ P c ∧ P b3 ∧ P (b3 + 1)) : Boxes w' b1 b2 c b3 := by
  obtain ⟨p1, p2, p3, p4, p5, p6, p7⟩ := hp
  exact ⟨(hk.block _ p1).trans h.l1, (hk.block _ p2).trans h.h1, (hk.block _ p3).trans h.l2, (hk.block _ p4).trans h.h2, (hk.block c p5).trans h.k, (hk.block _ p6).trans h.l3, (hk.block _ p7).trans h.h3⟩
/-- They stay where no block of their types is written. -/
theorem Boxes.far {w w' : World} {b1 b2 c b3 : Nat} (h : Boxes w b1 b2 c b3) (hf : ∀ (g : Nat) (cur : Array Value) (t : TypeId), t = 3 ∨ t = 73 → w.heap[g]? = some (Obj.cells cur t (0, 0)) → w'.heap[g]? = w.heap[g]?) : Boxes w' b1 b2 c b3 :=
  ⟨(hf _ _ _ (.inl rfl) h.l1).trans h.l1, (hf _ _ _ (.inl rfl) h.h1).trans h.h1, (hf _ _ _ (.inl rfl) h.l2).trans h.l2, (hf _ _ _ (.inl rfl) h.h2).trans h.h2, (hf _ _ _ (.inr rfl) h.k).trans h.k, (hf _ _ _ (.inl rfl) h.l3).trans h.l3, (hf _ _ _ (.inl rfl) h.h3).trans h.h3⟩
theorem Boxes.below {w w' : World} {b1 b2 c b3 : Nat} (h : Boxes w b1 b2 c b3) (hb : Below w.heap.size w w') : Boxes w' b1 b2 c b3 := by
  have hl := h.lt
  exact h.kept (Kept.of_below (P := (· < w.heap.size)) hb fun _ h => h) ⟨by omega, by omega, by omega, by omega, by omega, by omega, by omega⟩
/-- The blocks of the boxes. -/
def BoxB (b1 b2 c b3 k : Nat) : Prop := k = b1 ∨ k = b1 + 1 ∨ k = b2 ∨ k = b2 + 1 ∨ k = c ∨ k = b3 ∨ k = b3 + 1
theorem Boxes.of_blocks {w w' : World} {b1 b2 c b3 : Nat} (h : Boxes w b1 b2 c b3) (hf : ∀ k, BoxB b1 b2 c b3 k → w'.heap[k]? = w.heap[k]?) : Boxes w' b1 b2 c b3 :=
  ⟨(hf _ (.inl rfl)).trans h.l1, (hf _ (.inr (.inl rfl))).trans h.h1, (hf _ (.inr (.inr (.inl rfl)))).trans h.l2, (hf _ (.inr (.inr (.inr (.inl rfl))))).trans h.h2, (hf _ (.inr (.inr (.inr (.inr (.inl rfl)))))).trans h.k, (hf _ (.inr (.inr (.inr (.inr (.inr (.inl rfl))))))).trans h.l3, (hf _ (.inr (.inr (.inr (.inr (.inr (.inr rfl))))))).trans h.h3⟩
theorem kindsV_one (a b c : Nat) : (kindsV a b c).all (·.oneCell') = true := by simp [kindsV, Value.oneCell']
theorem infoKinds : (Tryz.prog.info? 74).map (·.size) = some 35 := by kernel_rfl
set_option maxHeartbeats 1000000 in
theorem kinds_any (w : World) :
    Calls Tryz.prog 65 #[] w fun e w' => (∃ b1 b2 c b3, e = .returned (.agg (kindsV b1 c b3)) ∧ Boxes w' b1 b2 c b3 ∧ ∀ k, BoxB b1 b2 c b3 k → w.heap.size ≤ k) ∧ Below w.heap.size w w' := by
  go_enter Tryz.func65, Tryz.ntmps65
  go_wp2_with fail
  obtain ⟨w0, hw0⟩ : ∃ w0, w0 = w.alloc (.cells #[.string ⟨#[]⟩, .nilFunc, .nilFunc, .nilFunc, .nilFunc, .string ⟨#[]⟩, .nilFunc, .nilFunc, .nilFunc, .nilFunc, .string ⟨#[]⟩, .nilFunc, .nilFunc, .nilFunc, .nilFunc, .string ⟨#[]⟩, .nilFunc, .nilFunc, .nilFunc, .nilFunc,
    .string ⟨#[]⟩, .nilFunc, .nilFunc, .nilFunc, .nilFunc, .string ⟨#[]⟩, .nilFunc, .nilFunc, .nilFunc, .nilFunc, .string ⟨#[]⟩, .nilFunc, .nilFunc, .nilFunc, .nilFunc] 74) := ⟨_, rfl⟩
  rw [← hw0]
  have h0 : Hid (Below w.heap.size w w0 ∧ ∃ cs : Array Value, cs.size = 35 ∧ w0.heap[w.heap.size]? = some (.cells cs 74 (0, 0))) := Lib.hid (by rw [hw0]; exact ⟨bx _, _, rfl, heap_alloc_new _ _⟩)
  clear hw0
  refine (sizedK_any _ _ _ _).mono ?_
  rintro e w1 ⟨rfl, a1, a2, hB1⟩
  have A1 := Lib.hid (And.intro (And.intro a1 a2) hB1)
  clear a1 a2 hB1
  go_wp2_with fail
  refine (sizedK_any _ _ _ _).mono ?_
  rintro e w2 ⟨rfl, a1, a2, hB1⟩
  have A2 := Lib.hid (And.intro (And.intro a1 a2) hB1)
  clear a1 a2 hB1
  go_wp2_with fail
  refine (countedK_any _ _ _).mono ?_
  rintro e w3 ⟨rfl, a1, hB1⟩
  have A3 := Lib.hid (And.intro a1 hB1)
  clear a1 hB1
  go_wp2_with fail
  refine (sizedK_any _ _ _ _).mono ?_
  rintro e w4 ⟨rfl, a1, a2, hB1⟩
  obtain ⟨H0, cs, hcs, hh⟩ := h0.out
  have s0 := lt_of_heap hh
  have s1 := A1.out.2.size
  have s2 := A2.out.2.size
  have s3 := A3.out.2.size
  have s4 := hB1.size
  have q2 := lt_of_heap A1.out.1.2
  have q3 := lt_of_heap A2.out.1.2
  have q4 := lt_of_heap A3.out.1
  have b02 : Below w0.heap.size w0 w2 := A1.out.2.trans (A2.out.2.mono s1)
  have b13 : Below w1.heap.size w1 w3 := A2.out.2.trans (A3.out.2.mono s2)
  have b24 : Below w2.heap.size w2 w4 := A3.out.2.trans (hB1.mono s3)
  have b14 : Below w1.heap.size w1 w4 := A2.out.2.trans (b24.mono s2)
  have b04 : Below w0.heap.size w0 w4 := A1.out.2.trans (b14.mono s1)
  have hb4 : Hid (w4.heap[w.heap.size]? = some (.cells cs 74 (0, 0))) := Lib.hid ((b04.block _ s0).trans hh)
  have HX : Hid (Boxes w4 w0.heap.size w1.heap.size w2.heap.size w3.heap.size) := Lib.hid
    ⟨(b14.block _ (lt_of_heap A1.out.1.1)).trans A1.out.1.1, (b14.block _ q2).trans A1.out.1.2, (b24.block _ (lt_of_heap A2.out.1.1)).trans A2.out.1.1, (b24.block _ q3).trans A2.out.1.2,
      (hB1.block _ q4).trans A3.out.1, a1, a2⟩
  have HB : Hid (Below w.heap.size w w4 ∧ w.heap.size < w0.heap.size ∧ cs.size = 35) := Lib.hid ⟨H0.trans (b04.mono H0.size), s0, hcs⟩
  have HS := Lib.hid (And.intro s1 (And.intro s2 s3))
  clear H0 hh s0 s1 s2 s3 s4 q2 q3 q4 b02 b13 b24 b14 b04 A1 A2 A3 hB1 a1 a2 h0 hcs
  go_wp2_with (first | (refine wpList_store_row rfl 74 _ _ rfl w.heap.size (kindsV w0.heap.size w2.heap.size w3.heap.size) rfl rfl 74 _ hb4.out (infoKinds.trans rfl) HB.out.2.2 (kindsV_one _ _ _) ?_))
  have hX := HX.out
  have hS := HS.out
  have hk : Kept (fun k => k < w.heap.size ∨ w0.heap.size ≤ k ∧ k < w4.heap.size) w4 (w4.setRow w.heap.size (kindsV w0.heap.size w2.heap.size w3.heap.size)) := by
    refine ⟨rfl, rfl, rfl, by simp, fun k hk => ?_⟩
    simp only [World.setRow, Array.getElem?_modify]
    rw [if_neg (by have := HB.out.2.1; omega)]
  have hl := hX.lt
  have hY : Boxes (w4.setRow w.heap.size (kindsV w0.heap.size w2.heap.size w3.heap.size)) w0.heap.size w1.heap.size w2.heap.size w3.heap.size := hX.kept hk ⟨.inr (by omega), .inr (by omega), .inr (by omega), .inr (by omega), .inr (by omega), .inr (by omega), .inr (by omega)⟩
  refine bodyPost_ret (v := .agg (kindsV w0.heap.size w2.heap.size w3.heap.size)) ?_ rfl ⟨⟨_, _, _, _, rfl, hY, fun k hk => by have := HB.out.2.1; unfold BoxB at hk; omega⟩, HB.out.1.trans (hk.below fun k h => .inl h)⟩
  exact results_cell_row rfl _ _ w.heap.size _ _ (0, 0) _ rfl (setRow_heap _ _ _ _ _ _ hb4.out) Tryz.underlying74 rfl (infoKinds.trans rfl)
end Go.Proofs.YtcnokccgdiodlaaGreatDoor
