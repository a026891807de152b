/- The descriptions of the kinds of fields, as they lie in a table. No condition of its own. A table in memory. No condition of its own. What the kinds ask of a table. Conditions: the table lies there; the fields' numbers are ints. Whether a field may stand next, by its kind. Conditions: the table lies there; the fields' numbers are ints. add: a field is put behind the open format's fields, or the reading stops. Conditions: the table lies there; the field's numbers are ints. -/
import Derived.Test.YtlhobhfmombjjaaGreatDoorPa02
import Derived.Laws.Tables
import Derived.Lib.QuietBelow
import Derived.RegionTactic
import Derived.ChangeAlike
import Derived.BigRegion
import Derived.Deep.RegionHeld3
import Derived.Deep.RegionWith
namespace Go.Proofs.YtlhobhfmombjjaaGreatDoor
section FmtC
open Go.RowKit Fx

/-- A function that captures. -/
abbrev clo (f : FuncId) (c : Array Value) : Value := .func (.func f) #[] c
abbrev adr (b : Nat) : Value := .pointer (some ⟨b, 0, none⟩)
/-- What sized returns. -/
abbrev sizedV (word : ByteArray) (b : Nat) : Array Value :=
  #[.string word, clo 140 #[adr b, adr (b + 1)], clo 141 #[], clo 142 #[], clo 144 #[]]
theorem sizedK_any (word : ByteArray) (lo hi : Int) (w : World) :
    Calls Tryz.prog 128 #[.string word, .int .i64 lo, .int .i64 hi] w fun e w' =>
      e = .returned (.agg (sizedV word w.heap.size)) ∧ w'.heap[w.heap.size]? = some (.cells #[.int .i64 lo] 3 (0, 0)) ∧ w'.heap[w.heap.size + 1]? = some (.cells #[.int .i64 hi] 3 (0, 0)) ∧ Below w.heap.size w w' := by
  have hmf : ∀ (fn : Fn) (first cap : Array Value) (w : World), (Instr.makeFunc fn first cap).run Tryz.prog w = .ok (.func fn first cap) w := fun _ _ _ _ => rfl
  go_enter Tryz.func128, Tryz.ntmps128
  go_wp2_with fail
  refine bodyPost_ret (v := .agg (sizedV word w.heap.size)) (by simp [results, Tryz.results128, go_sem]) rfl ⟨rfl, ?_, ?_, ?_⟩
  · exact (Below.heap_alloc _ _ _ (by simp; omega)).trans (heap_alloc2_old _ _ _)
  · exact (Below.heap_alloc _ _ _ (by simp)).trans (heap_alloc2_new _ _ _)
  exact (((Below.refl _ _).alloc (Nat.le_refl _) _).alloc (by simp) _).alloc (by simp; omega) _
/-- What orCounted returns of what sized returned. -/
abbrev countedV (word : ByteArray) (c : Nat) : Array Value :=
  #[.string word, clo 146 #[adr c], clo 141 #[], clo 148 #[adr c], clo 149 #[]]
theorem countedK_any (word : ByteArray) (b : Nat) (w : World) :
    Calls Tryz.prog 129 #[.agg (sizedV word b)] w fun e w' =>
      e = .returned (.agg (countedV word w.heap.size)) ∧ w'.heap[w.heap.size]? = some (.cells (sizedV word b) 184 (0, 0)) ∧ Below w.heap.size w w' := by
  have hmf : ∀ (fn : Fn) (first cap : Array Value) (w : World), (Instr.makeFunc fn first cap).run Tryz.prog w = .ok (.func fn first cap) w := fun _ _ _ _ => rfl
  go_enter Tryz.func129, Tryz.ntmps129
  go_wp2_with fail
  refine bodyPost_ret (v := .agg (countedV word w.heap.size)) (by simp [results, Tryz.results129, go_sem]) rfl ⟨rfl, ?_, ?_⟩
  · exact (Below.heap_alloc _ _ _ (by simp)).trans (heap_alloc_new _ _)
  · exact ((Below.refl _ _).alloc (Nat.le_refl _) _).alloc (by simp) _

/-- The cells of the kinds: of the sized ones' bounds, and of the sized kind in the counted one. -/
def kindsV (b1 c b3 : Nat) : Array Value :=
  #[.string ⟨#[]⟩, .nilFunc, .nilFunc, .nilFunc, .nilFunc,
    .string ⟨#[108, 105, 116, 101, 114, 97, 108]⟩, clo 121 #[], clo 123 #[], clo 124 #[], clo 126 #[],
    .string ⟨#[110, 117, 109, 98, 101, 114]⟩, clo 140 #[adr b1, adr (b1 + 1)], clo 141 #[], clo 142 #[], clo 144 #[],
    .string ⟨#[98, 121, 116, 101, 115]⟩, clo 146 #[adr c], clo 141 #[], clo 148 #[adr c], clo 149 #[],
    .string ⟨#[108, 105, 115, 116]⟩, clo 130 #[], clo 131 #[], clo 132 #[], clo 133 #[],
    .string ⟨#[105, 110, 115, 105, 100, 101]⟩, clo 134 #[], clo 136 #[], clo 132 #[], clo 133 #[],
    .string ⟨#[99, 104, 101, 99, 107]⟩, clo 140 #[adr b3, adr (b3 + 1)], clo 141 #[], clo 142 #[], clo 144 #[]]
/-- What the functions of the kinds have captured. -/
structure Boxes (w : World) (b1 b2 c b3 : Nat) : Prop where
  l1 : w.heap[b1]? = some (.cells #[.int .i64 1] 3 (0, 0))
  h1 : w.heap[b1 + 1]? = some (.cells #[.int .i64 3] 3 (0, 0))
  l2 : w.heap[b2]? = some (.cells #[.int .i64 0] 3 (0, 0))
  h2 : w.heap[b2 + 1]? = some (.cells #[.int .i64 4096] 3 (0, 0))
  k : w.heap[c]? = some (.cells (sizedV ⟨#[98, 121, 116, 101, 115]⟩ b2) 184 (0, 0))
  l3 : w.heap[b3]? = some (.cells #[.int .i64 1] 3 (0, 0))
  h3 : w.heap[b3 + 1]? = some (.cells #[.int .i64 3] 3 (0, 0))
theorem box_cell {w : World} {b : Nat} {n : Int} (h : w.heap[b]? = some (.cells #[.int .i64 n] 3 (0, 0))) : w.cell? ⟨b, 0, none⟩ = some (.int .i64 n) := cell_of_row w b 0 _ _ _ h
theorem lt_of_heap {w : World} {g : Nat} {o : Obj} (h : w.heap[g]? = some o) : g < w.heap.size := (Array.getElem?_eq_some_iff.1 h).1
theorem Boxes.lt {w : World} {b1 b2 c b3 : Nat} (h : Boxes w b1 b2 c b3) : b1 + 1 < w.heap.size ∧ b2 + 1 < w.heap.size ∧ c < w.heap.size ∧ b3 + 1 < w.heap.size :=
  ⟨lt_of_heap h.h1, lt_of_heap h.h2, lt_of_heap h.k, lt_of_heap h.h3⟩
theorem Boxes.kept {P : Nat → Prop} {w w' : World} {b1 b2 c b3 : Nat} (h : Boxes w b1 b2 c b3) (hk : Kept P w w') (hp : P b1 ∧ P (b1 + 1) ∧ P b2 ∧ P (b2 + 1) ∧ P c ∧ P b3 ∧ P (b3 + 1)) : Boxes w' b1 b2 c b3 := by
  obtain ⟨p1, p2, p3, p4, p5, p6, p7⟩ := hp
  exact ⟨(hk.block _ p1).trans h.l1, (hk.block _ p2).trans h.h1, (hk.block _ p3).trans h.l2, (hk.block _ p4).trans h.h2, (hk.block c p5).trans h.k, (hk.block _ p6).trans h.l3, (hk.block _ p7).trans h.h3⟩
/-- They stay where no block of their types is written. -/
theorem Boxes.far {w w' : World} {b1 b2 c b3 : Nat} (h : Boxes w b1 b2 c b3) (hf : ∀ (g : Nat) (cur : Array Value) (t : TypeId), t = 3 ∨ t = 184 → w.heap[g]? = some (Obj.cells cur t (0, 0)) → w'.heap[g]? = w.heap[g]?) : Boxes w' b1 b2 c b3 :=
  ⟨(hf _ _ _ (.inl rfl) h.l1).trans h.l1, (hf _ _ _ (.inl rfl) h.h1).trans h.h1, (hf _ _ _ (.inl rfl) h.l2).trans h.l2, (hf _ _ _ (.inl rfl) h.h2).trans h.h2, (hf _ _ _ (.inr rfl) h.k).trans h.k, (hf _ _ _ (.inl rfl) h.l3).trans h.l3, (hf _ _ _ (.inl rfl) h.h3).trans h.h3⟩
theorem Boxes.below {w w' : World} {b1 b2 c b3 : Nat} (h : Boxes w b1 b2 c b3) (hb : Below w.heap.size w w') : Boxes w' b1 b2 c b3 := by
  have hl := h.lt
  exact h.kept (Kept.of_below (P := (· < w.heap.size)) hb fun _ h => h) ⟨by omega, by omega, by omega, by omega, by omega, by omega, by omega⟩
/-- The blocks of the boxes. -/
def BoxB (b1 b2 c b3 k : Nat) : Prop := k = b1 ∨ k = b1 + 1 ∨ k = b2 ∨ k = b2 + 1 ∨ k = c ∨ k = b3 ∨ k = b3 + 1
theorem Boxes.of_blocks {w w' : World} {b1 b2 c b3 : Nat} (h : Boxes w b1 b2 c b3) (hf : ∀ k, BoxB b1 b2 c b3 k → w'.heap[k]? = w.heap[k]?) : Boxes w' b1 b2 c b3 :=
  ⟨(hf _ (.inl rfl)).trans h.l1, (hf _ (.inr (.inl rfl))).trans h.h1, (hf _ (.inr (.inr (.inl rfl)))).trans h.l2, (hf _ (.inr (.inr (.inr (.inl rfl))))).trans h.h2, (hf _ (.inr (.inr (.inr (.inr (.inl rfl)))))).trans h.k, (hf _ (.inr (.inr (.inr (.inr (.inr (.inl rfl))))))).trans h.l3, (hf _ (.inr (.inr (.inr (.inr (.inr (.inr rfl))))))).trans h.h3⟩
theorem kindsV_one (a b c : Nat) : (kindsV a b c).all (·.oneCell') = true := by simp [kindsV, Value.oneCell']
theorem infoKinds : (Tryz.prog.info? 185).map (·.size) = some 35 := by kernel_rfl
set_option maxHeartbeats 1000000 in
theorem kinds_any (w : World) :
    Calls Tryz.prog 118 #[] w fun e w' => (∃ b1 b2 c b3, e = .returned (.agg (kindsV b1 c b3)) ∧ Boxes w' b1 b2 c b3 ∧ ∀ k, BoxB b1 b2 c b3 k → w.heap.size ≤ k) ∧ Below w.heap.size w w' := by
  go_enter Tryz.func118, Tryz.ntmps118
  go_wp2_with fail
  obtain ⟨w0, hw0⟩ : ∃ w0, w0 = w.alloc (.cells #[.string ⟨#[]⟩, .nilFunc, .nilFunc, .nilFunc, .nilFunc, .string ⟨#[]⟩, .nilFunc, .nilFunc, .nilFunc, .nilFunc, .string ⟨#[]⟩, .nilFunc, .nilFunc, .nilFunc, .nilFunc, .string ⟨#[]⟩, .nilFunc, .nilFunc, .nilFunc, .nilFunc,
    .string ⟨#[]⟩, .nilFunc, .nilFunc, .nilFunc, .nilFunc, .string ⟨#[]⟩, .nilFunc, .nilFunc, .nilFunc, .nilFunc, .string ⟨#[]⟩, .nilFunc, .nilFunc, .nilFunc, .nilFunc] 185) := ⟨_, rfl⟩
  rw [← hw0]
  have h0 : Hid (Below w.heap.size w w0 ∧ ∃ cs : Array Value, cs.size = 35 ∧ w0.heap[w.heap.size]? = some (.cells cs 185 (0, 0))) := Lib.hid (by rw [hw0]; exact ⟨bx _, _, rfl, heap_alloc_new _ _⟩)
  clear hw0
  refine (sizedK_any _ _ _ _).mono ?_
  rintro e w1 ⟨rfl, a1, a2, hB1⟩
  have A1 := Lib.hid (And.intro (And.intro a1 a2) hB1)
  clear a1 a2 hB1
  go_wp2_with fail
  refine (sizedK_any _ _ _ _).mono ?_
  rintro e w2 ⟨rfl, a1, a2, hB1⟩
  have A2 := Lib.hid (And.intro (And.intro a1 a2) hB1)
  clear a1 a2 hB1
  go_wp2_with fail
  refine (countedK_any _ _ _).mono ?_
  rintro e w3 ⟨rfl, a1, hB1⟩
  have A3 := Lib.hid (And.intro a1 hB1)
  clear a1 hB1
  go_wp2_with fail
  refine (sizedK_any _ _ _ _).mono ?_
  rintro e w4 ⟨rfl, a1, a2, hB1⟩
  obtain ⟨H0, cs, hcs, hh⟩ := h0.out
  have s0 := lt_of_heap hh
  have s1 := A1.out.2.size
  have s2 := A2.out.2.size
  have s3 := A3.out.2.size
  have s4 := hB1.size
  have q2 := lt_of_heap A1.out.1.2
  have q3 := lt_of_heap A2.out.1.2
  have q4 := lt_of_heap A3.out.1
  have b02 : Below w0.heap.size w0 w2 := A1.out.2.trans (A2.out.2.mono s1)
  have b13 : Below w1.heap.size w1 w3 := A2.out.2.trans (A3.out.2.mono s2)
  have b24 : Below w2.heap.size w2 w4 := A3.out.2.trans (hB1.mono s3)
  have b14 : Below w1.heap.size w1 w4 := A2.out.2.trans (b24.mono s2)
  have b04 : Below w0.heap.size w0 w4 := A1.out.2.trans (b14.mono s1)
  have hb4 : Hid (w4.heap[w.heap.size]? = some (.cells cs 185 (0, 0))) := Lib.hid ((b04.block _ s0).trans hh)
  have HX : Hid (Boxes w4 w0.heap.size w1.heap.size w2.heap.size w3.heap.size) := Lib.hid
    ⟨(b14.block _ (lt_of_heap A1.out.1.1)).trans A1.out.1.1, (b14.block _ q2).trans A1.out.1.2, (b24.block _ (lt_of_heap A2.out.1.1)).trans A2.out.1.1, (b24.block _ q3).trans A2.out.1.2,
      (hB1.block _ q4).trans A3.out.1, a1, a2⟩
  have HB : Hid (Below w.heap.size w w4 ∧ w.heap.size < w0.heap.size ∧ cs.size = 35) := Lib.hid ⟨H0.trans (b04.mono H0.size), s0, hcs⟩
  have HS := Lib.hid (And.intro s1 (And.intro s2 s3))
  clear H0 hh s0 s1 s2 s3 s4 q2 q3 q4 b02 b13 b24 b14 b04 A1 A2 A3 hB1 a1 a2 h0 hcs
  go_wp2_with (first | (refine wpList_store_row rfl 185 _ _ rfl w.heap.size (kindsV w0.heap.size w2.heap.size w3.heap.size) rfl rfl 185 _ hb4.out (infoKinds.trans rfl) HB.out.2.2 (kindsV_one _ _ _) ?_))
  have hX := HX.out
  have hS := HS.out
  have hk : Kept (fun k => k < w.heap.size ∨ w0.heap.size ≤ k ∧ k < w4.heap.size) w4 (w4.setRow w.heap.size (kindsV w0.heap.size w2.heap.size w3.heap.size)) := by
    refine ⟨rfl, rfl, rfl, by simp, fun k hk => ?_⟩
    simp only [World.setRow, Array.getElem?_modify]
    rw [if_neg (by have := HB.out.2.1; omega)]
  have hl := hX.lt
  have hY : Boxes (w4.setRow w.heap.size (kindsV w0.heap.size w2.heap.size w3.heap.size)) w0.heap.size w1.heap.size w2.heap.size w3.heap.size := hX.kept hk ⟨.inr (by omega), .inr (by omega), .inr (by omega), .inr (by omega), .inr (by omega), .inr (by omega), .inr (by omega)⟩
  refine bodyPost_ret (v := .agg (kindsV w0.heap.size w2.heap.size w3.heap.size)) ?_ rfl ⟨⟨_, _, _, _, rfl, hY, fun k hk => by have := HB.out.2.1; unfold BoxB at hk; omega⟩, HB.out.1.trans (hk.below fun k h => .inl h)⟩
  exact results_cell_row rfl _ _ w.heap.size _ _ (0, 0) _ rfl (setRow_heap _ _ _ _ _ _ hb4.out) Tryz.underlying185 rfl (infoKinds.trans rfl)
end FmtC
section FmtD
open Go.RowKit Fx

def usedB (fs : List Fld) (i : Int) : Bool := fs.any fun g => decide (g.frm = i)
/-- The cells of formats whose fields lie where these values say. -/
def flatM : List Fm → List Value → List Value
  | f :: t, v :: vs => .int .i64 f.id :: v :: flatM t vs
  | _, _ => []
theorem flatM_len : ∀ {d : List Fm} {vs : List Value}, vs.length = d.length → (flatM d vs).length = d.length * 2
  | [], _, _ => by simp [flatM]
  | f :: t, [], h => by simp at h
  | f :: t, v :: vs, h => by
    have := flatM_len (d := t) (vs := vs) (by simpa using h)
    simp only [flatM, List.length_cons, this]; omega
theorem flatM_snoc : ∀ {d : List Fm} {vs : List Value} {f : Fm} {v : Value}, vs.length = d.length → flatM (d ++ [f]) (vs ++ [v]) = flatM d vs ++ [.int .i64 f.id, v]
  | [], [], _, _, _ => rfl
  | [], _ :: _, _, _, h => by simp at h
  | _ :: _, [], _, _, h => by simp at h
  | g :: t, u :: vs, f, v, h => by
    have := flatM_snoc (d := t) (vs := vs) (f := f) (v := v) (by simpa using h)
    simp only [List.cons_append, flatM, this]
theorem flatM_get : ∀ {d : List Fm} {vs : List Value} {i : Nat}, vs.length = d.length → i < d.length → (flatM d vs)[i * 2]? = some (.int .i64 (d.getD i zm).id) ∧ (flatM d vs)[i * 2 + 1]? = some (vs.getD i undef)
  | [], _, _, _, h => by simp at h
  | _ :: _, [], _, h, _ => by simp at h
  | g :: t, u :: vs, 0, _, _ => by simp [flatM]
  | g :: t, u :: vs, i + 1, h, hi => by
    have := flatM_get (d := t) (vs := vs) (i := i) (by simpa using h) (by simpa using hi)
    simp only [flatM]
    rw [show (i + 1) * 2 = (i * 2 + 1) + 1 by omega]
    simpa using this

/-- What of a table stands when the open format is complete. -/
structure Core (w : World) (P : Nat → Prop) (tb : Nat) (s : St) (cs : Array Value) (mb b1 b2 c b3 : Nat) (vF : Value) (vs : List Value) : Prop where
  blk : Blk w tb 190 cs
  sz : cs.size = 56
  kinds : ∀ i, i < 35 → cs[i]? = (kindsV b1 c b3)[i]?
  cF : cs[35]? = some vF
  cM : cs[36]? = some (.map (some mb))
  cI : cs[37]? = some (.int .i64 s.o.id)
  boxes : Boxes w b1 b2 c b3
  map : MapIs w mb (lm s.d)
  rowF : w.ownsRow 0 52 2 vF s.d.length (flatM s.d vs)
  vsl : vs.length = s.d.length
  done : ∀ i, i < s.d.length → w.ownsRow 0 56 4 (vs.getD i undef) (s.d.getD i zm).fs.length (flat (s.d.getD i zm).fs)
  pin : ∀ k, P k → k < w.heap.size
  pT : ¬ P tb
  pM : ¬ P mb
  pF : ∀ g, vF.ownBlock = some g → ¬ P g
  pB : ∀ k, BoxB b1 b2 c b3 k → ¬ P k
/-- What stands besides while a format is read. -/
structure Open (w : World) (P : Nat → Prop) (s : St) (cs : Array Value) (vs : List Value) (vO : Value) : Prop where
  cO : cs[38]? = some vO
  cL : cs[39]? = some (.int .i64 (ls (lm s.d) s.o.fs))
  cU : ∀ i : Nat, i < 16 → cs[40 + i]? = some (.bool (usedB s.o.fs i))
  rowO : w.ownsRow 0 56 4 vO s.o.fs.length (flat s.o.fs)
  pO : ∀ g, vO.ownBlock = some g → ¬ P g
  apart : ∀ i, i < s.d.length → ∀ g, vO.ownBlock = some g → (vs.getD i undef).ownBlock ≠ some g
/-- A table whose formats are complete. -/
def TabEnd (w : World) (P : Nat → Prop) (tb : Nat) (s : St) : Prop := ∃ cs mb b1 b2 c b3 vF vs, Core w P tb s cs mb b1 b2 c b3 vF vs
/-- A table that is read. -/
def TabAt (w : World) (P : Nat → Prop) (tb : Nat) (s : St) : Prop := ∃ cs mb b1 b2 c b3 vF vs vO, Core w P tb s cs mb b1 b2 c b3 vF vs ∧ Open w P s cs vs vO
theorem TabAt.end_ {w : World} {P : Nat → Prop} {tb : Nat} {s : St} (h : TabAt w P tb s) : TabEnd w P tb s := by
  obtain ⟨cs, mb, b1, b2, c, b3, vF, vs, vO, h1, _⟩ := h
  exact ⟨cs, mb, b1, b2, c, b3, vF, vs, h1⟩

theorem ownsRow_below {w w' : World} {B : Nat} {e : TypeId} {sz : Nat} {v : Value} {n : Nat} {xs : List Value} (h : w.ownsRow B e sz v n xs) (hb : Below w.heap.size w w') : w'.ownsRow B e sz v n xs := by
  refine ⟨h.1, ?_⟩
  rcases h.2 with hn | ⟨g, cap, cur, rfl, hg, hh, r⟩
  · exact .inl hn
  · exact .inr ⟨g, cap, cur, rfl, hg, (hb.block g (lt_of_heap hh)).trans hh, r⟩
theorem own_keep {w w' : World} {B : Nat} {e : TypeId} {sz : Nat} {v : Value} {n : Nat} {xs : List Value} (h : w.ownsRow B e sz v n xs) (hb : ∀ g cur, v.ownBlock = some g → w.heap[g]? = some (.cells cur e (0, 0)) → w'.heap[g]? = w.heap[g]?) : w'.ownsRow B e sz v n xs := by
  refine ⟨h.1, ?_⟩
  rcases h.2 with hn | ⟨g, cap, cur, rfl, hg, hh, r⟩
  · exact .inl hn
  · exact .inr ⟨g, cap, cur, rfl, hg, (hb g cur rfl hh).trans hh, r⟩
theorem own_heap {w : World} {B : Nat} {e : TypeId} {sz : Nat} {v : Value} {n : Nat} {xs : List Value} (h : w.ownsRow B e sz v n xs) {g : Nat} (hg : v.ownBlock = some g) : ∃ cur, w.heap[g]? = some (.cells cur e (0, 0)) := by
  rcases h.2 with ⟨rfl, _⟩ | ⟨g', cap, cur, rfl, _, hh, _⟩
  · simp [Value.ownBlock] at hg
  · have : g' = g := by simpa [Value.ownBlock] using hg
    subst this
    exact ⟨cur, hh⟩
theorem MapIs.heap_ne {w : World} {mb : Nat} {m : List (Int × Int)} (h : MapIs w mb m) {g : Nat} {cur : Array Value} {t : TypeId} {fr : Nat × Nat} (hg : w.heap[g]? = some (.cells cur t fr)) : g ≠ mb := by
  rintro rfl
  obtain ⟨n, D, _, ⟨es, clock, h1, _⟩, _⟩ := h.is
  rw [h1] at hg
  cases hg
theorem Blk.below {w w' : World} {g : Nat} {t : TypeId} {cs : Array Value} (h : Blk w g t cs) (hb : Below w.heap.size w w') : Blk w' g t cs := (hb.block g h.lt).trans h
theorem Core.below {w w' : World} {P : Nat → Prop} {tb : Nat} {s : St} {cs : Array Value} {mb b1 b2 c b3 : Nat} {vF : Value} {vs : List Value} (h : Core w P tb s cs mb b1 b2 c b3 vF vs) (hb : Below w.heap.size w w') : Core w' P tb s cs mb b1 b2 c b3 vF vs :=
  ⟨h.blk.below hb, h.sz, h.kinds, h.cF, h.cM, h.cI, h.boxes.below hb, h.map.of_block (hb.block _ h.map.lt), ownsRow_below h.rowF hb, h.vsl, fun i hi => ownsRow_below (h.done i hi) hb, fun k hk => Nat.lt_of_lt_of_le (h.pin k hk) hb.size, h.pT, h.pM, h.pF, h.pB⟩
theorem Open.below {w w' : World} {P : Nat → Prop} {s : St} {cs : Array Value} {vs : List Value} {vO : Value} (h : Open w P s cs vs vO) (hb : Below w.heap.size w w') : Open w' P s cs vs vO :=
  ⟨h.cO, h.cL, h.cU, ownsRow_below h.rowO hb, h.pO, h.apart⟩
theorem TabEnd.below {w w' : World} {P : Nat → Prop} {tb : Nat} {s : St} (h : TabEnd w P tb s) (hb : Below w.heap.size w w') : TabEnd w' P tb s := by
  obtain ⟨cs, mb, b1, b2, c, b3, vF, vs, h1⟩ := h
  exact ⟨cs, mb, b1, b2, c, b3, vF, vs, h1.below hb⟩
theorem TabAt.below {w w' : World} {P : Nat → Prop} {tb : Nat} {s : St} (h : TabAt w P tb s) (hb : Below w.heap.size w w') : TabAt w' P tb s := by
  obtain ⟨cs, mb, b1, b2, c, b3, vF, vs, vO, h1, h2⟩ := h
  exact ⟨cs, mb, b1, b2, c, b3, vF, vs, vO, h1.below hb, h2.below hb⟩
theorem own_lt {w : World} {B : Nat} {e : TypeId} {sz : Nat} {v : Value} {n : Nat} {xs : List Value} (h : w.ownsRow B e sz v n xs) {g : Nat} (hg : v.ownBlock = some g) : g < w.heap.size := (h.lt g hg).2
/-- What is made behind a table is kept as well. -/
theorem TabAt.widen {w w' : World} {P : Nat → Prop} {tb : Nat} {s : St} (h : TabAt w P tb s) (hb : Below w.heap.size w w') : TabAt w' (fun k => P k ∨ (w.heap.size ≤ k ∧ k < w'.heap.size)) tb s := by
  obtain ⟨cs, mb, b1, b2, c, b3, vF, vs, vO, h1, h2⟩ := h
  have k1 := h1.below hb
  have k2 := h2.below hb
  refine ⟨cs, mb, b1, b2, c, b3, vF, vs, vO, { k1 with pin := ?_, pT := ?_, pM := ?_, pF := ?_, pB := ?_ }, { k2 with pO := ?_ }⟩
  · rintro k (hk | hk)
    · exact k1.pin k hk
    · exact hk.2
  · rintro (hk | hk)
    · exact h1.pT hk
    · have := h1.blk.lt; omega
  · rintro (hk | hk)
    · exact h1.pM hk
    · have := h1.map.lt; omega
  · rintro g hg (hk | hk)
    · exact h1.pF g hg hk
    · have := own_lt h1.rowF hg; omega
  · rintro k hB (hk | hk)
    · exact h1.pB k hB hk
    · have := h1.boxes.lt; unfold BoxB at hB; omega
  · rintro g hg (hk | hk)
    · exact h2.pO g hg hk
    · have := own_lt h2.rowO hg; omega
/-- .. and need not be kept any more. -/
theorem TabEnd.narrow {w : World} {P Q : Nat → Prop} {tb : Nat} {s : St} (h : TabEnd w P tb s) (hq : ∀ k, Q k → P k) : TabEnd w Q tb s := by
  obtain ⟨cs, mb, b1, b2, c, b3, vF, vs, h1⟩ := h
  exact ⟨cs, mb, b1, b2, c, b3, vF, vs, { h1 with pin := fun k hk => h1.pin k (hq k hk), pT := fun hk => h1.pT (hq _ hk), pM := fun hk => h1.pM (hq _ hk), pF := fun g hg hk => h1.pF g hg (hq _ hk), pB := fun k hB hk => h1.pB k hB (hq _ hk) }⟩

/-! the empty table -/
/-- The cells of a new table. -/
def newV (b1 c b3 mb : Nat) : Array Value :=
  #[.string ⟨#[]⟩, .nilFunc, .nilFunc, .nilFunc, .nilFunc,
    .string ⟨#[108, 105, 116, 101, 114, 97, 108]⟩, clo 121 #[], clo 123 #[], clo 124 #[], clo 126 #[],
    .string ⟨#[110, 117, 109, 98, 101, 114]⟩, clo 140 #[adr b1, adr (b1 + 1)], clo 141 #[], clo 142 #[], clo 144 #[],
    .string ⟨#[98, 121, 116, 101, 115]⟩, clo 146 #[adr c], clo 141 #[], clo 148 #[adr c], clo 149 #[],
    .string ⟨#[108, 105, 115, 116]⟩, clo 130 #[], clo 131 #[], clo 132 #[], clo 133 #[],
    .string ⟨#[105, 110, 115, 105, 100, 101]⟩, clo 134 #[], clo 136 #[], clo 132 #[], clo 133 #[],
    .string ⟨#[99, 104, 101, 99, 107]⟩, clo 140 #[adr b3, adr (b3 + 1)], clo 141 #[], clo 142 #[], clo 144 #[],
    .slice none 0 0, .map (some mb), .int .i64 0, .slice none 0 0, .int .i64 0, .bool false, .bool false, .bool false, .bool false, .bool false, .bool false, .bool false, .bool false, .bool false, .bool false, .bool false, .bool false, .bool false, .bool false, .bool false, .bool false]
theorem newV_kinds (b1 c b3 mb i : Nat) (h : i < 35) : (newV b1 c b3 mb)[i]? = (kindsV b1 c b3)[i]? := by
  match i, h with
  | 0, _ => rfl
  | 1, _ => rfl
  | 2, _ => rfl
  | 3, _ => rfl
  | 4, _ => rfl
  | 5, _ => rfl
  | 6, _ => rfl
  | 7, _ => rfl
  | 8, _ => rfl
  | 9, _ => rfl
  | 10, _ => rfl
  | 11, _ => rfl
  | 12, _ => rfl
  | 13, _ => rfl
  | 14, _ => rfl
  | 15, _ => rfl
  | 16, _ => rfl
  | 17, _ => rfl
  | 18, _ => rfl
  | 19, _ => rfl
  | 20, _ => rfl
  | 21, _ => rfl
  | 22, _ => rfl
  | 23, _ => rfl
  | 24, _ => rfl
  | 25, _ => rfl
  | 26, _ => rfl
  | 27, _ => rfl
  | 28, _ => rfl
  | 29, _ => rfl
  | 30, _ => rfl
  | 31, _ => rfl
  | 32, _ => rfl
  | 33, _ => rfl
  | 34, _ => rfl
  | k + 35, h => omega
theorem newV_used (b1 c b3 mb i : Nat) (h : i < 16) : (newV b1 c b3 mb)[40 + i]? = some (.bool false) := by
  match i, h with
  | 0, _ => rfl
  | 1, _ => rfl
  | 2, _ => rfl
  | 3, _ => rfl
  | 4, _ => rfl
  | 5, _ => rfl
  | 6, _ => rfl
  | 7, _ => rfl
  | 8, _ => rfl
  | 9, _ => rfl
  | 10, _ => rfl
  | 11, _ => rfl
  | 12, _ => rfl
  | 13, _ => rfl
  | 14, _ => rfl
  | 15, _ => rfl
  | k + 16, h => omega
set_option maxHeartbeats 1000000 in
theorem empty_any (P : Nat → Prop) (w : World) (hP : ∀ k, P k → k < w.heap.size) :
    Calls Tryz.prog 111 #[] w fun e w' => (∃ tb, e = .returned (adr tb) ∧ TabAt w' P tb st0) ∧ Below w.heap.size w w' := by
  have hmm := @run_makeMap Tryz.prog
  go_enter Tryz.func111, Tryz.ntmps111
  go_wp2_with fail
  refine (kinds_any _).mono ?_
  rintro e w1 ⟨⟨b1, b2, c, b3, rfl, hX, hbb⟩, hB⟩
  have HX := Lib.hid hX
  have HB := Lib.hid hB
  have HBB := Lib.hid hbb
  clear hX hB hbb
  unfold kindsV
  go_wp2_with fail
  have s1 := HB.out.size
  have hb2 : ∀ o1 o2 : Obj, Below w1.heap.size w1 ((w1.alloc o1).alloc o2) := fun o1 o2 => ((Below.refl _ _).alloc (Nat.le_refl _) _).alloc (by simp) _
  have hT : TabAt ((w1.alloc (.map #[] 0)).alloc (.cells (newV b1 c b3 w1.heap.size) 190)) P (w1.heap.size + 1) st0 := by
    refine ⟨newV b1 c b3 w1.heap.size, w1.heap.size, b1, b2, c, b3, .slice none 0 0, [], .slice none 0 0, ?_, ?_⟩
    · exact ⟨heap_alloc2_new _ _ _, rfl, fun i hi => newV_kinds _ _ _ _ i hi, rfl, rfl, rfl, HX.out.below (hb2 _ _), (MapIs.made w1).of_block (Below.heap_alloc _ _ _ (by simp)), World.ownsRow_nil _ _ _ _, rfl, fun i hi => absurd hi (by simp [st0]),
        fun k hk => by have := hP k hk; simp; omega, fun hk => by have := hP _ hk; omega, fun hk => by have := hP _ hk; omega, fun g hg => by simp [Value.ownBlock] at hg, fun k hk hP1 => by have := HBB.out k hk; have := hP k hP1; omega⟩
    · exact ⟨rfl, rfl, fun i hi => newV_used _ _ _ _ i hi, World.ownsRow_nil _ _ _ _, fun g hg => by simp [Value.ownBlock] at hg, fun i hi => absurd hi (by simp [st0])⟩
  go_ret
  exact ⟨⟨w1.heap.size + 1, rfl, hT⟩, HB.out.trans ((hb2 _ _).mono s1)⟩
end FmtD
section FmtE
open Go.RowKit Fx Go.Sort

/-- A field's numbers are ints, and its text is no longer than a text can be. -/
structure Ints (f : Fld) : Prop where
  k1 : -9223372036854775808 ≤ f.kind
  k2 : f.kind ≤ 9223372036854775807
  n1 : -9223372036854775808 ≤ f.n
  n2 : f.n ≤ 9223372036854775807
  f1 : -9223372036854775808 ≤ f.frm
  f2 : f.frm ≤ 9223372036854775807
  t : f.text.size ≤ 9223372036854775807

theorem bdn {B : Nat} {a w : World} (h : Below B a w) (n : Nat) : Below B a (w.drewN n) := ⟨h.os, h.tape, h.output, h.size, h.block⟩
theorem MapIs.look_drews {w : World} {mb : Nat} {m : List (Int × Int)} (h : MapIs w mb m) {id : Int} (h1 : -9223372036854775808 ≤ id) (h2 : id ≤ 9223372036854775807) (k : Nat) :
    (Instr.lookup 187 (.map (some mb)) (.int .i64 id) false).run Tryz.prog (w.drewN k) = .ok (.int .i64 (lkz m id)) (w.drewN k) := (h.of_block (w' := w.drewN k) rfl).look_ h1 h2

theorem knows_any (P : Nat → Prop) (tb : Nat) (s : St) (id : Int) (v : Bool) (w : World) (hT : TabAt w P tb s) (h1 : -9223372036854775808 ≤ id) (h2 : id ≤ 9223372036854775807) (hv : knows (lm s.d) id = v) :
    Calls Tryz.prog 150 #[adr tb, .int .i64 id] w fun e w' => e = .returned (.bool v) ∧ w = w' := by
  obtain ⟨cs, mb, b1, b2, c, b3, vF, vs, vO, hC, hO⟩ := hT
  have c36 : w.cell? ⟨tb, 36, none⟩ = some (.map (some mb)) := (hC.blk.cell 36).trans hC.cM
  have hl := hC.blk.lt
  have hr := hC.map.look_ok h1 h2
  rw [hv] at hr
  clear hv hC hO
  go_enter Tryz.func150, Tryz.ntmps150
  go_wp2
  go_ret
  exact ⟨rfl, rfl⟩
theorem lookLen_any (P : Nat → Prop) (tb : Nat) (s : St) (f : Fld) (w : World) (hT : TabAt w P tb s) (hf : Ints f) :
    Calls Tryz.prog 136 #[adr tb, fldV f] w fun e w' => e = .returned (.int .i64 (lkz (lm s.d) f.n)) ∧ Below w.heap.size w w' := by
  have HT := Lib.hid (hT.below (bx (.cells #[.int .i64 f.kind, .int .i64 f.n, .int .i64 f.frm, .string f.text] 56)))
  have HF := Lib.hid hf
  clear hT hf
  go_enter Tryz.func136, Tryz.ntmps136
  go_wp2
  obtain ⟨cs, mb, b1, b2, c, b3, vF, vs, vO, hC, hO⟩ := HT.out
  have c36 := (hC.blk.cell 36).trans hC.cM
  have hl := hC.blk.lt
  have hr := hC.map.look_drews HF.out.n1 HF.out.n2
  clear hC hO
  go_quiet (fail)
  go_wp2
  go_ret
  exact ⟨rfl, bdn (bx _) _⟩
theorem own_slice {w : World} {B : Nat} {e : TypeId} {sz : Nat} {v : Value} {n : Nat} {xs : List Value} (h : w.ownsRow B e sz v n xs) : ∃ a c, v = .slice a n c ∧ n ≤ c ∧ c ≤ maxLen := by
  rcases h.2 with ⟨rfl, rfl⟩ | ⟨g, cap, cur, rfl, _, _, h1, h2, _⟩
  · exact ⟨none, 0, rfl, Nat.le_refl _, Nat.zero_le _⟩
  · exact ⟨_, _, rfl, h1, h2⟩
theorem own_flds {w : World} {v : Value} {fs : List Fld} (h : w.ownsRow 0 56 4 v fs.length (flat fs)) (h0 : 1 ≤ fs.length) :
    ∃ g cap, v = .slice (some ⟨g, 0, none⟩) fs.length cap ∧ g < w.heap.size ∧ fs.length ≤ cap ∧ cap ≤ maxLen ∧ ∀ i, i < fs.length → FldAt w g (i * 4) (fs.getD i zf) := by
  rcases FldsAt.of_own h with ⟨a, c, _, h1⟩ | ⟨b, off, cap, rfl, _, h2, h3, h4, h5⟩
  · rw [h1] at h0; simp at h0
  · rcases h.2 with ⟨h6, _⟩ | ⟨g, cap', cur, h6, _⟩
    · cases h6
    · have e : (⟨b, off, none⟩ : Addr) = ⟨g, 0, none⟩ := by injection h6 with h6; injection h6
      injection e with e1 e2
      subst e1; subst e2
      exact ⟨_, _, rfl, h4, h2, h3, fun i hi => by have := h5 i hi; rwa [Nat.zero_add] at this⟩

set_option maxHeartbeats 1000000 in
theorem counts_any (P : Nat → Prop) (tb : Nat) (s : St) (q : Int) (v : Bool) (w : World) (hT : TabAt w P tb s) (hl : s.o.fs.length ≤ 16) (hv : counts s.o.fs q = v) :
    Calls Tryz.prog 147 #[adr tb, .int .i64 q] w fun e w' => e = .returned (.bool v) ∧ w = w' := by
  have HV := Lib.hid hv
  clear hv
  obtain ⟨cs, mb, b1, b2, c, b3, vF, vs, vO, hC, hO⟩ := hT
  have c38 : w.cell? ⟨tb, 38, none⟩ = some vO := (hC.blk.cell 38).trans hO.cO
  have hbl := hC.blk.lt
  by_cases h1 : 0 ≤ q
  · obtain ⟨Q, rfl⟩ : ∃ Q : Nat, (Q : Int) = q := ⟨q.toNat, by omega⟩
    obtain ⟨n, hn⟩ : ∃ n, n = s.o.fs.length := ⟨_, rfl⟩
    by_cases h2 : Q < n
    · obtain ⟨g, cap, rfl, h3, h4, h5, h6⟩ := own_flds hO.rowO (by omega)
      have hc := (h6 Q (by omega)).c0
      obtain ⟨K, hK⟩ : ∃ K, K = (s.o.fs.getD Q zf).kind := ⟨_, rfl⟩
      rw [← hK] at hc
      have hu : w.cell? ⟨tb, 40 + Q, none⟩ = some (.bool (usedB s.o.fs Q)) := (hC.blk.cell _).trans (hO.cU Q (by omega))
      obtain ⟨U, hU⟩ : ∃ U, U = usedB s.o.fs Q := ⟨_, rfl⟩
      rw [← hU] at hu
      rw [← hn] at c38 h4
      have HR : Hid ((decide (K = 2) && !U) = v) := Lib.hid (by
        rw [← HV.out, hK, hU]; unfold counts usedB
        rw [decide_eq_true h1, decide_eq_true (show (Q : Int) < s.o.fs.length by omega)]; simp)
      have hn16 : n ≤ 16 := by omega
      have h2' : (Q : Int) < n := by omega
      clear hC hO h6 HV hK hU hn hl
      unfold maxLen at h5
      by_cases hk : K = 2
      · have hk2 : ((K : Int) == 2) = true := by simpa using hk
        have HR2 : Hid ((!U) = v) := Lib.hid (by rw [← HR.out, hk]; rfl)
        clear hk HR
        go_enter Tryz.func147, Tryz.ntmps147
        go_wp2_with fail
        go_ret
        exact ⟨ret_bool HR2.out, rfl⟩
      · have hk2 : ((K : Int) == 2) = false := by simpa using hk
        have HR2 : Hid (false = v) := Lib.hid (by rw [← HR.out]; simp [hk])
        clear hk HR
        go_enter Tryz.func147, Tryz.ntmps147
        go_wp2_with fail
        go_ret
        exact ⟨ret_bool HR2.out, rfl⟩
    · obtain ⟨a, cp, rfl, _, _⟩ := own_slice hO.rowO
      have HR2 : Hid (false = v) := Lib.hid (by
        rw [← HV.out]; unfold counts
        rw [decide_eq_true h1, decide_eq_false (show ¬ (Q : Int) < s.o.fs.length by omega)]; rfl)
      have h2' : decide (Q < n) = false := by simpa using h2
      have h2'' : ¬ (Q : Int) < n := by omega
      rw [← hn] at c38
      clear hC hO HV h2 hn hl
      go_enter Tryz.func147, Tryz.ntmps147
      go_wp2_with fail
      go_ret
      exact ⟨ret_bool HR2.out, rfl⟩
  · have h1' : decide (0 ≤ q) = false := by simpa using h1
    have HR2 : Hid (false = v) := Lib.hid (by rw [← HV.out]; unfold counts; rw [decide_eq_false h1]; rfl)
    clear hC hO HV hl c38
    go_enter Tryz.func147, Tryz.ntmps147
    go_wp2_with fail
    go_ret
    exact ⟨ret_bool HR2.out, rfl⟩

/-- tells, of a number that is there. -/
theorem tells_any (P : Nat → Prop) (tb : Nat) (s : St) (Q : Nat) (n : Int) (N : Nat) (v : Bool) (w : World) (hT : TabAt w P tb s) (hQ : Q < s.o.fs.length) (hl : s.o.fs.length ≤ 16) (hN : (s.o.fs.getD Q zf).n = N) (h1 : 1 ≤ N) (h3 : N ≤ 3)
    (hv : decide (n < 2 ^ (8 * N)) = v) :
    Calls Tryz.prog 135 #[adr tb, .int .i64 (Q : Nat), .int .i64 n] w fun e w' => e = .returned (.bool v) ∧ w = w' := by
  have HV := Lib.hid hv
  clear hv
  obtain ⟨cs, mb, b1, b2, c, b3, vF, vs, vO, hC, hO⟩ := hT
  have c38 : w.cell? ⟨tb, 38, none⟩ = some vO := (hC.blk.cell 38).trans hO.cO
  have hbl := hC.blk.lt
  obtain ⟨L, hL⟩ : ∃ L, L = s.o.fs.length := ⟨_, rfl⟩
  obtain ⟨g, cap, rfl, h3', h4, h5, h6⟩ := own_flds hO.rowO (by omega)
  have hc := (h6 Q (by omega)).c1
  rw [hN] at hc
  rw [← hL] at c38 h4 hQ hl
  clear hC hO h6 hL hN
  unfold maxLen at h5
  obtain rfl | rfl | rfl : N = 1 ∨ N = 2 ∨ N = 3 := by omega
  all_goals
    clear h1 h3
    go_enter Tryz.func135, Tryz.ntmps135
    go_wp2_with fail
    go_ret
    exact ⟨ret_bool HV.out, rfl⟩

theorem emp_of {t : ByteArray} (h : t.size = 0) : t.toList = [] ∧ t.toList.isEmpty = true := by
  have := (str_empty t).2 h
  exact ⟨this, by rw [this]; rfl⟩
theorem emp_not {t : ByteArray} (h : ¬ t.size = 0) : (¬ t.toList = []) ∧ t.toList.isEmpty = false := by
  have h2 : ¬ t.toList = [] := fun e => h ((str_empty t).1 e)
  exact ⟨h2, by simpa using h2⟩
set_option maxHeartbeats 1000000 in
theorem nests_any (P : Nat → Prop) (tb : Nat) (s : St) (f : Fld) (v : Bool) (w : World) (hT : TabAt w P tb s) (hl : s.o.fs.length ≤ 16) (hf : Ints f) (hv : Fx.nests (lm s.d) s.o.fs f = v) :
    Calls Tryz.prog 130 #[adr tb, fldV f] w fun e w' => e = .returned (.bool v) ∧ Below w.heap.size w w' := by
  have HT := Lib.hid (hT.below (bx (.cells #[.int .i64 f.kind, .int .i64 f.n, .int .i64 f.frm, .string f.text] 56)))
  have HF := Lib.hid hf
  have HL := Lib.hid hl
  have HV := Lib.hid hv
  clear hT hf hl hv
  by_cases h1 : f.text.size = 0
  · obtain ⟨e1, e2⟩ := emp_of h1
    obtain ⟨k, hk⟩ : ∃ k, knows (lm s.d) f.n = k := ⟨_, rfl⟩
    cases k with
    | true =>
      obtain ⟨u, hu⟩ : ∃ u, counts s.o.fs f.frm = u := ⟨_, rfl⟩
      have HR : Hid (u = v) := Lib.hid (by rw [← hu, ← HV.out]; unfold Fx.nests; rw [decide_eq_true h1, hk]; rfl)
      have HK := Lib.hid (And.intro hk hu)
      clear hk hu h1 HV
      go_enter Tryz.func130, Tryz.ntmps130
      go_wp2_with fail
      refine (knows_any P tb s f.n true _ HT.out HF.out.n1 HF.out.n2 HK.out.1).mono ?_
      rintro e w' ⟨rfl, rfl⟩
      go_wp2_with fail
      refine (counts_any P tb s f.frm u _ HT.out HL.out HK.out.2).mono ?_
      rintro e w' ⟨rfl, rfl⟩
      go_wp2_with fail
      go_ret
      exact ⟨ret_bool HR.out, bx _⟩
    | false =>
      have HR : Hid (false = v) := Lib.hid (by rw [← HV.out]; unfold Fx.nests; rw [decide_eq_true h1, hk]; rfl)
      have HK := Lib.hid hk
      clear hk h1 HV
      go_enter Tryz.func130, Tryz.ntmps130
      go_wp2_with fail
      refine (knows_any P tb s f.n false _ HT.out HF.out.n1 HF.out.n2 HK.out).mono ?_
      rintro e w' ⟨rfl, rfl⟩
      go_wp2_with fail
      go_ret
      exact ⟨ret_bool HR.out, bx _⟩
  · obtain ⟨e1, e2⟩ := emp_not h1
    have HR : Hid (false = v) := Lib.hid (by rw [← HV.out]; unfold Fx.nests; rw [decide_eq_false h1]; rfl)
    clear h1 HV
    go_enter Tryz.func130, Tryz.ntmps130
    go_wp2_with fail
    go_ret
    exact ⟨ret_bool HR.out, bx _⟩

/-- The numbers among fields have 1 to 3 bytes. -/
def NumsOk (fs : List Fld) : Prop := ∀ i, i < fs.length → (fs.getD i zf).kind = 2 → 1 ≤ (fs.getD i zf).n ∧ (fs.getD i zf).n ≤ 3
theorem TabAt.look_ {w : World} {P : Nat → Prop} {tb : Nat} {s : St} (h : TabAt w P tb s) : ∃ mb, w.cell? ⟨tb, 36, none⟩ = some (.map (some mb)) ∧ MapIs w mb (lm s.d) := by
  obtain ⟨cs, mb, b1, b2, c, b3, vF, vs, vO, hC, hO⟩ := h
  exact ⟨mb, (hC.blk.cell 36).trans hC.cM, hC.map⟩
set_option maxHeartbeats 1000000 in
theorem inside_any (P : Nat → Prop) (tb : Nat) (s : St) (f : Fld) (v : Bool) (w : World) (hT : TabAt w P tb s) (hl : s.o.fs.length ≤ 16) (hN : NumsOk s.o.fs) (hf : Ints f) (hv : (Fx.nests (lm s.d) s.o.fs f && tells (lm s.d) s.o.fs f) = v) :
    Calls Tryz.prog 134 #[adr tb, fldV f] w fun e w' => e = .returned (.bool v) ∧ Below w.heap.size w w' := by
  have HT := Lib.hid (hT.below (bx (.cells #[.int .i64 f.kind, .int .i64 f.n, .int .i64 f.frm, .string f.text] 56)))
  have HF := Lib.hid hf
  have HL := Lib.hid hl
  obtain ⟨u, hu⟩ : ∃ u, Fx.nests (lm s.d) s.o.fs f = u := ⟨_, rfl⟩
  have HU := Lib.hid hu
  cases u with
  | true =>
    have hc := counts_of (nests_of hu).2.2
    obtain ⟨Q, hQ⟩ : ∃ Q : Nat, (Q : Int) = f.frm := ⟨f.frm.toNat, by omega⟩
    have hQl : Q < s.o.fs.length := by omega
    have hQt : f.frm.toNat = Q := by omega
    have h3 := hc.2.2.1
    rw [hQt] at h3
    have hn := hN Q hQl h3
    obtain ⟨N, hNN⟩ : ∃ N : Nat, (s.o.fs.getD Q zf).n = N := ⟨(s.o.fs.getD Q zf).n.toNat, by omega⟩
    rw [hNN] at hn
    have HA := Lib.hid (And.intro hQl (And.intro hNN hn))
    have HR : Hid (decide (lkz (lm s.d) f.n < 2 ^ (8 * N)) = v) := Lib.hid (by
      rw [← hv, hu, Bool.true_and]; unfold tells
      rw [hQt, hNN]; congr 1)
    have HQ := Lib.hid hQ
    clear hT hf hl hN hv hu hc hQl hQt h3 hn hNN
    go_enter Tryz.func134, Tryz.ntmps134
    go_wp2_with fail
    obtain ⟨w0, hw0⟩ : ∃ w0, w0 = w.alloc (.cells #[.int .i64 f.kind, .int .i64 f.n, .int .i64 f.frm, .string f.text] 56) := ⟨_, rfl⟩
    rw [← hw0]
    have k0 : w0.cell? ⟨w.heap.size, 0, none⟩ = some (.int .i64 f.kind) := by rw [hw0]; simp [go_sem]
    have k1 : w0.cell? ⟨w.heap.size, 1, none⟩ = some (.int .i64 f.n) := by rw [hw0]; simp [go_sem]
    have k2 : w0.cell? ⟨w.heap.size, 2, none⟩ = some (.int .i64 f.frm) := by rw [hw0]; simp [go_sem]
    have k3 : w0.cell? ⟨w.heap.size, 3, none⟩ = some (.string f.text) := by rw [hw0]; simp [go_sem]
    have HT0 : Hid (TabAt w0 P tb s) := Lib.hid (by rw [hw0]; exact HT.out)
    have HB0 : Hid (Below w.heap.size w w0) := Lib.hid (by rw [hw0]; exact bx _)
    clear hw0 HT
    obtain ⟨mb, hc, hm⟩ := HT0.out.look_
    have g0 := fun d os => cell_regrown k0 d os
    have g1 := fun d os => cell_regrown k1 d os
    have g2 := fun d os => cell_regrown k2 d os
    have g3 := fun d os => cell_regrown k3 d os
    have gc := fun d os => cell_regrown hc d os
    have hmr : ∀ d os, (Instr.lookup 187 (.map (some mb)) (.int .i64 f.n) false).run Tryz.prog (grow (redrawn w0 d) os) = .ok (.int .i64 (lkz (lm s.d) f.n)) (grow (redrawn w0 d) os) :=
      fun d os => (hm.of_block ((below_regrown w0 d os).block _ hm.lt)).look_ HF.out.n1 HF.out.n2
    have htl := World.block_lt_of_cell? (h := hc)
    have HTL : Hid (∀ d os, Calls Tryz.prog 135 #[adr tb, .int .i64 f.frm, .int .i64 (lkz (lm s.d) f.n)] (grow (redrawn w0 d) os) fun e w' => e = .returned (.bool v) ∧ Below (grow (redrawn w0 d) os).heap.size (grow (redrawn w0 d) os) w') := Lib.hid (fun d os => by
      rw [← HQ.out]
      exact (tells_any P tb s Q _ N v _ (HT0.out.below (below_regrown _ _ _)) HA.out.1 HL.out HA.out.2.1 (by have := HA.out.2.2; omega) (by have := HA.out.2.2; omega) HR.out).mono fun e w' ⟨h1, h2⟩ => ⟨h1, h2 ▸ Below.refl _ _⟩)
    clear hm k0 k1 k2 k3 hc hQ
    refine wp_region_quiet_below (by kernel_rfl) (by kernel_rfl) ?_
    repeat (first | go_big_quiet_step (first | (go_at_call 130; exact Calls.regrown_of (nests_any P tb s f true _ (HT0.out.below (below_regrown _ _ _)) HL.out HF.out HU.out)) | (go_at_call 135; exact Calls.regrown_of (HTL.out _ _))) | quiet_step (first | (go_at_call 130; exact Calls.regrown_of (nests_any P tb s f true _ (HT0.out.below (below_regrown _ _ _)) HL.out HF.out HU.out)) | (go_at_call 135; exact Calls.regrown_of (HTL.out _ _))))
    refine wpQuiet_nil ?_
    intro _ hw'
    obtain ⟨⟨dq, osq⟩, hw''⟩ := hw'
    subst hw''
    go_wp2
    go_ret
    exact ⟨rfl, HB0.out.trans ((below_regrown w0 dq osq).mono HB0.out.size)⟩
  | false =>
    have HR : Hid (false = v) := Lib.hid (by rw [← hv, hu]; rfl)
    clear hT hf hl hN hv hu
    go_enter Tryz.func134, Tryz.ntmps134
    go_wp2_with fail
    obtain ⟨w0, hw0⟩ : ∃ w0, w0 = w.alloc (.cells #[.int .i64 f.kind, .int .i64 f.n, .int .i64 f.frm, .string f.text] 56) := ⟨_, rfl⟩
    rw [← hw0]
    have k0 : w0.cell? ⟨w.heap.size, 0, none⟩ = some (.int .i64 f.kind) := by rw [hw0]; simp [go_sem]
    have k1 : w0.cell? ⟨w.heap.size, 1, none⟩ = some (.int .i64 f.n) := by rw [hw0]; simp [go_sem]
    have k2 : w0.cell? ⟨w.heap.size, 2, none⟩ = some (.int .i64 f.frm) := by rw [hw0]; simp [go_sem]
    have k3 : w0.cell? ⟨w.heap.size, 3, none⟩ = some (.string f.text) := by rw [hw0]; simp [go_sem]
    have HT0 : Hid (TabAt w0 P tb s) := Lib.hid (by rw [hw0]; exact HT.out)
    have HB0 : Hid (Below w.heap.size w w0) := Lib.hid (by rw [hw0]; exact bx _)
    clear hw0 HT
    have g0 := fun d os => cell_regrown k0 d os
    have g1 := fun d os => cell_regrown k1 d os
    have g2 := fun d os => cell_regrown k2 d os
    have g3 := fun d os => cell_regrown k3 d os
    clear k0 k1 k2 k3
    refine wp_region_quiet_below (by kernel_rfl) (by kernel_rfl) ?_
    repeat (first | go_big_quiet_step (first | (go_at_call 130; exact Calls.regrown_of (nests_any P tb s f false _ (HT0.out.below (below_regrown _ _ _)) HL.out HF.out HU.out))) | quiet_step (first | (go_at_call 130; exact Calls.regrown_of (nests_any P tb s f false _ (HT0.out.below (below_regrown _ _ _)) HL.out HF.out HU.out))))
    refine wpQuiet_nil ?_
    intro _ hw'
    obtain ⟨⟨dq, osq⟩, hw''⟩ := hw'
    subst hw''
    go_wp2
    go_ret
    exact ⟨ret_bool HR.out, HB0.out.trans ((below_regrown w0 dq osq).mono HB0.out.size)⟩
end FmtE
section FmtF
open Go.RowKit Fx Go.Sort

theorem TabAt.boxes_ {w : World} {P : Nat → Prop} {tb : Nat} {s : St} (h : TabAt w P tb s) : ∃ b1 b2 c b3, (∀ i, i < 35 → w.cell? ⟨tb, i, none⟩ = (kindsV b1 c b3)[i]?) ∧ Boxes w b1 b2 c b3 ∧ tb < w.heap.size := by
  obtain ⟨cs, mb, b1, b2, c, b3, vF, vs, vO, hC, hO⟩ := h
  exact ⟨b1, b2, c, b3, fun i hi => (hC.blk.cell i).trans (hC.kinds i hi), hC.boxes, hC.blk.lt⟩
set_option maxHeartbeats 1000000 in
theorem counted_any (P : Nat → Prop) (tb c b2 : Nat) (s : St) (f : Fld) (v : Bool) (w : World) (hT : TabAt w P tb s) (hk : w.heap[c]? = some (.cells (sizedV ⟨#[98, 121, 116, 101, 115]⟩ b2) 184 (0, 0)))
    (l2 : w.cell? ⟨b2, 0, none⟩ = some (.int .i64 0)) (h2 : w.cell? ⟨b2 + 1, 0, none⟩ = some (.int .i64 4096)) (hl : s.o.fs.length ≤ 16) (hv : (Fx.sized 0 4096 f || Fx.counted s.o.fs f) = v) :
    Calls Tryz.prog 146 #[adr tb, fldV f, adr c] w fun e w' => e = .returned (.bool v) ∧ Below w.heap.size w w' := by
  have c1 : w.cell? ⟨c, 1, none⟩ = some (clo 140 #[adr b2, adr (b2 + 1)]) := cell_of_row _ _ _ _ _ _ hk
  have hcl := lt_of_heap hk
  have hlt := World.block_lt_of_cell? (h := h2)
  have hlt0 := World.block_lt_of_cell? (h := l2)
  obtain ⟨u, hu⟩ : ∃ u, Fx.sized 0 4096 f = u := ⟨_, rfl⟩
  have HC : Hid (∀ w0, Below w.heap.size w w0 → Calls Tryz.prog 140 #[adr tb, fldV f, adr b2, adr (b2 + 1)] w0 fun e w' => e = .returned (.bool u) ∧ Below w0.heap.size w0 w') := Lib.hid (fun w0 hb =>
    sized_any (adr tb) 0 4096 ⟨b2, 0, none⟩ ⟨b2 + 1, 0, none⟩ f u w0 (((bcell hb).1 _ _ hlt0).trans l2) (((bcell hb).1 _ _ hlt).trans h2) hu)
  have HT := Lib.hid hT
  have HL := Lib.hid hl
  have HV := Lib.hid hv
  have HU := Lib.hid hu
  have HH := Lib.hid hcl
  clear hT hl hv hu hk l2 h2 hlt hlt0
  cases u with
  | true =>
    have HR : Hid (true = v) := Lib.hid (by rw [← HV.out, HU.out]; rfl)
    go_enter Tryz.func146, Tryz.ntmps146
    go_wp2_with fail
    refine (HC.out _ (bx _)).mono ?_
    rintro e w1 ⟨rfl, hB⟩
    go_wp2_with fail
    go_ret
    exact ⟨ret_bool HR.out, (bx _).trans (hB.mono (by simp))⟩
  | false =>
    by_cases h1 : f.n = 0
    · have d1 : ((f.n : Int) == 0) = true := by simpa using h1
      by_cases h2 : f.text.size = 0
      · obtain ⟨e1, e2⟩ := emp_of h2
        obtain ⟨q, hq⟩ : ∃ q, counts s.o.fs f.frm = q := ⟨_, rfl⟩
        have HR : Hid (q = v) := Lib.hid (by rw [← HV.out, HU.out]; unfold counted; rw [decide_eq_true h1, decide_eq_true h2, hq]; rfl)
        have HQ := Lib.hid hq
        clear hq h1 h2
        go_enter Tryz.func146, Tryz.ntmps146
        go_wp2_with fail
        refine (HC.out _ (bx _)).mono ?_
        rintro e w1 ⟨rfl, hB⟩
        obtain ⟨hc, _⟩ := bcell hB
        have x1 : w1.cell? ⟨w.heap.size, 1, none⟩ = some (.int .i64 f.n) := by rw [hc _ _ (by simp)]; simp [go_sem]
        have x2 : w1.cell? ⟨w.heap.size, 2, none⟩ = some (.int .i64 f.frm) := by rw [hc _ _ (by simp)]; simp [go_sem]
        have x3 : w1.cell? ⟨w.heap.size, 3, none⟩ = some (.string f.text) := by rw [hc _ _ (by simp)]; simp [go_sem]
        have HB : Hid (Below w.heap.size w w1) := Lib.hid ((bx _).trans (hB.mono (by simp)))
        clear hc hB
        go_wp2_with fail
        refine (counts_any P tb s f.frm q _ (HT.out.below HB.out) HL.out HQ.out).mono ?_
        rintro e w' ⟨rfl, rfl⟩
        go_wp2_with fail
        go_ret
        exact ⟨ret_bool HR.out, HB.out⟩
      · obtain ⟨e1, e2⟩ := emp_not h2
        have HR : Hid (false = v) := Lib.hid (by rw [← HV.out, HU.out]; unfold counted; rw [decide_eq_true h1, decide_eq_false h2]; rfl)
        clear h1 h2
        go_enter Tryz.func146, Tryz.ntmps146
        go_wp2_with fail
        refine (HC.out _ (bx _)).mono ?_
        rintro e w1 ⟨rfl, hB⟩
        obtain ⟨hc, _⟩ := bcell hB
        have x1 : w1.cell? ⟨w.heap.size, 1, none⟩ = some (.int .i64 f.n) := by rw [hc _ _ (by simp)]; simp [go_sem]
        have x3 : w1.cell? ⟨w.heap.size, 3, none⟩ = some (.string f.text) := by rw [hc _ _ (by simp)]; simp [go_sem]
        have HB : Hid (Below w.heap.size w w1) := Lib.hid ((bx _).trans (hB.mono (by simp)))
        clear hc hB
        go_wp2_with fail
        go_ret
        exact ⟨ret_bool HR.out, HB.out⟩
    · have d1 : ((f.n : Int) == 0) = false := by simpa using h1
      have HR : Hid (false = v) := Lib.hid (by rw [← HV.out, HU.out]; unfold counted; rw [decide_eq_false h1]; rfl)
      clear h1
      go_enter Tryz.func146, Tryz.ntmps146
      go_wp2_with fail
      refine (HC.out _ (bx _)).mono ?_
      rintro e w1 ⟨rfl, hB⟩
      obtain ⟨hc, _⟩ := bcell hB
      have x1 : w1.cell? ⟨w.heap.size, 1, none⟩ = some (.int .i64 f.n) := by rw [hc _ _ (by simp)]; simp [go_sem]
      have HB : Hid (Below w.heap.size w w1) := Lib.hid ((bx _).trans (hB.mono (by simp)))
      clear hc hB
      go_wp2_with fail
      go_ret
      exact ⟨ret_bool HR.out, HB.out⟩

/-! the kinds, as they are called -/
def wordB (K : Nat) : ByteArray := ⟨(wordK K).toArray⟩
def fnR (K : Nat) : FuncId := if K = 1 then 121 else if K = 3 then 146 else if K = 4 then 130 else if K = 5 then 134 else 140
def fnL (K : Nat) : FuncId := if K = 1 then 123 else if K = 4 then 131 else if K = 5 then 136 else 141
def fnW (K : Nat) : FuncId := if K = 1 then 124 else if K = 3 then 148 else if K = 4 ∨ K = 5 then 132 else 142
def fnD (K : Nat) : FuncId := if K = 1 then 126 else if K = 3 then 149 else if K = 4 ∨ K = 5 then 133 else 144
def capR (K b1 c b3 : Nat) : Array Value := if K = 2 then #[adr b1, adr (b1 + 1)] else if K = 3 then #[adr c] else if K = 6 then #[adr b3, adr (b3 + 1)] else #[]
def capW (K c : Nat) : Array Value := if K = 3 then #[adr c] else #[]
/-- The cells of a kind. -/
structure KindAt (w : World) (tb K b1 c b3 : Nat) : Prop where
  c0 : w.cell? ⟨tb, K * 5, none⟩ = some (.string (wordB K))
  c1 : w.cell? ⟨tb, K * 5 + 1, none⟩ = some (clo (fnR K) (capR K b1 c b3))
  c2 : w.cell? ⟨tb, K * 5 + 2, none⟩ = some (clo (fnL K) #[])
  c3 : w.cell? ⟨tb, K * 5 + 3, none⟩ = some (clo (fnW K) (capW K c))
  c4 : w.cell? ⟨tb, K * 5 + 4, none⟩ = some (clo (fnD K) #[])
theorem kindAt_of {w : World} {tb b1 c b3 : Nat} (h : ∀ i, i < 35 → w.cell? ⟨tb, i, none⟩ = (kindsV b1 c b3)[i]?) (K : Nat) (h1 : 1 ≤ K) (h6 : K ≤ 6) : KindAt w tb K b1 c b3 := by
  obtain rfl | rfl | rfl | rfl | rfl | rfl : K = 1 ∨ K = 2 ∨ K = 3 ∨ K = 4 ∨ K = 5 ∨ K = 6 := by omega
  all_goals exact ⟨(h _ (by omega)).trans rfl, (h _ (by omega)).trans rfl, (h _ (by omega)).trans rfl, (h _ (by omega)).trans rfl, (h _ (by omega)).trans rfl⟩
theorem en (f : FuncId) (h : f = 121 ∨ f = 123 ∨ f = 131 ∨ f = 134 ∨ f = 136 ∨ f = 130 ∨ f = 140 ∨ f = 141 ∨ f = 146) : Enters f := by
  rcases h with rfl | rfl | rfl | rfl | rfl | rfl | rfl | rfl | rfl
  · exact enters_of Tryz.func121 (by kernel_rfl) (by kernel_rfl)
  · exact enters_of Tryz.func123 (by kernel_rfl) (by kernel_rfl)
  · exact enters_of Tryz.func131 (by kernel_rfl) (by kernel_rfl)
  · exact enters_of Tryz.func134 (by kernel_rfl) (by kernel_rfl)
  · exact enters_of Tryz.func136 (by kernel_rfl) (by kernel_rfl)
  · exact enters_of Tryz.func130 (by kernel_rfl) (by kernel_rfl)
  · exact enters_of Tryz.func140 (by kernel_rfl) (by kernel_rfl)
  · exact enters_of Tryz.func141 (by kernel_rfl) (by kernel_rfl)
  · exact enters_of Tryz.func146 (by kernel_rfl) (by kernel_rfl)
theorem enR (K : Nat) : Enters (fnR K) := by
  unfold fnR
  apply en
  repeat' split
  all_goals simp
theorem enL (K : Nat) : Enters (fnL K) := by
  unfold fnL
  apply en
  repeat' split
  all_goals simp

/-- What the functions of the kinds answer. -/
theorem right_any (P : Nat → Prop) (tb K b1 b2 c b3 : Nat) (s : St) (f : Fld) (w : World) (hT : TabAt w P tb s) (hX : Boxes w b1 b2 c b3) (hl : s.o.fs.length ≤ 16) (hN : NumsOk s.o.fs) (hf : Ints f) (h1 : 1 ≤ K) (h6 : K ≤ 6) (hK : f.kind = K) :
    Calls Tryz.prog (fnR K) (#[adr tb, fldV f] ++ capR K b1 c b3) w fun e w' => e = .returned (.bool (Fx.right (lm s.d) s.o.fs f)) ∧ Below w.heap.size w w' := by
  unfold Fx.right
  obtain rfl | rfl | rfl | rfl | rfl | rfl : K = 1 ∨ K = 2 ∨ K = 3 ∨ K = 4 ∨ K = 5 ∨ K = 6 := by omega
  · rw [if_pos (by omega)]
    exact literal_any _ f _ w hf.t rfl
  · rw [if_neg (by omega), if_pos (by omega)]
    exact sized_any _ 1 3 ⟨b1, 0, none⟩ ⟨b1 + 1, 0, none⟩ f _ w (box_cell hX.l1) (box_cell hX.h1) rfl
  · rw [if_neg (by omega), if_neg (by omega), if_pos (by omega)]
    exact counted_any P tb c b2 s f _ w hT hX.k (box_cell hX.l2) (box_cell hX.h2) hl rfl
  · rw [if_neg (by omega), if_neg (by omega), if_neg (by omega), if_pos (by omega)]
    exact nests_any P tb s f _ w hT hl hf rfl
  · rw [if_neg (by omega), if_neg (by omega), if_neg (by omega), if_neg (by omega), if_pos (by omega)]
    exact inside_any P tb s f _ w hT hl hN hf rfl
  · rw [if_neg (by omega), if_neg (by omega), if_neg (by omega), if_neg (by omega), if_neg (by omega), if_pos (by omega)]
    exact sized_any _ 1 3 ⟨b3, 0, none⟩ ⟨b3 + 1, 0, none⟩ f _ w (box_cell hX.l3) (box_cell hX.h3) rfl
theorem least_any (P : Nat → Prop) (tb K : Nat) (s : St) (f : Fld) (w : World) (hT : TabAt w P tb s) (hf : Ints f) (h1 : 1 ≤ K) (h6 : K ≤ 6) (hK : f.kind = K) :
    Calls Tryz.prog (fnL K) #[adr tb, fldV f] w fun e w' => e = .returned (.int .i64 (lf (lm s.d) f)) ∧ Below w.heap.size w w' := by
  unfold lf
  obtain rfl | rfl | rfl | rfl | rfl | rfl : K = 1 ∨ K = 2 ∨ K = 3 ∨ K = 4 ∨ K = 5 ∨ K = 6 := by omega
  · rw [if_pos (by omega)]
    exact textLen_any _ f w
  · rw [if_neg (by omega), if_neg (by omega), if_neg (by omega)]
    exact nLen_any _ f w
  · rw [if_neg (by omega), if_neg (by omega), if_neg (by omega)]
    exact nLen_any _ f w
  · rw [if_neg (by omega), if_pos (by omega)]
    exact zeroLen_any _ f w
  · rw [if_neg (by omega), if_neg (by omega), if_pos (by omega)]
    exact lookLen_any P tb s f w hT hf
  · rw [if_neg (by omega), if_neg (by omega), if_neg (by omega)]
    exact nLen_any _ f w
end FmtF
section FmtG
open Go.RowKit Fx Go.Sort

/-- What add ends in. -/
def AddPost (P : Nat → Prop) (tb : Nat) (s : St) (f : Fld) (er : Addr) (w : World) (e : Ending) (w' : World) : Prop :=
  e = ends er (addB s f) ∧ Kept P w w' ∧ (addB s f = true → TabAt w' P tb ⟨s.d, ⟨s.o.id, s.o.fs ++ [f]⟩⟩)
theorem TabAt.cells_ {w : World} {P : Nat → Prop} {tb : Nat} {s : St} (h : TabAt w P tb s) : ∃ a c, w.cell? ⟨tb, 37, none⟩ = some (.int .i64 s.o.id) ∧ w.cell? ⟨tb, 38, none⟩ = some (.slice a s.o.fs.length c) ∧ w.cell? ⟨tb, 39, none⟩ = some (.int .i64 (ls (lm s.d) s.o.fs)) ∧
    s.o.fs.length ≤ c ∧ c ≤ maxLen ∧ tb < w.heap.size ∧ (∀ i, w.frozen? ⟨tb, i, none⟩ = false) ∧ ∀ k, P k → k < w.heap.size := by
  obtain ⟨cs, mb, b1, b2, c, b3, vF, vs, vO, hC, hO⟩ := h
  obtain ⟨a, c, rfl, h1, h2⟩ := own_slice hO.rowO
  exact ⟨a, c, (hC.blk.cell 37).trans hC.cI, (hC.blk.cell 38).trans hO.cO, (hC.blk.cell 39).trans hO.cL, h1, h2, hC.blk.lt, fun i => hC.blk.frozen i, hC.pin⟩
theorem add_stop {P : Nat → Prop} {tb : Nat} {s : St} {f : Fld} {er : Addr} {w : World} {e : Ending} {w' : World} (h : addB s f = false) (he : e = ends er false) (hk : Kept P w w') : AddPost P tb s f er w e w' :=
  ⟨by rw [h]; exact he, hk, fun h2 => by rw [h] at h2; cases h2⟩

theorem add_id (P : Nat → Prop) (tb : Nat) (s : St) (f : Fld) (er : Addr) (w : World) (hT : TabAt w P tb s) (hE : ErrAt w er) (h0 : ¬ 0 < s.o.id) :
    Calls Tryz.prog 115 #[adr tb, fldV f] w (AddPost P tb s f er w) := by
  obtain ⟨a, c, q1, q2, q3, q4, q5, q6, q7, q8⟩ := hT.cells_
  have HB : Hid (addB s f = false) := Lib.hid (by unfold addB; rw [decide_eq_false h0]; rfl)
  have HK : Hid (Kept P w (w.alloc (.cells #[.int .i64 f.kind, .int .i64 f.n, .int .i64 f.frm, .string f.text] 56))) := Lib.hid (Kept.of_below (bx _) q8)
  have HE := Lib.hid (hE.below (bx (.cells #[.int .i64 f.kind, .int .i64 f.n, .int .i64 f.frm, .string f.text] 56)))
  have d0 : decide (0 < s.o.id) = false := decide_eq_false h0
  clear hT hE q2 q3 q4 q5 q7 q8
  go_enter Tryz.func115, Tryz.ntmps115
  go_wp2_with fail
  refine (require_any false er _ HE.out).mono ?_
  rintro e w' ⟨rfl, rfl⟩
  unfold ends
  go_wp2_with fail
  exact ⟨rfl, add_stop HB.out rfl HK.out⟩
theorem add_full (P : Nat → Prop) (tb : Nat) (s : St) (f : Fld) (er : Addr) (w : World) (hT : TabAt w P tb s) (hE : ErrAt w er) (h0 : 0 < s.o.id) (h1 : ¬ s.o.fs.length < 16) :
    Calls Tryz.prog 115 #[adr tb, fldV f] w (AddPost P tb s f er w) := by
  obtain ⟨a, c, q1, q2, q3, q4, q5, q6, q7, q8⟩ := hT.cells_
  have HB : Hid (addB s f = false) := Lib.hid (by unfold addB; rw [decide_eq_true h0, decide_eq_false h1]; rfl)
  have HK : Hid (Kept P w (w.alloc (.cells #[.int .i64 f.kind, .int .i64 f.n, .int .i64 f.frm, .string f.text] 56))) := Lib.hid (Kept.of_below (bx _) q8)
  have HE := Lib.hid (hE.below (bx (.cells #[.int .i64 f.kind, .int .i64 f.n, .int .i64 f.frm, .string f.text] 56)))
  obtain ⟨L, hL⟩ : ∃ L, L = s.o.fs.length := ⟨_, rfl⟩
  rw [← hL] at q2 q4 h1
  have d1 : decide ((L : Int) < 16) = false := decide_eq_false (by omega)
  unfold maxLen at q5
  clear hT hE q3 q7 q8 hL h1
  go_enter Tryz.func115, Tryz.ntmps115
  go_wp2_with fail
  refine (require_any false er _ HE.out).mono ?_
  rintro e w' ⟨rfl, rfl⟩
  unfold ends
  go_wp2_with fail
  exact ⟨rfl, add_stop HB.out rfl HK.out⟩
theorem right_false {m : List (Int × Int)} {fs : List Fld} {f : Fld} (h : ¬ (1 ≤ f.kind ∧ f.kind ≤ 6)) : Fx.right m fs f = false := by
  cases hr : Fx.right m fs f with
  | false => rfl
  | true => exact absurd (right_kind hr) h
theorem addB_right {s : St} {f : Fld} (h : Fx.right (lm s.d) s.o.fs f = false) : addB s f = false := by
  unfold addB; rw [h]; simp
set_option maxHeartbeats 1000000 in
theorem add_kind (P : Nat → Prop) (tb : Nat) (s : St) (f : Fld) (er : Addr) (w : World) (hT : TabAt w P tb s) (hE : ErrAt w er) (h0 : 0 < s.o.id) (h1 : s.o.fs.length < 16) (hk : ¬ (1 ≤ f.kind ∧ f.kind ≤ 6)) :
    Calls Tryz.prog 115 #[adr tb, fldV f] w (AddPost P tb s f er w) := by
  obtain ⟨a, c, q1, q2, q3, q4, q5, q6, q7, q8⟩ := hT.cells_
  have HB : Hid (addB s f = false) := Lib.hid (addB_right (right_false hk))
  have HK : Hid (Kept P w (w.alloc (.cells #[.int .i64 f.kind, .int .i64 f.n, .int .i64 f.frm, .string f.text] 56))) := Lib.hid (Kept.of_below (bx _) q8)
  have HE := Lib.hid (hE.below (bx (.cells #[.int .i64 f.kind, .int .i64 f.n, .int .i64 f.frm, .string f.text] 56)))
  obtain ⟨L, hL⟩ : ∃ L, L = s.o.fs.length := ⟨_, rfl⟩
  rw [← hL] at q2 q4 h1
  have d1 : (L : Int) < 16 := by omega
  unfold maxLen at q5
  clear hT hE q3 q7 q8 hL
  by_cases hk1 : 1 ≤ f.kind
  · have d2 : decide (f.kind ≤ 6) = false := decide_eq_false (by omega)
    clear hk
    go_enter Tryz.func115, Tryz.ntmps115
    go_wp2_with fail
    refine (require_any true er _ HE.out).mono ?_
    rintro e w' ⟨rfl, rfl⟩
    unfold ends
    go_wp2_with fail
    refine (require_any false er _ HE.out).mono ?_
    rintro e w' ⟨rfl, rfl⟩
    unfold ends
    go_wp2_with fail
    exact ⟨rfl, add_stop HB.out rfl HK.out⟩
  · have d2 : decide (1 ≤ f.kind) = false := decide_eq_false hk1
    clear hk
    go_enter Tryz.func115, Tryz.ntmps115
    go_wp2_with fail
    refine (require_any true er _ HE.out).mono ?_
    rintro e w' ⟨rfl, rfl⟩
    unfold ends
    go_wp2_with fail
    refine (require_any false er _ HE.out).mono ?_
    rintro e w' ⟨rfl, rfl⟩
    unfold ends
    go_wp2_with fail
    exact ⟨rfl, add_stop HB.out rfl HK.out⟩
end FmtG
end Go.Proofs.YtlhobhfmombjjaaGreatDoor
