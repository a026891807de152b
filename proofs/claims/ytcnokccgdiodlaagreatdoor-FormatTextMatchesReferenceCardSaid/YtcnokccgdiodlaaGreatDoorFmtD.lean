/- A table in memory. No condition of its own. -/
import Derived.Test.YtcnokccgdiodlaaGreatDoorFmtC
namespace Go.Proofs.YtcnokccgdiodlaaGreatDoor
open Go.RowKit Fx

def usedB (fs : List Fld) (i : Int) : Bool := fs.any fun g => decide (g.frm = i)
/-- The cells of formats whose fields lie where these values say. -/
def flatM : List Fm → List Value → List Value
  | f :: t, v :: vs => .int .i64 f.id :: v :: flatM t vs
  | _, _ => []
theorem flatM_len : ∀ {d : List Fm} {vs : List Value}, vs.length = d.length → (flatM d vs).length = d.length * 2
  | [], _, _ => by simp [flatM]
  | f :: t, [], h => by simp at h
  | f :: t, v :: vs, h => by
    have := flatM_len (d := t) (vs := vs) (by simpa using h)
    simp only [flatM, List.length_cons, this]; omega
theorem flatM_snoc : ∀ {d : List Fm} {vs : List Value} {f : Fm} {v : Value}, vs.length = d.length → flatM (d ++ [f]) (vs ++ [v]) = flatM d vs ++ [.int .i64 f.id, v]
  | [], [], _, _, _ => rfl
  | [], _ :: _, _, _, h => by simp at h
  | _ :: _, [], _, _, h => by simp at h
  | g :: t, u :: vs, f, v, h => by
    have := flatM_snoc (d := t) (vs := vs) (f := f) (v := v) (by simpa using h)
    simp only [List.cons_append, flatM, this]
theorem flatM_get : ∀ {d : List Fm} {vs : List Value} {i : Nat}, vs.length = d.length → i < d.length → (flatM d vs)[i * 2]? = some (.int .i64 (d.getD i zm).id) ∧ (flatM d vs)[i * 2 + 1]? = some (vs.getD i undef)
  | [], _, _, _, h => by simp at h
  | _ :: _, [], _, h, _ => by simp at h
  | g :: t, u :: vs, 0, _, _ => by simp [flatM]
  | g :: t, u :: vs, i + 1, h, hi => by
    have := flatM_get (d := t) (vs := vs) (i := i) (by simpa using h) (by simpa using hi)
    simp only [flatM]
    rw [show (i + 1) * 2 = (i * 2 + 1) + 1 by omega]
    simpa using this

/-- What of a table stands when the open format is complete. -/
structure Core (w : World) (P : Nat → Prop) (tb : Nat) (s : St) (cs : Array Value) (mb b1 b2 c b3 : Nat) (vF : Value) (vs : List Value) : Prop where
  blk : Blk w tb 78 cs
  sz : cs.size = 56
  kinds : ∀ i, i < 35 → cs[i]? = (kindsV b1 c b3)[i]?
  cF : cs[35]? = some vF
  cM : cs[36]? = some (.map (some mb))
  cI : cs[37]? = some (.int .i64 s.o.id)
  boxes : Boxes w b1 b2 c b3
  map : MapIs w mb (lm s.d)
  rowF : w.ownsRow 0 34 2 vF s.d.length (flatM s.d vs)
  vsl : vs.length = s.d.length
  done : ∀ i, i < s.d.length → w.ownsRow 0 56 4 (vs.getD i undef) (s.d.getD i zm).fs.length (flat (s.d.getD i zm).fs)
  pin : ∀ k, P k → k < w.heap.size
  pT : ¬ P tb
  pM : ¬ P mb
  pF : ∀ g, vF.ownBlock = some g → ¬ P g
  pB : ∀ k, BoxB b1 b2 c b3 k → ¬ P k
/-- What stands besides while a format is read. -/
structure Open (w : World) (P : Nat → Prop) (s : St) (cs : Array Value) (vs : List Value) (vO : Value) : Prop where
  cO : cs[38]? = some vO
  cL : cs[39]? = some (.int .i64 (ls (lm s.d) s.o.fs))
  cU : ∀ i : Nat, i < 16 → cs[40 + i]? = some (.bool (usedB s.o.fs i))
  rowO : w.ownsRow 0 56 4 vO s.o.fs.length (flat s.o.fs)
  pO : ∀ g, vO.ownBlock = some g → ¬ P g
  apart : ∀ i, i < s.d.length → ∀ g, vO.ownBlock = some g → (vs.getD i undef).ownBlock ≠ some g
/-- A table whose formats are complete. -/
def TabEnd (w : World) (P : Nat → Prop) (tb : Nat) (s : St) : Prop := ∃ cs mb b1 b2 c b3 vF vs, Core w P tb s cs mb b1 b2 c b3 vF vs
/-- A table that is read. -/
def TabAt (w : World) (P : Nat → Prop) (tb : Nat) (s : St) : Prop := ∃ cs mb b1 b2 c b3 vF vs vO, Core w P tb s cs mb b1 b2 c b3 vF vs ∧ Open w P s cs vs vO
theorem TabAt.end_ {w : World} {P : Nat → Prop} {tb : Nat} {s : St} (h : TabAt w P tb s) : TabEnd w P tb s := by
  obtain ⟨cs, mb, b1, b2, c, b3, vF, vs, vO, h1, _⟩ := h
  exact ⟨cs, mb, b1, b2, c, b3, vF, vs, h1⟩

theorem ownsRow_below {w w' : World} {B : Nat} {e : TypeId} {sz : Nat} {v : Value} {n : Nat} {xs : List Value} (h : w.ownsRow B e sz v n xs) (hb : Below w.heap.size w w') : w'.ownsRow B e sz v n xs := by
  refine ⟨h.1, ?_⟩
  rcases h.2 with hn | ⟨g, cap, cur, rfl, hg, hh, r⟩
  · exact .inl hn
  · exact .inr ⟨g, cap, cur, rfl, hg, (hb.block g (lt_of_heap hh)).trans hh, r⟩
theorem own_keep {w w' : World} {B : Nat} {e : TypeId} {sz : Nat} {v : Value} {n : Nat} {xs : List Value} (h : w.ownsRow B e sz v n xs) (hb : ∀ g cur, v.ownBlock = some g → w.heap[g]? = some (.cells cur e (0, 0)) → w'.heap[g]? = w.heap[g]?) : w'.ownsRow B e sz v n xs := by
  refine ⟨h.1, ?_⟩
  rcases h.2 with hn | ⟨g, cap, cur, rfl, hg, hh, r⟩
  · exact .inl hn
  · exact .inr ⟨g, cap, cur, rfl, hg, (hb g cur rfl hh).trans hh, r⟩
theorem own_heap {w : World} {B : Nat} {e : TypeId} {sz : Nat} {v : Value} {n : Nat} {xs : List Value} (h : w.ownsRow B e sz v n xs) {g : Nat} (hg : v.ownBlock = some g) : ∃ cur, w.heap[g]? = some (.cells cur e (0, 0)) := by
  rcases h.2 with ⟨rfl, _⟩ | ⟨g', cap, cur, rfl, _, hh, _⟩
  · simp [Value.ownBlock] at hg
  · have : g' = g := by simpa [Value.ownBlock] using hg
    subst this
    exact ⟨cur, hh⟩
theorem MapIs.heap_ne {w : World} {mb : Nat} {m : List (Int × Int)} (h : MapIs w mb m) {g : Nat} {cur : Array Value} {t : TypeId} {fr : Nat × Nat} (hg : w.heap[g]? = some (.cells cur t fr)) : g ≠ mb := by
  rintro rfl
  obtain ⟨n, D, _, ⟨es, clock, h1, _⟩, _⟩ := h.is
  rw [h1] at hg
  cases hg
theorem Blk.below {w w' : World} {g : Nat} {t : TypeId} {cs : Array Value} (h : Blk w g t cs) (hb : Below w.heap.size w w') : Blk w' g t cs := (hb.block g h.lt).trans h
theorem Core.below {w w' : World} {P : Nat → Prop} {tb : Nat} {s : St} {cs : Array Value} {mb b1 b2 c b3 : Nat} {vF : Value} {vs : List Value} (h : Core w P tb s cs mb b1 b2 c b3 vF vs) (hb : Below w.heap.size w w') : Core w' P tb s cs mb b1 b2 c b3 vF vs :=
  ⟨h.blk.below hb, h.sz, h.kinds, h.cF, h.cM, h.cI, h.boxes.below hb, h.map.of_block (hb.block _ h.map.lt), ownsRow_below h.rowF hb, h.vsl, fun i hi => ownsRow_below (h.done i hi) hb, fun k hk => Nat.lt_of_lt_of_le (h.pin k hk) hb.size, h.pT, h.pM, h.pF, h.pB⟩
theorem Open.below {w w' : World} {P : Nat → Prop} {s : St} {cs : Array Value} {vs : List Value} {vO : Value} (h : Open w P s cs vs vO) (hb : Below w.heap.size w w') : Open w' P s cs vs vO :=
  ⟨h.cO, h.cL, h.cU, ownsRow_below h.rowO hb, h.pO, h.apart⟩
theorem TabEnd.below {w w' : World} {P : Nat → Prop} {tb : Nat} {s : St} (h : TabEnd w P tb s) (hb : Below w.heap.size w w') : TabEnd w' P tb s := by
  obtain ⟨cs, mb, b1, b2, c, b3, vF, vs, h1⟩ := h
  exact ⟨cs, mb, b1, b2, c, b3, vF, vs, h1.below hb⟩
theorem TabAt.below {w w' : World} {P : Nat → Prop} {tb : Nat} {s : St} (h : TabAt w P tb s) (hb : Below w.heap.size w w') : TabAt w' P tb s := by
  obtain ⟨cs, mb, b1, b2, c, b3, vF, vs, vO, h1, h2⟩ := h
  exact ⟨cs, mb, b1, b2, c, b3, vF, vs, vO, h1.below hb, h2.below hb⟩
theorem own_lt {w : World} {B : Nat} {e : TypeId} {sz : Nat} {v : Value} {n : Nat} {xs : List Value} (h : w.ownsRow B e sz v n xs) {g : Nat} (hg : v.ownBlock = some g) : g < w.heap.size := (h.lt g hg).2
/-- What is made behind a table is kept as well. -/
theorem TabAt.widen {w w' : World} {P : Nat → Prop} {tb : Nat} {s : St} (h : TabAt w P tb s) (hb : Below w.heap.size w w') : TabAt w' (fun k => P k ∨ (w.heap.size ≤ k ∧ k < w'.heap.size)) tb s := by
  obtain ⟨cs, mb, b1, b2, c, b3, vF, vs, vO, h1, h2⟩ := h
  have k1 := h1.below hb
  have k2 := h2.below hb
  refine ⟨cs, mb, b1, b2, c, b3, vF, vs, vO, { k1 with pin := ?_, pT := ?_, pM := ?_, pF := ?_, pB := ?_ }, { k2 with pO := ?_ }⟩
  · rintro k (hk | hk)
    · exact k1.pin k hk
    · exact hk.2
  · rintro (hk | hk)
    · exact h1.pT hk
    · have := h1.blk.lt; omega
  · rintro (hk | hk)
    · exact h1.pM hk
    · have := h1.map.lt; omega
  · rintro g hg (hk | hk)
    · exact h1.pF g hg hk
    · have := own_lt h1.rowF hg; omega
  · rintro k hB (hk | hk)
    · exact h1.pB k hB hk
    · have := h1.boxes.lt; unfold BoxB at hB; omega
  · rintro g hg (hk | hk)
    · exact h2.pO g hg hk
    · have := own_lt h2.rowO hg; omega
/-- .. and need not be kept any more. -/
theorem TabEnd.narrow {w : World} {P Q : Nat → Prop} {tb : Nat} {s : St} (h : TabEnd w P tb s) (hq : ∀ k, Q k → P k) : TabEnd w Q tb s := by
  obtain ⟨cs, mb, b1, b2, c, b3, vF, vs, h1⟩ := h
  exact ⟨cs, mb, b1, b2, c, b3, vF, vs, { h1 with pin := fun k hk => h1.pin k (hq k hk), pT := fun hk => h1.pT (hq _ hk), pM := fun hk => h1.pM (hq _ hk), pF := fun g hg hk => h1.pF g hg (hq _ hk), pB := fun k hB hk => h1.pB k hB (hq _ hk) }⟩

/-! the empty table -/
/-- The cells of a new table. -/
def newV (b1 c b3 mb : Nat) : Array Value :=
  #[.string ⟨#[]⟩, .nilFunc, .nilFunc, .nilFunc, .nilFunc,
    .string ⟨#[108, 105, 116, 101, 114, 97, 108]⟩, clo 79 #[], clo 81 #[], clo 82 #[], clo 84 #[],
    .string ⟨#[110, 117, 109, 98, 101, 114]⟩, clo 103 #[adr b1, adr (b1 + 1)], clo 104 #[], clo 105 #[], clo 106 #[],
    .string ⟨#[98, 121, 116, 101, 115]⟩, clo 107 #[adr c], clo 104 #[], clo 109 #[adr c], clo 110 #[],
    .string ⟨#[108, 105, 115, 116]⟩, clo 88 #[], clo 89 #[], clo 90 #[], clo 91 #[],
    .string ⟨#[105, 110, 115, 105, 100, 101]⟩, clo 92 #[], clo 94 #[], clo 90 #[], clo 91 #[],
    .string ⟨#[99, 104, 101, 99, 107]⟩, clo 103 #[adr b3, adr (b3 + 1)], clo 104 #[], clo 105 #[], clo 106 #[],
    .slice none 0 0, .map (some mb), .int .i64 0, .slice none 0 0, .int .i64 0, .bool false, .bool false, .bool false, .bool false, .bool false, .bool false, .bool false, .bool false, .bool false, .bool false, .bool false, .bool false, .bool false, .bool false, .bool false, .bool false]
theorem newV_kinds (b1 c b3 mb i : Nat) (h : i < 35) : (newV b1 c b3 mb)[i]? = (kindsV b1 c b3)[i]? := by
  match i, h with
  | 0, _ => rfl
  | 1, _ => rfl
  | 2, _ => rfl
  | 3, _ => rfl
  | 4, _ => rfl
  | 5, _ => rfl
  | 6, _ => rfl
  | 7, _ => rfl
  | 8, _ => rfl
  | 9, _ => rfl
  | 10, _ => rfl
  | 11, _ => rfl
  | 12, _ => rfl
  | 13, _ => rfl
  | 14, _ => rfl
  | 15, _ => rfl
  | 16, _ => rfl
  | 17, _ => rfl
  | 18, _ => rfl
  | 19, _ => rfl
  | 20, _ => rfl
  | 21, _ => rfl
  | 22, _ => rfl
  | 23, _ => rfl
  | 24, _ => rfl
  | 25, _ => rfl
  | 26, _ => rfl
  | 27, _ => rfl
  | 28, _ => rfl
  | 29, _ => rfl
  | 30, _ => rfl
  | 31, _ => rfl
  | 32, _ => rfl
  | 33, _ => rfl
  | 34, _ => rfl
  | k + 35, h => omega
theorem newV_used (b1 c b3 mb i : Nat) (h : i < 16) : (newV b1 c b3 mb)[40 + i]? = some (.bool false) := by
  match i, h with
  | 0, _ => rfl
  | 1, _ => rfl
  | 2, _ => rfl
  | 3, _ => rfl
  | 4, _ => rfl
  | 5, _ => rfl
  | 6, _ => rfl
  | 7, _ => rfl
  | 8, _ => rfl
  | 9, _ => rfl
  | 10, _ => rfl
  | 11, _ => rfl
  | 12, _ => rfl
  | 13, _ => rfl
  | 14, _ => rfl
  | 15, _ => rfl
  | k + 16, h => omega
set_option maxHeartbeats 1000000 in
theorem empty_any (P : Nat → Prop) (w : World) (hP : ∀ k, P k → k < w.heap.size) :
    Calls Tryz.prog 43 #[] w fun e w' => (∃ tb, e = .returned (adr tb) ∧ TabAt w' P tb st0) ∧ Below w.heap.size w w' := by
  have hmm := @run_makeMap Tryz.prog
  go_enter Tryz.func43, Tryz.ntmps43
  go_wp2_with fail
  refine (kinds_any _).mono ?_
  rintro e w1 ⟨⟨b1, b2, c, b3, rfl, hX, hbb⟩, hB⟩
  have HX := Lib.hid hX
  have HB := Lib.hid hB
  have HBB := Lib.hid hbb
  clear hX hB hbb
  unfold kindsV
  go_wp2_with fail
  have s1 := HB.out.size
  have hb2 : ∀ o1 o2 : Obj, Below w1.heap.size w1 ((w1.alloc o1).alloc o2) := fun o1 o2 => ((Below.refl _ _).alloc (Nat.le_refl _) _).alloc (by simp) _
  have hT : TabAt ((w1.alloc (.map #[] 0)).alloc (.cells (newV b1 c b3 w1.heap.size) 78)) P (w1.heap.size + 1) st0 := by
    refine ⟨newV b1 c b3 w1.heap.size, w1.heap.size, b1, b2, c, b3, .slice none 0 0, [], .slice none 0 0, ?_, ?_⟩
    · exact ⟨heap_alloc2_new _ _ _, rfl, fun i hi => newV_kinds _ _ _ _ i hi, rfl, rfl, rfl, HX.out.below (hb2 _ _), (MapIs.made w1).of_block (Below.heap_alloc _ _ _ (by simp)), World.ownsRow_nil _ _ _ _, rfl, fun i hi => absurd hi (by simp [st0]),
        fun k hk => by have := hP k hk; simp; omega, fun hk => by have := hP _ hk; omega, fun hk => by have := hP _ hk; omega, fun g hg => by simp [Value.ownBlock] at hg, fun k hk hP1 => by have := HBB.out k hk; have := hP k hP1; omega⟩
    · exact ⟨rfl, rfl, fun i hi => newV_used _ _ _ _ i hi, World.ownsRow_nil _ _ _ _, fun g hg => by simp [Value.ownBlock] at hg, fun i hi => absurd hi (by simp [st0])⟩
  go_ret
  exact ⟨⟨w1.heap.size + 1, rfl, hT⟩, HB.out.trans ((hb2 _ _).mono s1)⟩
end Go.Proofs.YtcnokccgdiodlaaGreatDoor
