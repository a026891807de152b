/- A reader in memory: what stays as it is, and what grows. No condition of its own. -/
import Derived.Test.YtlhobhfmombjjaaGreatDoorPa05
import Derived.Test.YtlhobhfmombjjaaGreatDoorPa06
namespace Go.Proofs.YtlhobhfmombjjaaGreatDoor
open Go.RowKit Fx Rec

/-! sums -/
theorem sumTo_zero (s : ByteArray) : sumTo s 0 = 0 := rfl
theorem sumTo_succ {s : ByteArray} {n : Nat} (h : n < s.size) : sumTo s (n + 1) = sumTo s n + ((s[n]).toNat : Int) := by
  unfold sumTo sumL
  have : s.data.toList.take (n + 1) = s.data.toList.take n ++ [s[n]] := by
    rw [List.take_succ_eq_append_getElem (by simpa using h)]
    rfl
  rw [this]
  simp
theorem sumTo_more {s : ByteArray} {n : Nat} (h : s.size ≤ n) : sumTo s (n + 1) = sumTo s n := by
  unfold sumTo
  have hl : s.data.toList.length = s.size := by simp
  rw [List.take_of_length_le (by omega), List.take_of_length_le (by omega)]
def byteAt (s : ByteArray) (i : Nat) : Int := if h : i < s.size then ((s[i]).toNat : Int) else 0
theorem byteAt_bound (s : ByteArray) (i : Nat) : 0 ≤ byteAt s i ∧ byteAt s i ≤ 255 := by
  unfold byteAt
  split
  · rename_i h
    have : (s[i]).toNat < 256 := (s[i]).toNat_lt
    omega
  · omega
theorem sumTo_step (s : ByteArray) (n : Nat) : sumTo s (n + 1) = sumTo s n + byteAt s n := by
  unfold byteAt
  split
  · rename_i h; exact sumTo_succ h
  · rename_i h; rw [sumTo_more (by omega)]; omega
theorem sumTo_bound (s : ByteArray) (n : Nat) : 0 ≤ sumTo s n ∧ sumTo s n ≤ 255 * n := by
  induction n with
  | zero => exact ⟨by rw [sumTo_zero]; omega, by rw [sumTo_zero]; omega⟩
  | succ n ih =>
    rw [sumTo_step]
    have := byteAt_bound s n
    omega
theorem sumTo_mono (s : ByteArray) {i j : Nat} (h : i ≤ j) : sumTo s i ≤ sumTo s j := by
  induction j with
  | zero => obtain rfl : i = 0 := by omega
            omega
  | succ j ih =>
    rcases Nat.lt_or_ge j i with h1 | h1
    · obtain rfl : i = j + 1 := by omega
      omega
    · have := ih h1
      have h2 := byteAt_bound s j
      rw [sumTo_step]
      omega
theorem adds_of (s : ByteArray) : Adds (sumTo s) (byteAt s) :=
  ⟨fun i _ => sumTo_step s i, fun i h => by have := sumTo_bound s i; omega, fun i _ => byteAt_bound s i⟩

/-! the reader -/
def ptC (p : Pt) : List Value := [.int .i64 p.depth, .int .i64 p.format, .int .i64 p.field, .int .i64 p.start, .int .i64 p.stop, .int .i64 p.number]
def flatP (ps : List Pt) : List Value := ps.flatMap ptC
theorem flatP_snoc (ps : List Pt) (p : Pt) : flatP (ps ++ [p]) = flatP ps ++ ptC p := by unfold flatP; simp
theorem flatP_len (ps : List Pt) : (flatP ps).length = ps.length * 6 := by
  unfold flatP
  induction ps with
  | nil => rfl
  | cons p t ih => simp [List.flatMap_cons, ih, ptC]; omega
/-- What a reader is made of. -/
structure Ro where
  fb : Nat
  kb : Nat
  sb : Nat
  ab : Nat
  tb : Nat
  us : List Value
abbrev ptr (b : Nat) : Value := .pointer (some ⟨b, 0, none⟩)
def kindsR (rb : Nat) : List (Int × Value) :=
  [(1, .func (.func 67) #[ptr rb] #[]), (2, .func (.func 68) #[ptr rb] #[]), (3, .func (.func 69) #[ptr rb] #[]),
   (4, .func (.func 70) #[ptr rb] #[]), (5, .func (.func 71) #[ptr rb] #[]), (6, .func (.func 72) #[ptr rb] #[])]
/-- The entries of a map of fields by formats. -/
def fieldsE (L : List Fm) (us : List Value) : List (Int × Value) := (L.zip us).map fun p => (p.1.id, p.2)
abbrev atF (tb : Nat) : Value := .func (.func 66) #[] #[ptr tb]
abbrev sumF (o : Ro) : Value := .func (.func 93) #[] #[ptr o.sb, ptr o.ab]
/-- What stays as it is. -/
structure RdFix (w : World) (P : Nat → Prop) (o : Ro) (rb : Nat) (L : List Fm) (s : ByteArray) : Prop where
  ab : Blk w o.ab 114 #[atF o.tb]
  tb : Blk w o.tb 9 #[.string s]
  kinds : MapE w o.kb (kindsR rb)
  fields : MapE w o.fb (fieldsE L o.us)
  ul : o.us.length = L.length
  flds : ∀ i, i < L.length → FldsAt w (o.us.getD i undef) (L.getD i zm).fs
  pin : ∀ k, P k → k < w.heap.size
  pa : P o.ab
  pt : P o.tb
  pk : P o.kb
  pf : P o.fb
  pu : ∀ i b, i < L.length → (o.us.getD i undef).ownBlock = some b → P b
  nr : ¬ P rb
  ns : ¬ P o.sb
  max : s.size ≤ 65536
  ok : Ok L
theorem RdFix.kept {w w' : World} {P : Nat → Prop} {o : Ro} {rb : Nat} {L : List Fm} {s : ByteArray} (h : RdFix w P o rb L s) (hk : Kept P w w') : RdFix w' P o rb L s :=
  { h with
    ab := (hk.block _ h.pa).trans h.ab
    tb := (hk.block _ h.pt).trans h.tb
    kinds := h.kinds.of_block (hk.block _ h.pk)
    fields := h.fields.of_block (hk.block _ h.pf)
    flds := fun i hi => (h.flds i hi).keep hk.size fun b hb => hk.block b (h.pu i b hi hb)
    pin := fun k hp => Nat.lt_of_lt_of_le (h.pin k hp) hk.size }
/-- What grows. -/
structure RdMut (w : World) (P : Nat → Prop) (o : Ro) (rb : Nat) (s : ByteArray) (ps : List Pt) (vp : Value) (k : Nat) (vs : Value) : Prop where
  blk : Blk w rb 112 #[.map (some o.fb), .map (some o.kb), .string s, sumF o, vp]
  sums : SumsAt w o.sb o.ab (atF o.tb) (sumTo s) k vs
  kle : k ≤ s.size
  row : w.ownsRow 0 26 6 vp ps.length (flatP ps)
  len : ps.length ≤ 5000
  nS : ∀ g, vs.ownBlock = some g → ¬ P g
  nP : ∀ g, vp.ownBlock = some g → ¬ P g
/-- A reader, with these parts so far; P tells the blocks that others hold. -/
def Rd (w : World) (P : Nat → Prop) (o : Ro) (rb : Nat) (L : List Fm) (s : ByteArray) (ps : List Pt) : Prop := RdFix w P o rb L s ∧ ∃ vp k vs, RdMut w P o rb s ps vp k vs

/-- Of a block of another type. -/
theorem own_ne {w : World} {base g : Nat} {e t : TypeId} {size n : Nat} {v : Value} {xs : List Value} {cs : Array Value} (h : w.ownsRow base e size v n xs) (hg : Blk w g t cs) (hne : e ≠ t) {q : Nat} (hq : v.ownBlock = some q) : q ≠ g := fun e' => own_blk_ne h hg hne (e' ▸ hq)
theorem own_own_ne {w : World} {b1 b2 : Nat} {e1 e2 : TypeId} {s1 s2 n1 n2 : Nat} {v1 v2 : Value} {x1 x2 : List Value} (h1 : w.ownsRow b1 e1 s1 v1 n1 x1) (h2 : w.ownsRow b2 e2 s2 v2 n2 x2) (hne : e1 ≠ e2) {q r : Nat} (hq : v1.ownBlock = some q) (hr : v2.ownBlock = some r) : q ≠ r := by
  obtain ⟨cur, hh⟩ := own_heap h2 hr
  exact own_ne (t := e2) h1 hh hne hq
/-- A block of another type is protected as well. -/
theorem Rd.add_ {w : World} {P : Nat → Prop} {o : Ro} {rb : Nat} {L : List Fm} {s : ByteArray} {ps : List Pt} (h : Rd w P o rb L s ps) {g : Nat} {t : TypeId} {cs : Array Value} (hg : Blk w g t cs)
    (h1 : t ≠ 112) (h2 : t ≠ 24) (h3 : t ≠ 3) (h4 : t ≠ 26) : Rd w (fun k => P k ∨ k = g) o rb L s ps := by
  obtain ⟨hf, vp, k, vs, hm⟩ := h
  refine ⟨{ hf with pin := ?_, pa := .inl hf.pa, pt := .inl hf.pt, pk := .inl hf.pk, pf := .inl hf.pf, pu := fun i b hi hb => .inl (hf.pu i b hi hb), nr := ?_, ns := ?_ }, vp, k, vs, { hm with nS := ?_, nP := ?_ }⟩
  · rintro q (hq | rfl)
    · exact hf.pin q hq
    · exact hg.lt
  · rintro (hq | hq)
    · exact hf.nr hq
    · exact Blk.ne_ hg hm.blk h1 hq.symm
  · rintro (hq | hq)
    · exact hf.ns hq
    · exact Blk.ne_ hg hm.sums.sb h2 hq.symm
  · rintro q hq (hp | hp)
    · exact hm.nS q hq hp
    · exact own_ne hm.sums.row hg (Ne.symm h3) hq hp
  · rintro q hq (hp | hp)
    · exact hm.nP q hq hp
    · exact own_ne hm.row hg (Ne.symm h4) hq hp
/-- Less is protected. -/
theorem Rd.weak {w w' : World} {P P' : Nat → Prop} {o : Ro} {rb : Nat} {L : List Fm} {s : ByteArray} {ps ps' : List Pt} (h : Rd w P o rb L s ps) (h' : Rd w' P' o rb L s ps') (hs : w.heap.size ≤ w'.heap.size) (hp : ∀ k, P k → P' k) : Rd w' P o rb L s ps' := by
  obtain ⟨hf, -⟩ := h
  obtain ⟨hf', vp, k, vs, hm⟩ := h'
  exact ⟨{ hf' with pin := fun q hq => Nat.lt_of_lt_of_le (hf.pin q hq) hs, pa := hf.pa, pt := hf.pt, pk := hf.pk, pf := hf.pf, pu := hf.pu, nr := hf.nr, ns := hf.ns }, vp, k, vs, { hm with nS := fun g hg hq => hm.nS g hg (hp g hq), nP := fun g hg hq => hm.nP g hg (hp g hq) }⟩
theorem SumsAt.below {w w' : World} {sb ab : Nat} {fv : Value} {σ : Nat → Int} {k : Nat} {vs : Value} (h : SumsAt w sb ab fv σ k vs) (hb : Below w.heap.size w w') : SumsAt w' sb ab fv σ k vs :=
  ⟨(hb.block _ h.sb.lt).trans h.sb, (hb.block _ h.ab.lt).trans h.ab, ownsRow_below h.row hb⟩
theorem SumsAt.keep {w w' : World} {sb ab : Nat} {fv : Value} {σ : Nat → Int} {k : Nat} {vs : Value} (h : SumsAt w sb ab fv σ k vs) (h1 : w'.heap[sb]? = w.heap[sb]?) (h2 : w'.heap[ab]? = w.heap[ab]?) (h3 : ∀ g, vs.ownBlock = some g → w'.heap[g]? = w.heap[g]?) : SumsAt w' sb ab fv σ k vs :=
  ⟨h1.trans h.sb, h2.trans h.ab, own_keep h.row fun g _ hg _ => h3 g hg⟩
/-- New blocks make no difference. -/
theorem Rd.below {w w' : World} {P : Nat → Prop} {o : Ro} {rb : Nat} {L : List Fm} {s : ByteArray} {ps : List Pt} (h : Rd w P o rb L s ps) (hb : Below w.heap.size w w') : Rd w' P o rb L s ps := by
  obtain ⟨hf, vp, k, vs, hm⟩ := h
  refine ⟨hf.kept (Kept.of_below hb hf.pin), vp, k, vs, { hm with blk := (hb.block _ hm.blk.lt).trans hm.blk, sums := hm.sums.below hb, row := ownsRow_below hm.row hb }⟩
/-- A block that the reader does not own is written. -/
theorem Rd.write {w w' : World} {P : Nat → Prop} {o : Ro} {rb : Nat} {L : List Fm} {s : ByteArray} {ps : List Pt} (h : Rd w P o rb L s ps) {g : Nat} {t : TypeId} {cs : Array Value} (hg : Blk w g t cs) (hP : ¬ P g)
    (h1 : t ≠ 112) (h2 : t ≠ 24) (h3 : t ≠ 3) (h4 : t ≠ 26) (hk : Kept (fun k => k ≠ g) w w') : Rd w' P o rb L s ps := by
  obtain ⟨hf, vp, k, vs, hm⟩ := h
  refine ⟨hf.kept (hk.mono fun k hp e => hP (e ▸ hp)), vp, k, vs, { hm with blk := (hk.block _ (fun e => Blk.ne_ hg hm.blk h1 e.symm)).trans hm.blk, sums := hm.sums.keep (hk.block _ fun e => Blk.ne_ hg hm.sums.sb h2 e.symm) (hk.block _ fun e => hP (e ▸ hf.pa)) (fun q hq => hk.block _ (own_ne hm.sums.row hg (Ne.symm h3) hq)), row := own_keep hm.row fun q _ hq _ => hk.block _ (own_ne hm.row hg (Ne.symm h4) hq) }⟩

/-! the sum of the first bytes -/
theorem rat_any (tb : Nat) (s : ByteArray) (i : Nat) (w : World) (h : Blk w tb 9 #[.string s]) (hi : i < s.size) :
    Calls Tryz.prog 66 #[.int .i64 i, ptr tb] w fun e w' => e = .returned (.int .u8 (byteAt s i)) ∧ w' = w := by
  have c0 := h.cell 0
  simp only [List.getElem?_toArray, List.getElem?_cons_zero] at c0
  obtain ⟨B, hB⟩ : ∃ B : Int, ((s[i]).toNat : Int) = B := ⟨_, rfl⟩
  have e : byteAt s i = B := by unfold byteAt; rw [dif_pos hi]; exact hB
  rw [e]
  clear h e
  go_enter Tryz.func66, Tryz.ntmps66
  go_wp2
  go_ret
  exact ⟨rfl, rfl⟩
theorem enters_rat : Enters 66 := fun args w => by
  simp [callFunc, Tryz.func66, Tryz.f66]
theorem rsum_any {w : World} {P : Nat → Prop} {o : Ro} {rb : Nat} {L : List Fm} {s : ByteArray} {ps : List Pt} (n : Nat) (h : Rd w P o rb L s ps) (hn : n ≤ s.size) :
    Calls Tryz.prog 93 #[.int .i64 n, ptr o.sb, ptr o.ab] w fun e w' => e = .returned (.int .i64 (sumTo s n)) ∧ Kept P w w' ∧ Rd w' P o rb L s ps := by
  obtain ⟨hf, vp, k, vs, hm⟩ := h
  have hsb := hm.sums.sb
  refine (sum_any (fun g => P g ∨ g = rb ∨ vp.ownBlock = some g) _ #[ptr o.tb] (sumTo s) (byteAt s) o.sb o.ab k n vs w hm.sums enters_rat (adds_of s) (by have := hm.kle; have := hf.max; omega) (by have := hf.max; omega) ?_ ?_ ?_ (.inl hf.pa) ?_).mono ?_
  · rintro (h | h | h)
    · exact hf.ns h
    · exact Blk.ne_ hsb hm.blk (by decide) h
    · exact own_ne hm.row hsb (by decide) h rfl
  · rintro g hg (h | h | h)
    · exact hm.nS g hg h
    · exact own_ne hm.sums.row hm.blk (by decide) hg h
    · exact own_own_ne hm.sums.row hm.row (by decide) hg h rfl
  · rintro g (h | h | h)
    · exact hf.pin g h
    · rw [h]; exact hm.blk.lt
    · exact own_lt hm.row h
  · intro W i hk h1 h2
    exact rat_any o.tb s i W ((hk.block _ (.inl hf.pt)).trans hf.tb) (by omega)
  · rintro e w' ⟨rfl, hk, k', vs', hkk, hs, hv⟩
    refine ⟨rfl, hk.mono fun g h => .inl h, hf.kept (hk.mono fun g h => .inl h), vp, k', vs', { hm with blk := (hk.block _ (.inr (.inl rfl))).trans hm.blk, sums := hs, kle := ?_, row := own_keep hm.row fun g _ hg _ => hk.block _ (.inr (.inr hg)), nS := fun g hg hp => hv g hg (.inl hp) }⟩
    have := hm.kle
    omega
end Go.Proofs.YtlhobhfmombjjaaGreatDoor
