/- Plain facts on writing a stream: what is laid, what waits for a length, and the checksums at the end. No condition of its own. A writer in memory: what stays as it is, and what grows. No condition of its own. A writer in memory: its parts, and what steps do. No condition of its own. A writer in memory: bytes are put behind the others, a value is taken, a field begins; add and next. Conditions: the writer lies in memory. The writer takes its next value; it lays a literal. Conditions: the writer lies in memory. The writer leaves room for a number. Conditions: the writer lies in memory, the width is small. The number that was left out is laid. Conditions: the writer lies in memory, its room is there, the number is not negative. Which numbers wait. Conditions: the draft lies in memory. -/
import Derived.Test.YtdndmhlmbpgdeaaGreatDoorPb03
import Derived.Test.YtdndmhlmbpgdeaaGreatDoorPb07
import Derived.Lib.AppendStr
import Derived.Test.YtdndmhlmbpgdeaaGreatDoorPb01
import Derived.Laws.BytesArg
namespace Go.Proofs.YtdndmhlmbpgdeaaGreatDoor
section RecWr
namespace Rec
open Fx

/-- A number in bytes, the highest one first. -/
def nbytes : Nat → Int → List UInt8
  | 0, _ => []
  | w + 1, n => nbytes w (n / 256) ++ [UInt8.ofNat (n % 256).toNat]
theorem nbytes_len (w : Nat) (n : Int) : (nbytes w n).length = w := by
  induction w generalizing n with
  | zero => rfl
  | succ w ih => rw [nbytes, List.length_append, ih]; rfl
/-- Bytes are laid over others. -/
def patch (st : List UInt8) (at_ : Nat) (b : List UInt8) : List UInt8 := st.take at_ ++ (b ++ st.drop (at_ + b.length))

/-- A writer: what is written, the values that are left, how many fields have begun, the checksums to come (where their value and they begin, their width). -/
structure Ws where
  st : List UInt8
  vals : List ByteArray
  parts : Nat
  checks : List (Nat × Nat × Nat)
/-- What the fields before one have left: the numbers that were given, and where numbers wait for a length. -/
structure Dr where
  counts : List Int
  lens : List (Nat × Nat)
def waits (fs : List Fld) (k : Nat) : Bool := fs.any fun f => decide (f.frm = (k : Int)) && !decide (f.kind = 4)
def addW (σ : Ws) (b : List UInt8) : Option Ws := if σ.st.length + b.length ≤ 65536 then some { σ with st := σ.st ++ b } else none
def nextW (σ : Ws) : Option (ByteArray × Ws) :=
  match σ.vals with
  | [] => none
  | v :: t => some (v, { σ with vals := t })
def fill (σ : Ws) (h : Nat × Nat) (n : Int) : Option Ws := if n < 256 ^ h.2 then some { σ with st := patch σ.st h.1 (nbytes h.2 n) } else none
abbrev WSub := Int → Ws → Option Ws
def wreps (sub : WSub) (id : Int) : Nat → Ws → Option Ws
  | 0, σ => some σ
  | n + 1, σ => (sub id σ).bind fun σ1 => wreps sub id n σ1
/-- What a field leaves: its number if it is given, where it waits, the writer. -/
abbrev Left := Int × (Nat × Nat) × Ws
def left0 (σ : Ws) : Left := (0, (0, 0), σ)
def wtext (f : Fld) (σ : Ws) : Option Left := (addW σ f.text.data.toList).map left0
def wwait (f : Fld) (σ : Ws) : Option Left := (addW σ (List.replicate f.n.toNat 0)).map fun σ1 => (0, (σ.st.length, f.n.toNat), σ1)
def wgiven (f : Fld) (σ : Ws) : Option Left :=
  (nextW σ).bind fun p => if (p.1.size : Int) = f.n then (addW p.2 p.1.data.toList).map fun σ1 => (num p.1, (0, 0), σ1) else none
def wbytes (f : Fld) (d : Dr) (σ : Ws) : Option Left :=
  (nextW σ).bind fun p => (addW p.2 p.1.data.toList).bind fun σ1 =>
    if f.frm = -1 then (if (p.1.size : Int) = f.n then some (left0 σ1) else none) else (fill σ1 (d.lens.getD f.frm.toNat (0, 0)) p.1.size).map left0
def wlist (sub : WSub) (f : Fld) (d : Dr) (σ : Ws) : Option Left := (wreps sub f.n (d.counts.getD f.frm.toNat 0).toNat σ).map left0
def winside (sub : WSub) (f : Fld) (d : Dr) (σ : Ws) : Option Left :=
  (sub f.n σ).bind fun σ1 => (fill σ1 (d.lens.getD f.frm.toNat (0, 0)) ((σ1.st.length : Int) - σ.st.length)).map left0
def wcheck (f : Fld) (start : Nat) (σ : Ws) : Option Left :=
  (addW σ (List.replicate f.n.toNat 0)).map fun σ1 => left0 { σ1 with checks := σ1.checks ++ [(start, σ.st.length, f.n.toNat)] }
def wkind (sub : WSub) (fs : List Fld) (start k : Nat) (f : Fld) (d : Dr) (σ : Ws) : Option Left :=
  if f.kind = 1 then wtext f σ
  else if f.kind = 2 then (if waits fs k then wwait f σ else wgiven f σ)
  else if f.kind = 3 then wbytes f d σ
  else if f.kind = 4 then wlist sub f d σ
  else if f.kind = 5 then winside sub f d σ
  else wcheck f start σ
def wnext (sub : WSub) (fs : List Fld) (start k : Nat) (f : Fld) (d : Dr) (σ : Ws) : Option Left :=
  if σ.parts < 5000 then wkind sub fs start k f d { σ with parts := σ.parts + 1 } else none
def wflds (sub : WSub) (fs : List Fld) (start : Nat) : List Fld → Nat → Dr → Ws → Option Ws
  | [], _, _, σ => some σ
  | f :: t, k, d, σ => (wnext sub fs start k f d σ).bind fun p => wflds sub fs start t (k + 1) ⟨d.counts ++ [p.1], d.lens ++ [p.2.1]⟩ p.2.2
def wval (L : List Fm) : Nat → WSub
  | 0 => fun _ _ => none
  | n + 1 => fun id σ => wflds (wval L n) (fieldsOf L id) σ.st.length (fieldsOf L id) 0 ⟨[], []⟩ σ
/-- The checksums are laid, in their order. -/
def sumOf (st : List UInt8) (n : Nat) : Int := sumL (st.take n)
def lay1 (st : List UInt8) (c : Nat × Nat × Nat) : List UInt8 := patch st c.2.1 (nbytes c.2.2 ((sumOf st c.2.1 - sumOf st c.1) % 256 ^ c.2.2))
def layAll (st : List UInt8) (cs : List (Nat × Nat × Nat)) : List UInt8 := cs.foldl lay1 st
def bytesOf (l : List UInt8) : ByteArray := ⟨l.toArray⟩
def wwhole (L : List Fm) (id : Int) (vs : List ByteArray) : Option ByteArray :=
  if has L id then (wval L 61 id ⟨[], vs, 0, []⟩).bind fun σ => if σ.vals = [] then some (bytesOf (layAll σ.st σ.checks)) else none else none
/-- What Write tells. -/
def writ (L : List Fm) (id : Int) (vs : List ByteArray) : Option ByteArray := if vd L = true then wwhole L id vs else none

/-! the examples of the chapter -/
def lit (l : List UInt8) : ByteArray := bytesOf l
def tab0 : List Fm := [⟨2, [⟨1, 0, -1, lit [77, 90]⟩, ⟨2, 2, -1, lit []⟩, ⟨3, 0, 1, lit []⟩]⟩, ⟨7, [⟨2, 1, -1, lit []⟩, ⟨5, 2, 0, lit []⟩, ⟨6, 1, -1, lit []⟩]⟩]
example : vd tab0 = true := by decide
example : mtch tab0 2 (lit [77, 90, 0, 1, 120]) = .ok [⟨0, 2, 0, 0, 2, 0⟩, ⟨0, 2, 1, 2, 4, 1⟩, ⟨0, 2, 2, 4, 5, 0⟩] := by rfl
example : mtch tab0 2 (lit [77, 91, 0, 0]) = .error ⟨0, 2, 0, 2⟩ := by rfl
example : mtch tab0 2 (lit [77, 90, 0, 2, 120]) = .error ⟨4, 2, 2, 1⟩ := by rfl
example : mtch tab0 2 (lit [77, 90, 0, 0, 120]) = .error ⟨4, 2, 3, 4⟩ := by rfl
example : writ tab0 7 [lit [120]] = some (lit [5, 77, 90, 0, 1, 120, 0x25]) := by decide +kernel
example : mtch tab0 7 (lit [6, 77, 90, 0, 1, 120, 0x25]) = .error ⟨6, 7, 1, 4⟩ := by rfl
end Rec
end RecWr
section WrA
open Go.RowKit Fx Rec

/-! bytes are put behind a row of bytes -/
theorem infoU8 : (Tryz.prog.info? 5).map (fun i => (i.zero, i.size, i.bytes)) = some (some (.int .u8 0), 1, 1) := by kernel_rfl
theorem run_append_bytes (w : World) (ty : TypeId) (v : Value) (n : Nat) (xs : List Value) (hown : w.ownsRow 0 5 1 v n xs) (s : ByteArray) (hn : n + s.size ≤ 1000000) :
    ∃ v' w', (Builtin.append_ #[64, 9] ty #[v, .string s]).run Tryz.prog w = .ok v' w' ∧ w'.ownsRow 0 5 1 v' (n + s.size) (xs ++ Lib.strCells s) ∧ w.grownBy w' v.ownBlock ∧
      ∀ q, v'.ownBlock = some q → v.ownBlock = some q ∨ w.heap.size ≤ q := by
  obtain ⟨i0, hi, hz0, hz1, hz2⟩ := info_parts infoU8
  have h63 : n + s.size ≤ maxLen := by unfold maxLen; omega
  obtain ⟨v', w', h1, h2, h3, h4⟩ := Lib.run_append_own_string (P := Tryz.prog) w 0 64 9 ty 5 i0 Tryz.underlying64 Tryz.underlying9 hi hz0 hz1 hz2 v n xs hown s h63 (by omega) (Nat.zero_le _)
  refine ⟨v', w', h1, h2, h3, ?_⟩
  have hxl : xs.length = n := by simpa using hown.1
  rcases hown.2 with ⟨rfl, rfl⟩ | ⟨g, cap, cur, rfl, hbg, hg, hnc, hcm, hcs, htake⟩
  · obtain ⟨v2, w2, g1, g2, -, -⟩ := Lib.run_append_own_string (P := Tryz.prog) w w.heap.size 64 9 ty 5 i0 Tryz.underlying64 Tryz.underlying9 hi hz0 hz1 hz2 (.slice none 0 0) 0 xs ⟨hown.1, .inl ⟨rfl, rfl⟩⟩ s h63 (by omega) (Nat.le_refl _)
    rw [h1] at g1
    injection g1 with e1 e2
    subst e1
    intro q hq
    exact .inr (g2.lt q hq).1
  · by_cases hroom : n + s.size ≤ cap
    · have hcs' : cur.size = cap := by simpa using hcs
      have hr := Lib.run_append_room_string (P := Tryz.prog) w 64 9 ty 5 i0 Tryz.underlying64 Tryz.underlying9 hi hz1 g n cap cur hg s hroom (by omega)
      rw [h1] at hr
      injection hr with e1 e2
      subst e1
      exact fun q hq => .inl hq
    · have holds : ∀ j u, xs[j]? = some u → w.cell? ((⟨g, 0, none⟩ : Addr).add j) = some u := hown.cells (g := g) rfl
      have hr := Lib.run_append_grow_string (P := Tryz.prog) w 64 9 ty 5 i0 _ Tryz.underlying64 Tryz.underlying9 hi hz0 ⟨g, 0, none⟩ n cap xs (by rw [hz1]; simpa using hxl) holds s (by omega) (by omega) (by rw [hz2]; exact growslice_fits (by omega) (by omega))
      rw [h1] at hr
      injection hr with e1 e2
      subst e1
      intro q hq
      have : w.heap.size = q := by simpa [Value.ownBlock] using hq
      exact .inr (by omega)

/-! the writer -/
structure Wo where
  fb : Nat
  kb : Nat
  sb : Nat
  ab : Nat
  xb : Nat
  wb : Nat
  us : List Value
def kindsW (wb : Nat) : List (Int × Value) :=
  [(1, .func (.func 77) #[ptr wb] #[]), (2, .func (.func 78) #[ptr wb] #[]), (3, .func (.func 79) #[ptr wb] #[]),
   (4, .func (.func 80) #[ptr wb] #[]), (5, .func (.func 81) #[ptr wb] #[]), (6, .func (.func 82) #[ptr wb] #[])]
abbrev atW (xb : Nat) : Value := .func (.func 76) #[] #[ptr xb]
abbrev sumW (o : Wo) : Value := .func (.func 93) #[] #[ptr o.sb, ptr o.ab]
/-- The writer's own blocks: those that it writes. -/
def OwnW (w : World) (o : Wo) (k : Nat) : Prop :=
  k = o.wb ∨ k = o.sb ∨ (∃ v, w.cell? ⟨o.wb, 4, none⟩ = some v ∧ v.ownBlock = some k) ∨ (∃ v, w.cell? ⟨o.wb, 6, none⟩ = some v ∧ v.ownBlock = some k) ∨ ∃ v, w.cell? ⟨o.sb, 0, none⟩ = some v ∧ v.ownBlock = some k
structure Safe (w : World) (o : Wo) (k : Nat) : Prop where
  lt : k < w.heap.size
  no : ¬ OwnW w o k
/-- What a step of the writer leaves as it was: what isn't its own, but for the drafts of which the fields are being written. -/
structure StepW (o : Wo) (X : Nat → Prop) (w w' : World) : Prop where
  base : Kept (fun k => Safe w o k ∧ ¬ X k) w w'
  safe : ∀ k, Safe w o k → Safe w' o k
  draft : ∀ k, Safe w o k → X k → ∃ cs cs', Blk w k 152 cs ∧ Blk w' k 152 cs' ∧ cs'[2]? = cs[2]?
abbrev NoX : Nat → Prop := fun _ => False
section
variable {o : Wo} {X Y : Nat → Prop} {w w1 w2 : World}
theorem StepW.trans (h : StepW o X w w1) (k : StepW o X w1 w2) : StepW o X w w2 :=
  ⟨h.base.trans (k.base.mono fun q hq => ⟨h.safe q hq.1, hq.2⟩), fun q hq => k.safe q (h.safe q hq), fun q hq hx => by
    obtain ⟨c1, c2, a1, a2, a3⟩ := h.draft q hq hx
    obtain ⟨c3, c4, b1, b2, b3⟩ := k.draft q (h.safe q hq) hx
    have e : c2 = c3 := by
      have := a2.symm.trans b1
      injection this with this
      injection this
    subst e
    exact ⟨c1, c4, a1, b2, b3.trans a3⟩⟩
theorem StepW.same (h : StepW o NoX w w1) {k : Nat} (hk : Safe w o k) : w1.heap[k]? = w.heap[k]? := h.base.block k ⟨hk, fun e => e⟩
theorem StepW.widen (h : StepW o NoX w w1) {X : Nat → Prop} (hx : ∀ k, X k → ∃ cs, Blk w k 152 cs) : StepW o X w w1 :=
  ⟨h.base.mono fun k hk => ⟨hk.1, fun e => e⟩, h.safe, fun k hk hX => by
    obtain ⟨cs, hb⟩ := hx k hX
    exact ⟨cs, cs, hb, (h.same hk).trans hb, rfl⟩⟩
theorem StepW.other (h : StepW o X w w1) {k : Nat} {t : TypeId} {cs : Array Value} (hk : Safe w o k) (hb : Blk w k t cs) (ht : t ≠ 152) : w1.heap[k]? = w.heap[k]? := by
  by_cases hX : X k
  · obtain ⟨c1, _, b1, _⟩ := h.draft k hk hX
    exact absurd rfl (Blk.ne_ hb b1 ht)
  · exact h.base.block k ⟨hk, hX⟩
theorem StepW.not_cells (h : StepW o X w w1) {k : Nat} (hk : Safe w o k) (hb : ∀ cs, ¬ Blk w k 152 cs) : w1.heap[k]? = w.heap[k]? := by
  by_cases hX : X k
  · obtain ⟨c1, _, b1, _⟩ := h.draft k hk hX
    exact absurd b1 (hb c1)
  · exact h.base.block k ⟨hk, hX⟩
end
end WrA
section WrB
open Go.RowKit Fx Rec

def bytesV (l : List UInt8) : List Value := l.map fun b => Value.int .u8 b.toNat
theorem bytesV_len (l : List UInt8) : (bytesV l).length = l.length := by simp [bytesV]
theorem bytesV_app (a : List UInt8) (s : ByteArray) : bytesV a ++ Lib.strCells s = bytesV (a ++ s.data.toList) := by simp [bytesV, Lib.strCells]
/-- Strings in a row. -/
def StrsV (w : World) (v : Value) (l : List ByteArray) : Prop :=
  ∃ a c, v = .slice a l.length c ∧ l.length ≤ c ∧ c ≤ maxLen ∧ (l = [] ∨ ∃ b off, a = some ⟨b, off, none⟩ ∧ ∀ j, j < l.length → w.cell? ⟨b, off + j, none⟩ = some (.string (l.getD j ByteArray.empty)))
/-- A function that lays a number, when it is known. -/
def LeaveAt (w : World) (o : Wo) (v : Value) (h : Nat × Nat) : Prop :=
  ∃ x y z, v = .func (.func 110) #[] #[ptr x, ptr y, ptr z] ∧ (Blk w x 3 #[.int .i64 h.2] ∧ Safe w o x) ∧ (Blk w y 3 #[.int .i64 h.1] ∧ Safe w o y) ∧ Blk w z 90 #[ptr o.wb] ∧ Safe w o z
/-- A function that lays a checksum. -/
def ChkAt (w : World) (o : Wo) (v : Value) (c : Nat × Nat × Nat) : Prop :=
  ∃ g0 g1 g2 g3 g4 db u f, v = .func (.func 102) #[] #[ptr g0, ptr g1, ptr g2, ptr g3, ptr g4] ∧ LeaveAt w o u c.2 ∧ (Blk w g0 124 #[u] ∧ Safe w o g0) ∧ (Blk w g1 90 #[ptr o.wb] ∧ Safe w o g1) ∧
    (Blk w g2 3 #[.int .i64 c.2.1] ∧ Safe w o g2) ∧ (Blk w g3 147 #[ptr db] ∧ Safe w o g3) ∧ (Blk w g4 56 (fldC f).toArray ∧ f.n = c.2.2 ∧ Safe w o g4) ∧ w.cell? ⟨db, 2, none⟩ = some (.int .i64 c.1) ∧ Safe w o db
/-- What stays as it is. -/
structure WrFix (w : World) (o : Wo) (top : Nat) (L : List Fm) : Prop where
  ab : Blk w o.ab 114 #[atW o.xb]
  xb : Blk w o.xb 90 #[ptr o.wb]
  kinds : MapE w o.kb (kindsW o.wb)
  fields : MapE w o.fb (fieldsE L o.us)
  ul : o.us.length = L.length
  flds : ∀ i, i < L.length → FldsAt w (o.us.getD i undef) (L.getD i zm).fs
  sa : Safe w o o.ab ∧ o.ab < top
  sx : Safe w o o.xb ∧ o.xb < top
  sk : Safe w o o.kb ∧ o.kb < top
  sf : Safe w o o.fb ∧ o.fb < top
  su : ∀ i b, i < L.length → (o.us.getD i undef).ownBlock = some b → Safe w o b ∧ b < top
  tp : top ≤ w.heap.size
  ok : Ok L
/-- What grows. -/
structure WrMut (w : World) (o : Wo) (top : Nat) (σ : Ws) (k : Nat) (vv vst vch vs : Value) (chs : List Value) : Prop where
  blk : Blk w o.wb 122 #[.map (some o.fb), .map (some o.kb), vv, .int .i64 (σ.parts : Nat), vst, sumW o, vch]
  vals : StrsV w vv σ.vals
  sv : ∀ b, vv.ownBlock = some b → σ.vals ≠ [] → Safe w o b ∧ b < top
  st : w.ownsRow 0 5 1 vst σ.st.length (bytesV σ.st)
  sums : SumsAt w o.sb o.ab (atW o.xb) (sumTo (bytesOf σ.st)) k vs
  kle : k ≤ σ.st.length
  ch : w.ownsRow 0 1 1 vch σ.checks.length chs
  chks : ∀ i, i < σ.checks.length → ChkAt w o (chs.getD i undef) (σ.checks.getD i (0, 0, 0))
  len : σ.st.length ≤ 65536
  pl : σ.parts ≤ 5000
/-- A writer that has written this. -/
def WrAt (w : World) (o : Wo) (top : Nat) (L : List Fm) (σ : Ws) (k : Nat) : Prop := WrFix w o top L ∧ ∃ vv vst vch vs chs, WrMut w o top σ k vv vst vch vs chs

section
variable {o : Wo} {X : Nat → Prop} {w w1 : World} {top : Nat} {L : List Fm} {σ : Ws} {k : Nat}
theorem LeaveAt.step {v : Value} {h : Nat × Nat} (hl : LeaveAt w o v h) (hs : StepW o X w w1) : LeaveAt w1 o v h := by
  obtain ⟨x, y, z, rfl, ⟨b1, s1⟩, ⟨b2, s2⟩, b3, s3⟩ := hl
  exact ⟨x, y, z, rfl, ⟨(hs.other s1 b1 (by decide)).trans b1, hs.safe _ s1⟩, ⟨(hs.other s2 b2 (by decide)).trans b2, hs.safe _ s2⟩, (hs.other s3 b3 (by decide)).trans b3, hs.safe _ s3⟩
theorem ChkAt.step {v : Value} {c : Nat × Nat × Nat} (hl : ChkAt w o v c) (hs : StepW o X w w1) : ChkAt w1 o v c := by
  obtain ⟨g0, g1, g2, g3, g4, db, u, f, rfl, hu, ⟨b0, s0⟩, ⟨b1, s1⟩, ⟨b2, s2⟩, ⟨b3, s3⟩, ⟨b4, hn, s4⟩, c5, s5⟩ := hl
  refine ⟨g0, g1, g2, g3, g4, db, u, f, rfl, hu.step hs, ⟨(hs.other s0 b0 (by decide)).trans b0, hs.safe _ s0⟩, ⟨(hs.other s1 b1 (by decide)).trans b1, hs.safe _ s1⟩, ⟨(hs.other s2 b2 (by decide)).trans b2, hs.safe _ s2⟩,
    ⟨(hs.other s3 b3 (by decide)).trans b3, hs.safe _ s3⟩, ⟨(hs.other s4 b4 (by decide)).trans b4, hn, hs.safe _ s4⟩, ?_, hs.safe _ s5⟩
  by_cases hX : X db
  · obtain ⟨c1, c2, q1, q2, q3⟩ := hs.draft db s5 hX
    rw [q1.cell] at c5
    rw [q2.cell, q3, c5]
  · rw [World.cell?_of_block (w := w) (hs.base.block db ⟨s5, hX⟩)]; exact c5
theorem StrsV.step {v : Value} {l : List ByteArray} (h : StrsV w v l) (hs : ∀ b, v.ownBlock = some b → l ≠ [] → w1.heap[b]? = w.heap[b]?) : StrsV w1 v l := by
  obtain ⟨a, c, rfl, h1, h2, h3⟩ := h
  refine ⟨a, c, rfl, h1, h2, ?_⟩
  rcases h3 with h3 | ⟨b, off, rfl, h4⟩
  · exact .inl h3
  · by_cases hl : l = []
    · exact .inl hl
    · refine .inr ⟨b, off, rfl, fun j hj => ?_⟩
      rw [World.cell?_of_block (w := w) (hs b rfl hl)]
      exact h4 j hj
theorem StepW.old (hs : StepW o X w w1) (hX : ∀ k, X k → top ≤ k) {b : Nat} (h : Safe w o b ∧ b < top) : w1.heap[b]? = w.heap[b]? := hs.base.block b ⟨h.1, fun hx => by have := hX b hx; omega⟩
theorem WrFix.step (h : WrFix w o top L) (hs : StepW o X w w1) (hX : ∀ k, X k → top ≤ k) : WrFix w1 o top L :=
  { h with
    ab := (hs.old hX h.sa).trans h.ab
    xb := (hs.old hX h.sx).trans h.xb
    kinds := h.kinds.of_block (hs.old hX h.sk)
    fields := h.fields.of_block (hs.old hX h.sf)
    flds := fun i hi => (h.flds i hi).keep hs.base.size fun b hb => hs.old hX (h.su i b hi hb)
    sa := ⟨hs.safe _ h.sa.1, h.sa.2⟩
    sx := ⟨hs.safe _ h.sx.1, h.sx.2⟩
    sk := ⟨hs.safe _ h.sk.1, h.sk.2⟩
    sf := ⟨hs.safe _ h.sf.1, h.sf.2⟩
    su := fun i b hi hb => ⟨hs.safe _ (h.su i b hi hb).1, (h.su i b hi hb).2⟩
    tp := Nat.le_trans h.tp hs.base.size }
theorem StepW.make (hk : Kept (Safe w o) w w1) (hown : ∀ q, OwnW w1 o q → OwnW w o q ∨ w.heap.size ≤ q) : StepW o NoX w w1 :=
  ⟨hk.mono fun _ h => h.1, fun q hq => ⟨Nat.lt_of_lt_of_le hq.lt hk.size, fun h => by
    rcases hown q h with h | h
    · exact hq.no h
    · have := hq.lt; omega⟩, fun _ _ h => h.elim⟩
section
variable {vv vst vch vs : Value} {chs : List Value}
theorem WrMut.own_ (hm : WrMut w o top σ k vv vst vch vs chs) (q : Nat) : OwnW w o q ↔ q = o.wb ∨ q = o.sb ∨ vst.ownBlock = some q ∨ vch.ownBlock = some q ∨ vs.ownBlock = some q := by
  have c4 : w.cell? ⟨o.wb, 4, none⟩ = some vst := by rw [hm.blk.cell]; rfl
  have c6 : w.cell? ⟨o.wb, 6, none⟩ = some vch := by rw [hm.blk.cell]; rfl
  have c0 : w.cell? ⟨o.sb, 0, none⟩ = some vs := by rw [hm.sums.sb.cell]; rfl
  unfold OwnW
  rw [c4, c6, c0]
  simp
theorem WrMut.own_in (hm : WrMut w o top σ k vv vst vch vs chs) {q : Nat} (h : OwnW w o q) : q < w.heap.size := by
  rcases (hm.own_ q).1 h with rfl | rfl | h | h | h
  · exact hm.blk.lt
  · exact hm.sums.sb.lt
  · exact own_lt hm.st h
  · exact own_lt hm.ch h
  · exact own_lt hm.sums.row h
/-- New blocks make no difference, and are safe. -/
theorem WrMut.below (hm : WrMut w o top σ k vv vst vch vs chs) (hb : Below w.heap.size w w1) : StepW o NoX w w1 ∧ (∀ q, w.heap.size ≤ q → q < w1.heap.size → Safe w1 o q) ∧ WrMut w1 o top σ k vv vst vch vs chs := by
  have hc : ∀ b i, b < w.heap.size → w1.cell? ⟨b, i, none⟩ = w.cell? ⟨b, i, none⟩ := fun b i h => World.cell?_of_block (w := w) (hb.block b h)
  have hown : ∀ q, OwnW w1 o q → OwnW w o q := fun q => by
    unfold OwnW
    rw [hc _ _ hm.blk.lt, hc _ _ hm.blk.lt, hc _ _ hm.sums.sb.lt]
    exact fun h => h
  have hs : StepW o NoX w w1 := StepW.make (Kept.of_below hb fun q hq => hq.lt) fun q h => .inl (hown q h)
  refine ⟨hs, fun q h1 h2 => ⟨h2, fun h => by have := hm.own_in (hown q h); omega⟩, ?_⟩
  exact { hm with
    blk := (hb.block _ hm.blk.lt).trans hm.blk
    vals := hm.vals.step fun b h1 h2 => hs.same (hm.sv b h1 h2).1
    sv := fun b h1 h2 => ⟨hs.safe _ (hm.sv b h1 h2).1, (hm.sv b h1 h2).2⟩
    st := ownsRow_below hm.st hb
    sums := hm.sums.below hb
    ch := ownsRow_below hm.ch hb
    chks := fun i hi => (hm.chks i hi).step hs }
end
theorem WrAt.below (h : WrAt w o top L σ k) (hb : Below w.heap.size w w1) : StepW o NoX w w1 ∧ (∀ q, w.heap.size ≤ q → q < w1.heap.size → Safe w1 o q) ∧ WrAt w1 o top L σ k := by
  obtain ⟨hf, vv, vst, vch, vs, chs, hm⟩ := h
  obtain ⟨h1, h2, h3⟩ := hm.below hb
  exact ⟨h1, h2, hf.step h1 (fun _ h => h.elim), vv, vst, vch, vs, chs, h3⟩
theorem SumsAt.ext {sb ab : Nat} {fv : Value} {σ σ' : Nat → Int} {k : Nat} {vs : Value} (h : SumsAt w sb ab fv σ k vs) (he : ∀ i, i ≤ k → σ' i = σ i) : SumsAt w sb ab fv σ' k vs :=
  ⟨h.sb, h.ab, by
    have e : ((List.range (k + 1)).map fun i => Value.int .i64 (σ' i)) = (List.range (k + 1)).map fun i => Value.int .i64 (σ i) := List.map_congr_left fun i hi => by rw [he i (by rw [List.mem_range] at hi; omega)]
    rw [e]; exact h.row⟩
theorem sumTo_bytes (l : List UInt8) (n : Nat) : sumTo (bytesOf l) n = sumL (l.take n) := by unfold sumTo bytesOf; rfl
theorem sumTo_app (a b : List UInt8) {i : Nat} (h : i ≤ a.length) : sumTo (bytesOf (a ++ b)) i = sumTo (bytesOf a) i := by
  rw [sumTo_bytes, sumTo_bytes, List.take_append_of_le_length h]
end
end WrB
section WrC
open Go.RowKit Fx Rec

theorem own_iff {w : World} {o : Wo} {vv p vst vch vs a b : Value} (hb : Blk w o.wb 122 #[a, b, vv, p, vst, sumW o, vch]) (hs : Blk w o.sb 24 #[vs]) (q : Nat) :
    OwnW w o q ↔ q = o.wb ∨ q = o.sb ∨ vst.ownBlock = some q ∨ vch.ownBlock = some q ∨ vs.ownBlock = some q := by
  have c4 : w.cell? ⟨o.wb, 4, none⟩ = some vst := by rw [hb.cell]; rfl
  have c6 : w.cell? ⟨o.wb, 6, none⟩ = some vch := by rw [hb.cell]; rfl
  have c0 : w.cell? ⟨o.sb, 0, none⟩ = some vs := by rw [hs.cell]; rfl
  unfold OwnW
  rw [c4, c6, c0]
  simp
section
variable {o : Wo} {w W w1 : World} {top : Nat} {L : List Fm} {σ σ' : Ws} {k : Nat} {vv vst vch vs : Value} {chs : List Value}
theorem WrMut.safe_wb (hm : WrMut w o top σ k vv vst vch vs chs) : ¬ Safe w o o.wb := fun h => h.no ((hm.own_ _).2 (.inl rfl))
theorem WrMut.st_wb (hm : WrMut w o top σ k vv vst vch vs chs) : vst.ownBlock ≠ some o.wb := own_blk_ne hm.st hm.blk (by decide)
theorem WrMut.ch_wb (hm : WrMut w o top σ k vv vst vch vs chs) : vch.ownBlock ≠ some o.wb := own_blk_ne hm.ch hm.blk (by decide)
theorem WrMut.vs_wb (hm : WrMut w o top σ k vv vst vch vs chs) : vs.ownBlock ≠ some o.wb := own_blk_ne hm.sums.row hm.blk (by decide)
theorem WrMut.sb_wb (hm : WrMut w o top σ k vv vst vch vs chs) : o.sb ≠ o.wb := Blk.ne_ hm.sums.sb hm.blk (by decide)
theorem WrMut.ab_wb (hm : WrMut w o top σ k vv vst vch vs chs) : o.ab ≠ o.wb := Blk.ne_ hm.sums.ab hm.blk (by decide)
/-- A cell of the writer that tells nothing of its own blocks is written. -/
theorem WrMut.poke (hm : WrMut w o top σ k vv vst vch vs chs) (hb : Below w.heap.size w W) (c : Nat) (u : Value) {vv' : Value}
    (hblk : Blk (W.setCell ⟨o.wb, c, none⟩ u) o.wb 122 #[.map (some o.fb), .map (some o.kb), vv', .int .i64 (σ'.parts : Nat), vst, sumW o, vch])
    (e1 : σ'.st = σ.st) (e2 : σ'.checks = σ.checks) (hv : StrsV w vv' σ'.vals) (hsv : ∀ b, vv'.ownBlock = some b → σ'.vals ≠ [] → Safe w o b ∧ b < top) (hp : σ'.parts ≤ 5000) :
    StepW o NoX w (W.setCell ⟨o.wb, c, none⟩ u) ∧ WrMut (W.setCell ⟨o.wb, c, none⟩ u) o top σ' k vv' vst vch vs chs := by
  obtain ⟨-, -, hW⟩ := hm.below hb
  have E : ∀ q, q ≠ o.wb → (W.setCell ⟨o.wb, c, none⟩ u).heap[q]? = W.heap[q]? := fun q hq => Below.heap_setCell _ _ _ _ hq
  have sums : SumsAt (W.setCell ⟨o.wb, c, none⟩ u) o.sb o.ab (atW o.xb) (sumTo (bytesOf σ.st)) k vs := hW.sums.keep (E _ hW.sb_wb) (E _ hW.ab_wb) fun g hg => E g fun e => hW.vs_wb (e ▸ hg)
  have hk : Kept (Safe w o) w (W.setCell ⟨o.wb, c, none⟩ u) := (Kept.of_below hb fun q hq => hq.lt).setCell hm.safe_wb _
  have hs : StepW o NoX w (W.setCell ⟨o.wb, c, none⟩ u) := StepW.make hk fun q h => .inl ((hm.own_ q).2 ((own_iff hblk sums.sb q).1 h))
  refine ⟨hs, { blk := hblk, vals := hv.step fun b h1 h2 => hs.same (hsv b h1 h2).1, sv := fun b h1 h2 => ⟨hs.safe _ (hsv b h1 h2).1, (hsv b h1 h2).2⟩, st := ?_, sums := ?_, kle := ?_, ch := ?_, chks := ?_, len := ?_, pl := hp }⟩
  · rw [e1]; exact own_keep hW.st fun g cur hg _ => E g fun e => hW.st_wb (e ▸ hg)
  · rw [e1]; exact sums
  · rw [e1]; exact hm.kle
  · rw [e2]; exact own_keep hW.ch fun g cur hg _ => E g fun e => hW.ch_wb (e ▸ hg)
  · rw [e2]; exact fun i hi => (hm.chks i hi).step hs
  · rw [e1]; exact hm.len
/-- Bytes have been put behind the others. -/
theorem WrMut.added (hm : WrMut w o top σ k vv vst vch vs chs) (hb : Below w.heap.size w W) {v1 : Value} {s : ByteArray} (hl : σ.st.length + s.size ≤ 65536)
    (h1 : w1.ownsRow 0 5 1 v1 (σ.st.length + s.size) (bytesV σ.st ++ Lib.strCells s)) (hg : W.grownBy w1 vst.ownBlock) (hn : ∀ q, v1.ownBlock = some q → vst.ownBlock = some q ∨ W.heap.size ≤ q) :
    (w1.cell? ⟨o.wb, 4, none⟩ = some vst ∧ w1.frozen? ⟨o.wb, 4, none⟩ = false) ∧ StepW o NoX w (w1.setCell ⟨o.wb, 4, none⟩ v1) ∧ WrMut (w1.setCell ⟨o.wb, 4, none⟩ v1) o top { σ with st := σ.st ++ s.data.toList } k vv v1 vch vs chs := by
  obtain ⟨-, -, hW⟩ := hm.below hb
  have G : ∀ q, q < W.heap.size → vst.ownBlock ≠ some q → w1.heap[q]? = W.heap[q]? := fun q hq hne => hg.block q hq (fun e => hne e.symm)
  have hblk1 : Blk w1 o.wb 122 _ := (G _ hW.blk.lt hW.st_wb).trans hW.blk
  have hsb1 : Blk w1 o.sb 24 _ := (G _ hW.sums.sb.lt (own_blk_ne hW.st hW.sums.sb (by decide))).trans hW.sums.sb
  have E : ∀ q, q ≠ o.wb → (w1.setCell ⟨o.wb, 4, none⟩ v1).heap[q]? = w1.heap[q]? := fun q hq => Below.heap_setCell _ _ _ _ hq
  have hblk2 : Blk (w1.setCell ⟨o.wb, 4, none⟩ v1) o.wb 122 #[.map (some o.fb), .map (some o.kb), vv, .int .i64 (σ.parts : Nat), v1, sumW o, vch] := hblk1.set_ 4 v1
  have sums : SumsAt (w1.setCell ⟨o.wb, 4, none⟩ v1) o.sb o.ab (atW o.xb) (sumTo (bytesOf σ.st)) k vs :=
    hW.sums.keep ((E _ hW.sb_wb).trans (G _ hW.sums.sb.lt (own_blk_ne hW.st hW.sums.sb (by decide)))) ((E _ hW.ab_wb).trans (G _ hW.sums.ab.lt (own_blk_ne hW.st hW.sums.ab (by decide))))
      fun g hgg => (E g fun e => hW.vs_wb (e ▸ hgg)).trans (G g (own_lt hW.sums.row hgg) fun e => own_own_ne hW.st hW.sums.row (by decide) e hgg rfl)
  have hk : Kept (Safe w o) w (w1.setCell ⟨o.wb, 4, none⟩ v1) :=
    ((Kept.of_below hb fun q hq => hq.lt).grown hg (fun q hq => Nat.lt_of_lt_of_le hq.lt hb.size) (fun q hq hS => hS.no ((hm.own_ q).2 (.inr (.inr (.inl hq)))))).setCell hm.safe_wb _
  have hs : StepW o NoX w (w1.setCell ⟨o.wb, 4, none⟩ v1) := StepW.make hk fun q h => by
    rcases (own_iff hblk2 sums.sb q).1 h with h | h | h | h | h
    · exact .inl ((hm.own_ q).2 (.inl h))
    · exact .inl ((hm.own_ q).2 (.inr (.inl h)))
    · rcases hn q h with h | h
      · exact .inl ((hm.own_ q).2 (.inr (.inr (.inl h))))
      · exact .inr (Nat.le_trans hb.size h)
    · exact .inl ((hm.own_ q).2 (.inr (.inr (.inr (.inl h)))))
    · exact .inl ((hm.own_ q).2 (.inr (.inr (.inr (.inr h)))))
  have hlen : (σ.st ++ s.data.toList).length = σ.st.length + s.size := by rw [List.length_append]; simp
  refine ⟨⟨by rw [hblk1.cell]; rfl, hblk1.frozen 4⟩, hs, { blk := hblk2, vals := hm.vals.step fun b h1 h2 => hs.same (hm.sv b h1 h2).1, sv := fun b h1 h2 => ⟨hs.safe _ (hm.sv b h1 h2).1, (hm.sv b h1 h2).2⟩, st := ?_, sums := ?_, kle := ?_, ch := ?_, chks := fun i hi => (hm.chks i hi).step hs, len := ?_, pl := hm.pl }⟩
  · rw [hlen, ← bytesV_app]
    exact own_keep h1 fun g cur _ hh => E g (Blk.ne_ (t := 5) hh hblk1 (by decide))
  · exact sums.ext fun i hi => sumTo_app _ _ (by have := hm.kle; omega)
  · show k ≤ (σ.st ++ s.data.toList).length
    have := hm.kle; omega
  · refine own_keep hW.ch fun g cur hgg hh => (E g fun e => hW.ch_wb (e ▸ hgg)).trans (G g (lt_of_heap hh) fun e => own_own_ne hW.st hW.ch (by decide) e hgg rfl)
  · show (σ.st ++ s.data.toList).length ≤ 65536
    omega
theorem WrMut.slice_ (hm : WrMut w o top σ k vv vst vch vs chs) : ∃ a c, vst = .slice a σ.st.length c ∧ σ.st.length ≤ c ∧ c ≤ maxLen := by
  rcases hm.st.2 with ⟨rfl, h0⟩ | ⟨g, cap, cur, rfl, _, _, h1, h2, _⟩
  · exact ⟨none, 0, by rw [h0], by omega, by simp [maxLen]⟩
  · exact ⟨_, cap, rfl, h1, h2⟩
end

/-- What comes of a part of the writer. -/
def WPost (w : World) (o : Wo) (top : Nat) (L : List Fm) (k : Nat) (r : Option Ws) (e : Ending) (w' : World) : Prop :=
  StepW o NoX w w' ∧ match r with
  | some σ => e = .returned (.tuple #[]) ∧ WrAt w' o top L σ k
  | none => e = Stops zRf
theorem WPost.no {w w' : World} {o : Wo} {top : Nat} {L : List Fm} {σ : Ws} {k : Nat} {r : Option Ws} (hr : r = none) (h : WrAt w o top L σ k) (hb : Below w.heap.size w w') : WPost w o top L k r (Stops zRf) w' := by
  subst hr
  exact ⟨(h.below hb).1, rfl⟩

theorem wpList_append_bytes {w : World} {ops : Array Oper} {rest : List Oper} {o : Oper} {a : Act} {Q : Exit → Act → World → Prop} (hgd : o.guard = none) (sl x : Operand)
    (ho : o.op = .call { callee := .builtin .append, args := #[sl, x], argTypes := #[64, 9] })
    (v : Value) (n : Nat) (xs : List Value) (hs : a.eval sl = v) (hown : w.ownsRow 0 5 1 v n xs) (s : ByteArray) (hx : a.eval x = .string s) (hn : n + s.size ≤ 1000000)
    (h : ∀ v' w', w'.ownsRow 0 5 1 v' (n + s.size) (xs ++ Lib.strCells s) → w.grownBy w' v.ownBlock → (∀ q, v'.ownBlock = some q → v.ownBlock = some q ∨ w.heap.size ≤ q) → wpList Tryz.prog ops Q rest (a.put o.dst v') w') : wpList Tryz.prog ops Q (o :: rest) a w := by
  refine wpList_plain hgd fun K hK => ?_
  obtain ⟨v', w', hr, h2, h3, h4⟩ := run_append_bytes w o.type v n xs hown s hn
  unfold Oper.wp execOp
  simp only [ho, resolve, invoke, builtin, Sem.run_bind, Sem.run_pure, Result.andThen_ok, List.map_toArray, List.map_cons, List.map_nil, hs, hx, hr]
  exact hK _ _ (h v' w' h2 h3 h4)
set_option maxRecDepth 20000 in
set_option maxHeartbeats 600000 in
theorem wadd_any {w : World} {o : Wo} {top : Nat} {L : List Fm} {σ : Ws} {k : Nat} (h : WrAt w o top L σ k) (s : ByteArray) (hs : s.size ≤ 4611686018427387904) :
    Calls Tryz.prog 98 #[ptr o.wb, .string s] w fun e w' => WPost w o top L k (addW σ s.data.toList) e w' := by
  have hsz : s.data.toList.length = s.size := by simp
  obtain ⟨hf, vv, vst, vch, vs, chs, hm⟩ := h
  obtain ⟨a, c, hvst, hc1, hc2⟩ := hm.slice_
  have c4 : w.cell? ⟨o.wb, 4, none⟩ = some vst := by rw [hm.blk.cell]; rfl
  obtain ⟨n, hn⟩ : ∃ n : Nat, σ.st.length = n := ⟨_, rfl⟩
  have hle := hm.len
  have HM := Lib.hid (And.intro hf hm)
  have HN : Hid (σ.st.length = n ∧ s.data.toList.length = s.size) := Lib.hid ⟨hn, hsz⟩
  have HV := Lib.hid hvst
  rw [hvst, hn] at c4
  rw [hn] at hc1 hle
  clear hf hm hn hsz hvst
  by_cases hfit : n + s.size ≤ 65536
  · have hd : decide ((n : Int) + (s.size : Int) ≤ 65536) = true := decide_eq_true (by omega)
    go_enter Tryz.func98, Tryz.ntmps98
    go_wp2_with fail
    refine (require_yes _).mono ?_
    rintro e w5 ⟨rfl, rfl⟩
    have hrow := HM.out.2.st
    rw [HN.out.1, HV.out, HN.out.1] at hrow
    go_wp2_with (at_builtin; refine wpList_append_bytes rfl _ _ rfl _ _ _ rfl hrow s rfl ?c3 ?_)
    case c3 => omega
    intro v1 w1 h1 hg hnew
    obtain ⟨a1, n1, c1, rfl⟩ : ∃ a1 n1 c1, v1 = .slice a1 n1 c1 := by
      rcases h1.2 with ⟨hv, _⟩ | ⟨g, cap, cur, hv, _⟩
      · exact ⟨_, _, _, hv⟩
      · exact ⟨_, _, _, hv⟩
    have hA := HM.out.2.added (Below.refl _ _) (s := s) (by rw [HN.out.1]; exact hfit) (by rw [HN.out.1]; exact h1) (by rw [HV.out, HN.out.1]; exact hg) (by rw [HV.out, HN.out.1]; exact hnew)
    obtain ⟨⟨d1, f1⟩, hst, hmm⟩ := hA
    have HX := Lib.hid (And.intro hst hmm)
    clear hst hmm h1 hg hnew
    go_wp2_with fail
    first | go_end0 | go_ret
    refine ⟨HX.out.1, ?_⟩
    unfold addW
    rw [if_pos (by rw [HN.out.1, HN.out.2]; exact hfit)]
    exact ⟨rfl, HM.out.1.step HX.out.1 (fun _ h => h.elim), _, _, _, _, _, HX.out.2⟩
  · have hd : decide ((n : Int) + (s.size : Int) ≤ 65536) = false := decide_eq_false (by omega)
    go_enter Tryz.func98, Tryz.ntmps98
    go_wp2_with fail
    refine (require_no _).mono ?_
    rintro e w5 ⟨rfl, rfl⟩
    exact ⟨rfl, WPost.no (by unfold addW; exact if_neg (by rw [HN.out.1, HN.out.2]; exact hfit)) ⟨HM.out.1, _, _, _, _, _, HM.out.2⟩ (Below.refl _ _)⟩
end WrC
section WrD
open Go.RowKit Fx Rec

theorem WPost.yes {w w' : World} {o : Wo} {top : Nat} {L : List Fm} {σ : Ws} {k : Nat} {r : Option Ws} (hr : r = some σ) (hs : StepW o NoX w w') (h : WrAt w' o top L σ k) : WPost w o top L k r (.returned (.tuple #[])) w' := by
  subst hr
  exact ⟨hs, rfl, h⟩
theorem WPost.stop {w w' : World} {o : Wo} {top : Nat} {L : List Fm} {k : Nat} {r : Option Ws} (hr : r = none) (hs : StepW o NoX w w') : WPost w o top L k r (Stops zRf) w' := by
  subst hr
  exact ⟨hs, rfl⟩
def NPost (w : World) (o : Wo) (top : Nat) (L : List Fm) (k : Nat) (r : Option (ByteArray × Ws)) (e : Ending) (w' : World) : Prop :=
  StepW o NoX w w' ∧ match r with
  | some p => e = .returned (.string p.1) ∧ WrAt w' o top L p.2 k
  | none => e = Stops zRf
set_option maxRecDepth 20000 in
set_option maxHeartbeats 600000 in
theorem wnext_any {w : World} {o : Wo} {top : Nat} {L : List Fm} {σ : Ws} {k : Nat} (h : WrAt w o top L σ k) :
    Calls Tryz.prog 101 #[ptr o.wb] w fun e w' => NPost w o top L k (nextW σ) e w' := by
  obtain ⟨hf, vv, vst, vch, vs, chs, hm⟩ := h
  obtain ⟨a, c, hvv, hc1, hc2, hcells⟩ := hm.vals
  have c2 : w.cell? ⟨o.wb, 2, none⟩ = some vv := by rw [hm.blk.cell]; rfl
  have f2 := hm.blk.frozen 2
  have HM := Lib.hid (And.intro hf hm)
  have HV := Lib.hid hvv
  rcases hvals : σ.vals with _ | ⟨x, t⟩
  · rw [hvv, hvals] at c2
    have HS := Lib.hid hvals
    clear hf hm hvv hcells hvals hc1
    go_enter Tryz.func101, Tryz.ntmps101
    go_wp2_with fail
    refine (require_no _).mono ?_
    rintro e w5 ⟨rfl, rfl⟩
    refine ⟨rfl, (WrAt.below ⟨HM.out.1, _, _, _, _, _, HM.out.2⟩ (Below.refl _ _)).1, ?_⟩
    unfold nextW
    rw [HS.out]
  · rw [hvals] at hcells hc1
    rcases hcells with h0 | ⟨b, off, hab, hcell⟩
    · cases h0
    subst hab
    have x0 := hcell 0 (by simp)
    simp only [Nat.add_zero, List.getD_cons_zero] at x0
    have hlt : b < w.heap.size := (hm.sv b (by rw [hvv]; rfl) (by rw [hvals]; simp)).1.lt
    obtain ⟨n, hn⟩ : ∃ n, n = t.length := ⟨_, rfl⟩
    rw [List.length_cons] at hc1
    rw [hvv, hvals, List.length_cons, ← hn] at c2
    have hd : decide (((n + 1 : Nat) : Int) > 0) = true := decide_eq_true (by omega)
    rw [← hn] at hc1
    have HP : Hid (∀ a', (a' = some ⟨b, off + 1, none⟩ ∨ n = 0 ∧ a' = some ⟨b, off, none⟩) → NPost w o top L k (nextW σ) (.returned (.string x)) (w.setCell ⟨o.wb, 2, none⟩ (.slice a' n (c - 1)))) := Lib.hid fun a' ha => by
      have hob : (Value.slice a' n (c - 1)).ownBlock = some b := by rcases ha with rfl | ⟨_, rfl⟩ <;> rfl
      have hP := hm.poke (σ' := { σ with vals := t }) (Below.refl _ _) 2 (.slice a' n (c - 1)) (vv' := .slice a' n (c - 1)) (hm.blk.set_ 2 _) rfl rfl
        ⟨a', c - 1, by rw [hn], by show t.length ≤ c - 1; omega, by omega, by
          rcases ha with rfl | ⟨h0, rfl⟩
          · refine .inr ⟨b, off + 1, rfl, fun j hj => ?_⟩
            have := hcell (j + 1) (by rw [List.length_cons]; exact Nat.succ_lt_succ hj)
            rw [List.getD_cons_succ] at this
            rw [show off + 1 + j = off + (j + 1) by omega]
            exact this
          · exact .inl (List.eq_nil_of_length_eq_zero (show t.length = 0 by omega))⟩
        (fun g hg _ => hm.sv g (by rw [hvv]; rw [hob] at hg; exact hg) (by rw [hvals]; simp)) hm.pl
      refine ⟨hP.1, ?_⟩
      unfold nextW
      rw [hvals]
      exact ⟨rfl, hf.step hP.1 (fun _ h => h.elim), _, _, _, _, _, hP.2⟩
    have HS := Lib.hid (And.intro hvals (And.intro hn hcell))
    clear hf hm hvv hvals hn hcell
    by_cases hc : c = 1
    · subst hc
      obtain rfl : n = 0 := by omega
      go_enter Tryz.func101, Tryz.ntmps101
      go_wp2_with fail
      refine (require_yes _).mono ?_
      rintro e w5 ⟨rfl, rfl⟩
      go_wp2_with fail
      first | go_end0 | go_ret
      exact HP.out _ (.inr (by simp))
    · go_enter Tryz.func101, Tryz.ntmps101
      go_wp2_with fail
      refine (require_yes _).mono ?_
      rintro e w5 ⟨rfl, rfl⟩
      go_wp2_with fail
      first | go_end0 | go_ret
      exact HP.out _ (.inl rfl)

set_option maxRecDepth 20000 in
set_option maxHeartbeats 600000 in
theorem wr_literal {w : World} {o : Wo} {top : Nat} {L : List Fm} {σ : Ws} {k : Nat} (h : WrAt w o top L σ k) (x : Value) (f : Fld) (ht : f.text.size ≤ 16) :
    Calls Tryz.prog 77 #[ptr o.wb, x, fldV f] w fun e w' => WPost w o top L k (addW σ f.text.data.toList) e w' := by
  have HB := Lib.hid (h.below (bx (.cells (fldC f).toArray 56)))
  have HBX := Lib.hid (box_cells w f)
  clear h
  have c3 := HBX.out.2.2.2
  go_enter Tryz.func77, Tryz.ntmps77
  go_wp2_with fail
  refine (wadd_any HB.out.2.2 f.text (by omega)).mono ?_
  rcases hr : addW σ f.text.data.toList with _ | σ1
  · rintro e w5 ⟨hs, rfl⟩
    exact ⟨rfl, WPost.stop hr (HB.out.1.trans hs)⟩
  · rintro e w5 ⟨hs, rfl, hw⟩
    have HX := Lib.hid (And.intro hs hw)
    have HR := Lib.hid hr
    clear hs hw hr
    go_wp2_with fail
    first | go_end0 | go_ret
    exact WPost.yes HR.out (HB.out.1.trans HX.out.1) HX.out.2
end WrD
section WrE
open Go.RowKit Fx Rec

def zeros (m : Nat) : ByteArray := bytesOf (List.replicate m 0)
theorem zeros_list (m : Nat) : (zeros m).data.toList = List.replicate m 0 := by simp [zeros, bytesOf]
theorem made_zeros (w : World) (N : Int) (m : Nat) (hN : N = m) (hm : m ≤ 16) : ∃ w', (Instr.makeSlice 64 (.int .i64 N) (.int .i64 N)).run Tryz.prog w = .ok (.slice (some ⟨w.heap.size, 0, none⟩) m m) w' ∧ Below w.heap.size w w' ∧
    ∀ W : World, W.heap[w.heap.size]? = w'.heap[w.heap.size]? → (convert 64 9 (.slice (some ⟨w.heap.size, 0, none⟩) m m)).run Tryz.prog W = .ok (.string (zeros m)) W := by
  subst hN
  obtain ⟨i0, hi, hz0, hz1, hz2⟩ := info_parts infoU8
  obtain ⟨w', h1, h2, h3⟩ := run_makeSlice_full (P := Tryz.prog) w 0 64 5 i0 _ 1 Tryz.underlying64 hi hz0 hz1 .i64 .i64 m (by omega) (by rw [hz2]; omega) (by unfold maxLen; omega) (Nat.zero_le _)
  refine ⟨w', h1, ⟨h3.os, h3.tape, h3.output, h3.size, fun k hk => h3.block k hk (by simp)⟩, fun W hW => ?_⟩
  rw [run_convert_bytes_arg (P := Tryz.prog) W 64 5 Tryz.underlying64 Tryz.underlying5 w.heap.size 0 m m (List.replicate m 0) (by simp) ?_ 9 Tryz.underlying9]
  · have : strOfNums (List.replicate m 0) = zeros m := by
      unfold strOfNums zeros bytesOf
      rw [List.map_replicate]; rfl
    rw [this]
  · intro i hi'
    have hadd : (⟨w.heap.size, 0, none⟩ : Addr).add i = ⟨w.heap.size, 0 + i, none⟩ := by unfold Addr.add; split <;> simp_all
    rw [World.cell?_of_block (w := w') hW, ← hadd, h2.cells (g := w.heap.size) rfl i (.int .u8 0) (by simp [madeCells, Value.cells, hi', Nat.mod_one])]
    simp [List.getD, hi']
def LPost (w : World) (o : Wo) (top : Nat) (L : List Fm) (k : Nat) (at_ m : Nat) (r : Option Ws) (e : Ending) (w' : World) : Prop :=
  StepW o NoX w w' ∧ match r with
  | some σ => WrAt w' o top L σ k ∧ ∃ v, e = .returned v ∧ LeaveAt w' o v (at_, m)
  | none => e = Stops zRf
theorem LPost.yes {w w' : World} {o : Wo} {top : Nat} {L : List Fm} {σ : Ws} {k a m : Nat} {v : Value} {r : Option Ws} (hr : r = some σ) (hs : StepW o NoX w w') (h : WrAt w' o top L σ k) (hl : LeaveAt w' o v (a, m)) : LPost w o top L k a m r (.returned v) w' := by
  subst hr
  exact ⟨hs, h, v, rfl, hl⟩
theorem LPost.stop {w w' : World} {o : Wo} {top : Nat} {L : List Fm} {k a m : Nat} {r : Option Ws} (hr : r = none) (hs : StepW o NoX w w') : LPost w o top L k a m r (Stops zRf) w' := by
  subst hr
  exact ⟨hs, rfl⟩
set_option maxRecDepth 20000 in
set_option maxHeartbeats 600000 in
theorem leave_any {w : World} {o : Wo} {top : Nat} {L : List Fm} {σ : Ws} {k : Nat} (h : WrAt w o top L σ k) (N : Int) (m : Nat) (hN : N = m) (hm : m ≤ 16) :
    Calls Tryz.prog 100 #[ptr o.wb, .int .i64 N] w fun e w' => LPost w o top L k σ.st.length m (addW σ (List.replicate m 0)) e w' := by
  have HH := Lib.hid h
  have c4 : ∃ a c, w.cell? ⟨o.wb, 4, none⟩ = some (.slice a σ.st.length c) := by
    obtain ⟨hf, vv, vst, vch, vs, chs, hm⟩ := h
    obtain ⟨a, c, hvst, _⟩ := hm.slice_
    exact ⟨a, c, by rw [hm.blk.cell, hvst]; rfl⟩
  have hlt : o.wb < w.heap.size := by
    obtain ⟨hf, vv, vst, vch, vs, chs, hm⟩ := h
    exact hm.blk.lt
  obtain ⟨a, c, c4⟩ := c4
  obtain ⟨n, hn⟩ : ∃ n : Nat, σ.st.length = n := ⟨_, rfl⟩
  have HX := Lib.hid (And.intro hn hN)
  rw [hn] at c4
  rw [hn]
  have n0 : 0 ≤ N := by omega
  have n1 : N ≤ 16 := by omega
  clear h hn hN
  go_enter Tryz.func100, Tryz.ntmps100
  go_wp2_with fail
  obtain ⟨w3, hw3⟩ : ∃ w3, w3 = (((w.alloc (.cells #[ptr o.wb] 90)).alloc (.cells #[.int .i64 N] 3)).alloc (.cells #[.int .i64 n] 3)) := ⟨_, rfl⟩
  have hs3 : w3.heap.size = w.heap.size + 3 := by rw [hw3]; simp
  have hb3 : Below w.heap.size w w3 := by
    rw [hw3]
    exact ((bx _).trans ((bx _).mono (by simp))).trans ((bx _).mono (by simp; omega))
  have q1 : Blk w3 w.heap.size 90 #[ptr o.wb] := by
    rw [hw3]
    exact (heap_alloc_old _ _ (by simp; omega)).trans ((heap_alloc_old _ _ (by simp)).trans (Blk.new w _ _))
  have q2 : Blk w3 (w.heap.size + 1) 3 #[.int .i64 N] := by
    rw [hw3]
    have := Blk.new (w.alloc (.cells #[ptr o.wb] 90)) 3 #[.int .i64 N]
    simp only [World.size_alloc] at this
    exact (heap_alloc_old _ _ (by simp)).trans this
  have q3 : Blk w3 (w.heap.size + 1 + 1) 3 #[.int .i64 n] := by
    rw [hw3]
    have := Blk.new ((w.alloc (.cells #[ptr o.wb] 90)).alloc (.cells #[.int .i64 N] 3)) 3 #[.int .i64 n]
    simpa using this
  rw [← hw3]
  have HC : Hid (∀ W, Below w3.heap.size w3 W → W.cell? ⟨w.heap.size, 0, none⟩ = some (ptr o.wb) ∧ W.cell? ⟨w.heap.size + 1, 0, none⟩ = some (.int .i64 N)) := Lib.hid fun W hb =>
    ⟨by rw [World.cell?_of_block (w := w3) (hb.block _ q1.lt), q1.cell]; rfl, by rw [World.cell?_of_block (w := w3) (hb.block _ q2.lt), q2.cell]; rfl⟩
  have HQ := Lib.hid (And.intro hb3 (And.intro hs3 (And.intro q1 (And.intro q2 q3))))
  clear hw3 hb3 q1 q2 q3 c4
  refine wp_region_held_drew (S := (fun W : World => W.cell? ⟨w.heap.size, 0, none⟩ = some (ptr o.wb) ∧ W.cell? ⟨w.heap.size + 1, 0, none⟩ = some (.int .i64 N))) (by kernel_rfl) (HC.out _ ((Below.refl _ _).drew)) (fun hHeld => ?_)
  refine takeH 0 (y := by intro wS hSw; obtain ⟨s0, s1⟩ := hSw; go_simp; (try with_reducible rfl)) (h := ?_)
  (try simp only [pA, pB, pC, pD])
  refine takeH 1 (y := by intro wS hSw; obtain ⟨s0, s1⟩ := hSw; go_simp; (try with_reducible rfl)) (h := ?_)
  (try simp only [pA, pB, pC, pD])
  refine wpAnyH_ready (rs := [2]) (by kernel_rfl) (by simp) ?_
  refine AllReadyH.cons (o := ?oB3) ?hB3 ?kB3 AllReadyH.nil
  case hB3 => (simp only [List.getElem?_toArray, List.getElem?_cons_zero, List.getElem?_cons_succ]; rfl)
  case kB3 =>
    intro K hK
    go_simp
    obtain ⟨w4, hr4, hb4, hc4⟩ := made_zeros w3.drew N m HX.out.2 hm
    rw [hr4]
    have hcv := hc4 w4 rfl
    have es : w3.drew.heap.size = w.heap.size + 3 := hs3
    rw [es] at hcv
    have hb5 : Below w3.heap.size w3 w4 := ((Below.refl _ _).drew).trans (hb4.mono (by simp))
    go_simp
    refine hK.out _ _ (HC.out _ hb5) (fun _ => ?_)
    clear hK K
    (try simp only [pA, pB, pC, pD])
    refine wpAnyH_ready (rs := [3]) (by kernel_rfl) (by simp) ?_
    refine AllReadyH.cons (o := ?oB4) ?hB4 ?kB4 AllReadyH.nil
    case hB4 => (simp only [List.getElem?_toArray, List.getElem?_cons_zero, List.getElem?_cons_succ]; rfl)
    case kB4 =>
      intro K hK
      go_simp
      refine hK.out _ _ (HC.out _ hb5) (fun _ => ?_)
      clear hK K
      (try simp only [pA, pB, pC, pD])
      refine wpAnyH_ready (rs := [4]) (by kernel_rfl) (by simp) ?_
      refine AllReadyH.cons (o := ?oB5) ?hB5 ?kB5 AllReadyH.nil
      case hB5 => (simp only [List.getElem?_toArray, List.getElem?_cons_zero, List.getElem?_cons_succ]; rfl)
      case kB5 =>
        intro K hK
        go_simp
        obtain ⟨t1, t2, t3⟩ := HH.out.below (HQ.out.1.trans (hb5.mono (by rw [hs3]; omega)))
        have hsz4 := hb5.size
        refine (wadd_any t3 (zeros m) (by rw [show (zeros m).size = m from by simp [zeros, bytesOf, ByteArray.size]]; omega)).mono ?_
        rcases hr : addW σ (zeros m).data.toList with _ | σ1
        · rintro e w6 ⟨hs, rfl⟩
          rw [zeros_list] at hr
          exact ⟨rfl, LPost.stop hr (t1.trans hs)⟩
        · rintro e w6 ⟨hs, rfl, hw6⟩
          rw [zeros_list] at hr
          have k1 := t2 w.heap.size (Nat.le_refl _) (by omega)
          have k2 := t2 (w.heap.size + 1) (by omega) (by omega)
          have k3 := t2 (w.heap.size + 1 + 1) (by omega) (by omega)
          have HL : Hid (LPost w o top L k n m (addW σ (List.replicate m 0)) (.returned (.func (.func 110) #[] #[ptr (w.heap.size + 1), ptr (w.heap.size + 1 + 1), ptr w.heap.size])) w6) := Lib.hid (LPost.yes hr (t1.trans hs) hw6 ⟨_, _, _, rfl,
            ⟨(hs.same k2).trans ((hb5.block _ HQ.out.2.2.2.1.lt).trans (by have := HQ.out.2.2.2.1; rw [HX.out.2] at this; exact this)), hs.safe _ k2⟩, ⟨(hs.same k3).trans ((hb5.block _ HQ.out.2.2.2.2.lt).trans HQ.out.2.2.2.2), hs.safe _ k3⟩, (hs.same k1).trans ((hb5.block _ HQ.out.2.2.1.lt).trans HQ.out.2.2.1), hs.safe _ k1⟩)
          refine hK.out _ _ ⟨by rw [World.cell?_of_block (w := w4) (hs.same k1)]; exact (HC.out _ hb5).1, by rw [World.cell?_of_block (w := w4) (hs.same k2)]; exact (HC.out _ hb5).2⟩ (fun _ => ?_)
          clear hK K hr hs hw6 t1 t2 t3 hc4 hcv hr4
          (try simp only [pA, pB, pC, pD])
          refine wpAnyH_done (by kernel_rfl) ?_ _
          go_wp2_with fail
          first | go_end0 | go_ret
          exact HL.out
end WrE
section WrF
open Go.RowKit Fx Rec

theorem patch_nil (l : List UInt8) (a : Nat) : patch l a [] = l := by simp [patch]
theorem patch_set (l : List UInt8) (a : Nat) (x : List UInt8) (b : UInt8) (h : a + x.length < l.length) : patch (l.set (a + x.length) b) a x = patch l a (x ++ [b]) := by
  unfold patch
  rw [List.take_set, List.set_eq_of_length_le (by simp; omega)]
  congr 1
  rw [List.append_assoc, List.length_append, List.length_singleton]
  congr 1
  rw [List.drop_set, if_neg (by omega), Nat.sub_self]
  have : l.drop (a + x.length) = l[a + x.length] :: l.drop (a + x.length + 1) := List.drop_eq_getElem_cons h
  rw [this]
  simp [Nat.add_assoc]
theorem patch_len (l : List UInt8) (a : Nat) (x : List UInt8) (h : a + x.length ≤ l.length) : (patch l a x).length = l.length := by
  unfold patch
  simp; omega
theorem sumTo_set (l : List UInt8) {i j : Nat} (b : UInt8) (h : j ≤ i) : sumTo (bytesOf (l.set i b)) j = sumTo (bytesOf l) j := by
  rw [sumTo_bytes, sumTo_bytes, List.take_set, List.set_eq_of_length_le (by simp; omega)]
theorem pow_nat {m : Nat} (h1 : 1 ≤ m) (h3 : m ≤ 3) : pow (m : Int) = 256 ^ m ∧ (256 : Int) ^ m ≤ 16777216 := by
  obtain rfl | rfl | rfl : m = 1 ∨ m = 2 ∨ m = 3 := by omega
  all_goals exact ⟨by decide, by decide⟩
def lowB (n : Int) : UInt8 := UInt8.ofNat (n % 256).toNat
theorem lowB_nat (n : Int) : ((lowB n).toNat : Int) = n % 256 := by
  unfold lowB
  rw [UInt8.toNat_ofNat']
  omega
section
variable {o : Wo} {w : World} {top : Nat} {L : List Fm} {σ : Ws} {k : Nat} {vv vst vch vs : Value} {chs : List Value}
theorem WrMut.row_ (hm : WrMut w o top σ k vv vst vch vs chs) (h : 1 ≤ σ.st.length) : ∃ g c, vst = .slice (some ⟨g, 0, none⟩) σ.st.length c ∧ σ.st.length ≤ c ∧ c ≤ maxLen := by
  rcases hm.st.2 with ⟨_, h0⟩ | ⟨g, cap, cur, rfl, _, _, h1, h2, _⟩
  · omega
  · exact ⟨_, cap, rfl, h1, h2⟩
/-- A byte of the stream is written. -/
theorem WrMut.wrote (hm : WrMut w o top σ k vv vst vch vs chs) {g i : Nat} (hg : vst.ownBlock = some g) (hi : i < σ.st.length) (hk : k ≤ i) (b : UInt8) {B : Int} (hB : B = (b.toNat : Int)) :
    (∃ u, w.cell? ⟨g, i, none⟩ = some u) ∧ w.frozen? ⟨g, i, none⟩ = false ∧ StepW o NoX w (w.setCell ⟨g, i, none⟩ (.int .u8 B)) ∧ WrMut (w.setCell ⟨g, i, none⟩ (.int .u8 B)) o top { σ with st := σ.st.set i b } k vv vst vch vs chs := by
  subst hB
  obtain ⟨h1, h2⟩ := own_cell hm.st hg (i := i) (by omega)
  have E : ∀ q, q ≠ g → (w.setCell ⟨g, i, none⟩ (.int .u8 (b.toNat : Int))).heap[q]? = w.heap[q]? := fun q hq => Below.heap_setCell _ _ _ _ hq
  have nwb : o.wb ≠ g := fun e => hm.st_wb (e ▸ hg)
  have nsb : o.sb ≠ g := fun e => own_blk_ne hm.st hm.sums.sb (by decide) (e ▸ hg)
  have nab : o.ab ≠ g := fun e => own_blk_ne hm.st hm.sums.ab (by decide) (e ▸ hg)
  have hblk : Blk (w.setCell ⟨g, i, none⟩ (.int .u8 (b.toNat : Int))) o.wb 122 _ := (E _ nwb).trans hm.blk
  have sums : SumsAt (w.setCell ⟨g, i, none⟩ (.int .u8 (b.toNat : Int))) o.sb o.ab (atW o.xb) (sumTo (bytesOf σ.st)) k vs := hm.sums.keep (E _ nsb) (E _ nab) fun q hq => E q fun e => own_own_ne hm.st hm.sums.row (by decide) hg hq e.symm
  have nS : ¬ Safe w o g := fun h => h.no ((hm.own_ g).2 (.inr (.inr (.inl hg))))
  have hs : StepW o NoX w (w.setCell ⟨g, i, none⟩ (.int .u8 (b.toNat : Int))) := StepW.make ((Kept.refl _ _).setCell nS _) fun q h => .inl ((hm.own_ q).2 ((own_iff hblk sums.sb q).1 h))
  refine ⟨⟨_, by rw [h1]; exact List.getElem?_eq_getElem (by rw [bytesV_len]; exact hi)⟩, h2, hs, { hm with blk := hblk, vals := hm.vals.step fun b h1 h2 => hs.same (hm.sv b h1 h2).1, sv := fun b h1 h2 => ⟨hs.safe _ (hm.sv b h1 h2).1, (hm.sv b h1 h2).2⟩, st := ?_, sums := ?_, kle := ?_, ch := ?_, chks := fun i hi => (hm.chks i hi).step hs, len := ?_ }⟩
  · have := own_set hm.st hg (i := i) (by omega) (.int .u8 (b.toNat : Int))
    show World.ownsRow _ _ _ _ _ (σ.st.set i b).length (bytesV (σ.st.set i b))
    rw [List.length_set]
    have e : bytesV (σ.st.set i b) = (bytesV σ.st).set i (.int .u8 (b.toNat : Int)) := by unfold bytesV; rw [List.map_set]
    rw [e]; exact this
  · exact sums.ext fun j hj => sumTo_set _ _ (by omega)
  · show k ≤ (σ.st.set i b).length
    rw [List.length_set]; exact hm.kle
  · exact own_keep hm.ch fun q cur hq hh => E q fun e => own_own_ne hm.st hm.ch (by decide) hg hq e.symm
  · show (σ.st.set i b).length ≤ 65536
    rw [List.length_set]; exact hm.len
end
set_option maxRecDepth 20000 in
set_option maxHeartbeats 600000 in
theorem laid6_any {w : World} {o : Wo} {top : Nat} {L : List Fm} {σ : Ws} {k : Nat} (h : WrAt w o top L σ k) {a m : Nat} {x y z : Nat} (hl : LeaveAt w o (.func (.func 110) #[] #[ptr x, ptr y, ptr z]) (a, m)) (m1 : 1 ≤ m) (m3 : m ≤ 3)
    (ha : a + m ≤ σ.st.length) (hk : k ≤ a) (n : Int) (n0 : 0 ≤ n) (n9 : n ≤ 100000000) :
    Calls Tryz.prog 110 #[.int .i64 n, ptr x, ptr y, ptr z] w fun e w' => WPost w o top L k (fill σ (a, m) n) e w' ∧ w'.cell? ⟨o.wb, 6, none⟩ = w.cell? ⟨o.wb, 6, none⟩ := by
  obtain ⟨x', y', z', he, ⟨b1, s1⟩, ⟨b2, s2⟩, b3, s3⟩ := hl
  obtain ⟨rfl, rfl, rfl⟩ : x = x' ∧ y = y' ∧ z = z' := by simpa using he
  have q1 : w.cell? ⟨x, 0, none⟩ = some (.int .i64 (m : Nat)) := by rw [b1.cell]; rfl
  have HC : Hid (∀ W, StepW o NoX w W → W.cell? ⟨y, 0, none⟩ = some (.int .i64 (a : Nat)) ∧ W.cell? ⟨z, 0, none⟩ = some (ptr o.wb)) := Lib.hid fun W hs =>
    ⟨by rw [World.cell?_of_block (w := w) (hs.same s2), b2.cell]; rfl, by rw [World.cell?_of_block (w := w) (hs.same s3), b3.cell]; rfl⟩
  have HH := Lib.hid h
  have q2 : w.cell? ⟨y, 0, none⟩ = some (.int .i64 (a : Nat)) := by rw [b2.cell]; rfl
  have hbig := (show σ.st.length ≤ 65536 by obtain ⟨_, _, _, _, _, _, hm⟩ := h; exact hm.len)
  obtain ⟨PW, hPW⟩ : ∃ PW : Int, PW = pow (m : Int) := ⟨_, rfl⟩
  obtain ⟨e1, e2⟩ := pow_nat m1 m3
  have HP : Hid (PW = 256 ^ m) := Lib.hid (hPW.trans e1)
  have hpw := (power_any (m : Int) w (by omega) (by omega))
  rw [← hPW] at hpw
  have HPW := Lib.hid hpw
  have hrefl : StepW o NoX w w := (h.below (Below.refl _ _)).1
  have HR := Lib.hid hrefl
  clear b1 b2 b3 s1 s2 s3 h he hpw hPW e1 e2 hrefl
  by_cases hn : n < PW
  · have hd : decide (n < PW) = true := decide_eq_true hn
    have HF : Hid (fill σ (a, m) n = some { σ with st := patch σ.st a (nbytes m n) }) := Lib.hid (by unfold fill; rw [if_pos (by rw [← HP.out]; exact hn)])
    go_enter Tryz.func110, Tryz.ntmps110
    go_wp2_with fail
    refine (HPW.out).mono ?_
    rintro e w5 ⟨rfl, rfl⟩
    go_wp2_with fail
    refine (require_yes _).mono ?_
    rintro e w6 ⟨rfl, rfl⟩
    clear hd
    go_wp2_with fail
    go_loopw [0, 5] (fun n' i wr => ∃ (r : Nat) (N I : Int) (st' : List UInt8), r ≤ m ∧ n' = .int .i64 N ∧ i = .int .i64 I ∧ I = (a : Int) + (r : Int) - 1 ∧ 0 ≤ N ∧ N ≤ 100000000 ∧ Hid (StepW o NoX w6 wr ∧ WrAt wr o top L { σ with st := st' } k ∧ st'.length = σ.st.length ∧ patch st' a (nbytes r N) = patch σ.st a (nbytes m n) ∧ wr.cell? ⟨o.wb, 6, none⟩ = w6.cell? ⟨o.wb, 6, none⟩)) (fun _ i _ => (intOf i - (a : Int) + 1).toNat)
    case atStart => exact ⟨m, n, _, σ.st, Nat.le_refl _, rfl, rfl, rfl, n0, n9, Lib.hid ⟨HR.out, HH.out, rfl, rfl, rfl⟩⟩
    case round =>
      obtain ⟨r, N, I, st', hr, rfl, rfl, hI, N0, N9, HV⟩ := hrel
      obtain ⟨cy, cz⟩ := HC.out _ HV.out.1
      have HIe := Lib.hid hI
      rcases r with _ | r
      · have hI2 : ¬ I ≥ (a : Int) := by omega
        clear hI
        have HE : Hid (WPost w6 o top L k (fill σ (a, m) n) (.returned (.tuple #[])) wr) := Lib.hid (WPost.yes HF.out HV.out.1 (by
          have h1 := HV.out.2.2.2.1
          rw [nbytes, patch_nil] at h1
          rw [← h1]; exact HV.out.2.1))
        go_wp2_with fail
        first | go_end0 | go_ret
        exact ⟨HE.out, HV.out.2.2.2.2⟩
      · obtain ⟨J, hJ⟩ : ∃ J : Nat, J = a + r := ⟨_, rfl⟩
        obtain rfl : I = (J : Int) := by omega
        have hI2 : (J : Int) ≥ (a : Int) := by omega
        have hI3 := decide_eq_true hI2
        obtain ⟨hf, vv, vst, vch, vs, chs, hm⟩ := HV.out.2.1
        have hlen := HV.out.2.2.1
        obtain ⟨g, sc, hvst, hsc, hsm⟩ := hm.row_ (by show 1 ≤ st'.length; omega)
        have hW := hm.wrote (g := g) (i := J) (by rw [hvst]; rfl) (by show J < st'.length; omega) (by omega) (lowB N) (lowB_nat N).symm
        have c4 : wr.cell? ⟨o.wb, 4, none⟩ = some (.slice (some ⟨g, 0, none⟩) st'.length sc) := by rw [hm.blk.cell, hvst]; rfl
        obtain ⟨n5, hn5⟩ : ∃ n5, n5 = st'.length := ⟨_, rfl⟩
        have hJn : J < n5 := by omega
        have hJ2 : (J : Int) < (n5 : Int) := by omega
        have hcn : n5 ≤ sc := by rw [hn5]; exact hsc
        rw [← hn5] at c4
        obtain ⟨⟨u, cu⟩, fu, hst, hmm⟩ := hW
        have HX := Lib.hid (And.intro hst (And.intro (And.intro hf hmm) (And.intro hlen hJ)))
        have HG6 : Hid (o.wb ≠ g) := Lib.hid fun e => hm.st_wb (by rw [hvst, e]; rfl)
        have hg : g < wr.heap.size := own_lt hm.st (by rw [hvst]; rfl)
        clear hI hst hmm hm hf hvst hsc hlen hn5 hJ
        go_wp2_with fail
        have hJ9 : J < 65536 := by have := HX.out.2.2.2; omega
        have e1 : wrap64 ((J : Int) - 1) = (J : Int) - 1 := by unfold wrap64; omega
        rw [e1]
        have e2 := HIe.out
        refine ⟨⟨r, N / 256, (J : Int) - 1, st'.set J (lowB N), by omega, rfl, rfl, by omega, by omega, by omega, Lib.hid ⟨HV.out.1.trans HX.out.1, ⟨HX.out.2.1.1.step HX.out.1 (fun _ h => h.elim), _, _, _, _, _, HX.out.2.1.2⟩, by rw [List.length_set]; exact HV.out.2.2.1, ?_, (World.cell?_of_block (w := wr) (Below.heap_setCell _ _ _ _ HG6.out)).trans HV.out.2.2.2.2⟩⟩, by simp only [intOf]; omega⟩
        rw [← HV.out.2.2.2.1, HX.out.2.2.2]
        have h1 := patch_set st' a (nbytes r (N / 256)) (lowB N) (by rw [nbytes_len]; have := HV.out.2.2.1; omega)
        rw [nbytes_len] at h1
        exact h1
  · have hd : decide (n < PW) = false := decide_eq_false hn
    have HF : Hid (fill σ (a, m) n = none) := Lib.hid (by unfold fill; rw [if_neg (by rw [← HP.out]; exact hn)])
    go_enter Tryz.func110, Tryz.ntmps110
    go_wp2_with fail
    refine (HPW.out).mono ?_
    rintro e w5 ⟨rfl, rfl⟩
    go_wp2_with fail
    refine (require_no _).mono ?_
    rintro e w5 ⟨rfl, rfl⟩
    exact ⟨rfl, WPost.stop HF.out HR.out, rfl⟩
theorem laid_any {w : World} {o : Wo} {top : Nat} {L : List Fm} {σ : Ws} {k : Nat} (h : WrAt w o top L σ k) {a m : Nat} {x y z : Nat} (hl : LeaveAt w o (.func (.func 110) #[] #[ptr x, ptr y, ptr z]) (a, m)) (m1 : 1 ≤ m) (m3 : m ≤ 3)
    (ha : a + m ≤ σ.st.length) (hk : k ≤ a) (n : Int) (n0 : 0 ≤ n) (n9 : n ≤ 100000000) :
    Calls Tryz.prog 110 #[.int .i64 n, ptr x, ptr y, ptr z] w fun e w' => WPost w o top L k (fill σ (a, m) n) e w' := (laid6_any h hl m1 m3 ha hk n n0 n9).mono fun _ _ h => h.1
end WrF
section WrG
open Go.RowKit Fx Rec

def waitsF (k : Nat) (f : Fld) : Bool := decide (f.frm = (k : Int)) && !decide (f.kind = 4)
theorem waits_any' (fs : List Fld) (k : Nat) : waits fs k = fs.any (waitsF k) := rfl
set_option maxRecDepth 20000 in
set_option maxHeartbeats 600000 in
theorem waits1_any (f : Fld) (gb db k : Nat) (w : World) (h1 : w.cell? ⟨gb, 0, none⟩ = some (ptr db)) (h2 : w.cell? ⟨db, 1, none⟩ = some (.int .i64 (k : Nat))) (l1 : gb < w.heap.size) (l2 : db < w.heap.size) :
    Calls Tryz.prog 109 #[fldV f, ptr gb] w fun e w' => e = .returned (.bool (waitsF k f)) ∧ Below w.heap.size w w' := by
  have HBX := Lib.hid (box_cells w f)
  obtain ⟨x0, x1, x2, x3⟩ := HBX.out
  have g1 : (w.alloc (.cells #[.int .i64 f.kind, .int .i64 f.n, .int .i64 f.frm, .string f.text] 56)).cell? ⟨gb, 0, none⟩ = some (ptr db) := by rw [World.cell?_of_block (w := w) (heap_alloc_old _ _ l1)]; exact h1
  have g2 : (w.alloc (.cells #[.int .i64 f.kind, .int .i64 f.n, .int .i64 f.frm, .string f.text] 56)).cell? ⟨db, 1, none⟩ = some (.int .i64 (k : Nat)) := by rw [World.cell?_of_block (w := w) (heap_alloc_old _ _ l2)]; exact h2
  obtain ⟨q, hq⟩ : ∃ q, q = waitsF k f := ⟨_, rfl⟩
  rw [← hq]
  have HB : Hid (∀ n, Below w.heap.size w ((w.alloc (.cells #[.int .i64 f.kind, .int .i64 f.n, .int .i64 f.frm, .string f.text] 56)).drewN n)) := Lib.hid fun n => (bx _).trans ((drewN_below _ n).mono (by simp))
  by_cases ha : f.frm = (k : Int)
  · have hd : (f.frm == (k : Int)) = true := by simp [ha]
    by_cases hb : f.kind = 4
    · have hd2 : (f.kind != 4) = false := by simp [hb]
      have HQ : Hid (q = false) := Lib.hid (by rw [hq, waitsF]; simp [hb])
      clear hq h1 h2 ha hb
      go_enter Tryz.func109, Tryz.ntmps109
      go_wp2_with fail
      go_quiet (fail)
      go_wp2_with fail
      first | go_end0 | go_ret
      exact ⟨by rw [HQ.out]; rfl, HB.out _⟩
    · have hd2 : (f.kind != 4) = true := by simp [hb]
      have HQ : Hid (q = true) := Lib.hid (by rw [hq, waitsF]; simp [ha, hb])
      clear hq h1 h2 ha hb
      go_enter Tryz.func109, Tryz.ntmps109
      go_wp2_with fail
      go_quiet (fail)
      go_wp2_with fail
      first | go_end0 | go_ret
      exact ⟨by rw [HQ.out]; rfl, HB.out _⟩
  · have hd : (f.frm == (k : Int)) = false := by simp [ha]
    have HQ : Hid (q = false) := Lib.hid (by rw [hq, waitsF]; simp [ha])
    clear hq h1 h2 ha
    go_enter Tryz.func109, Tryz.ntmps109
    go_wp2_with fail
    go_quiet (fail)
    go_wp2_with fail
    first | go_end0 | go_ret
    exact ⟨by rw [HQ.out]; rfl, HB.out _⟩

theorem any_take (fs : List Fld) (q : Fld → Bool) {k : Nat} (hk : k < fs.length) : (fs.take (k + 1)).any q = ((fs.take k).any q || q (fs.getD k zf)) := by
  rw [List.take_succ_eq_append_getElem hk, List.any_append]
  simp [List.getD, List.getElem?_eq_getElem hk]
theorem any_mono (fs : List Fld) (q : Fld → Bool) {k : Nat} (h : (fs.take k).any q = true) : fs.any q = true := by
  rw [List.any_eq_true] at h ⊢
  obtain ⟨x, h1, h2⟩ := h
  exact ⟨x, List.mem_of_mem_take h1, h2⟩
set_option maxRecDepth 20000 in
set_option maxHeartbeats 600000 in
theorem index_any (u : Value) (fs : List Fld) (gb db k : Nat) (w : World) (hu : FldsAt w u fs) (h1 : w.cell? ⟨gb, 0, none⟩ = some (ptr db)) (h2 : w.cell? ⟨db, 1, none⟩ = some (.int .i64 (k : Nat))) (l1 : gb < w.heap.size) (l2 : db < w.heap.size) :
    Calls Tryz.prog 117 #[u, .func (.func 109) #[] #[ptr gb]] w fun e w' => (∃ i : Int, e = .returned (.int .i64 i) ∧ (i ≥ 0 ↔ fs.any (waitsF k) = true)) ∧ Below w.heap.size w w' := by
  obtain ⟨a, c, rfl, hlen⟩ := hu.slice_
  obtain ⟨m, hm⟩ : ∃ m, m = fs.length := ⟨_, rfl⟩
  have hmb : m ≤ 9223372036854775807 := by unfold maxLen at hlen; omega
  have HI := Lib.hid (And.intro hu (And.intro h1 (And.intro h2 (And.intro l1 (And.intro l2 hm)))))
  rw [← hm]
  clear hu h1 h2 hlen hm
  go_enter Tryz.func117, Tryz.ntmps117
  go_wp2_with fail
  go_loopw [8] (fun i wr => ∃ (j : Nat), j ≤ m ∧ i = .int .i64 j ∧ Hid (Below w.heap.size w wr ∧ (fs.take j).any (waitsF k) = false)) (fun i _ => m - (intOf i).toNat)
  case atStart => exact ⟨0, Nat.zero_le _, rfl, Lib.hid ⟨Below.refl _ _, rfl⟩⟩
  case round =>
    obtain ⟨j, hj, rfl, HJ⟩ := hrel
    by_cases hlt : j < m
    · have hq := HI.out.1.below HJ.out.1
      have e := HI.out.2.2.2.2.2
      rw [← e] at hq
      obtain ⟨ub, uo, rfl, -, lub, -, -, hfl⟩ := hq.at_ (by omega)
      obtain ⟨f, hf⟩ : ∃ f, f = fs.getD j zf := ⟨_, rfl⟩
      have hfa := hfl j (by omega)
      rw [← hf] at hfa
      have g0 := hfa.c0
      have g1 := hfa.c1
      have g2 := hfa.c2
      have g3 := hfa.c3
      have hki : (0 : Int) ≤ (j : Int) ∧ (j : Int) < (m : Int) := by omega
      have hcall := waits1_any f gb db k wr (by rw [World.cell?_of_block (w := w) (HJ.out.1.block _ l1)]; exact HI.out.2.1) (by rw [World.cell?_of_block (w := w) (HJ.out.1.block _ l2)]; exact HI.out.2.2.1) (Nat.lt_of_lt_of_le l1 HJ.out.1.size) (Nat.lt_of_lt_of_le l2 HJ.out.1.size)
      obtain ⟨Q, hQ⟩ : ∃ Q, Q = waitsF k f := ⟨_, rfl⟩
      rw [← hQ] at hcall
      have hany := any_take fs (waitsF k) (k := j) (by omega)
      rw [HJ.out.2, Bool.false_or, ← hf, ← hQ] at hany
      have HC := Lib.hid (And.intro hcall hany)
      clear hq e hfl hfa hcall hf hQ hany
      go_wp2_with fail
      refine (HC.out.1).mono ?_
      rintro e w7 ⟨rfl, hb7⟩
      have HE := Lib.hid (HJ.out.1.trans (hb7.mono HJ.out.1.size))
      clear hb7 g0 g1 g2 g3
      cases Q with
      | true =>
        have HY := Lib.hid (any_mono fs (waitsF k) HC.out.2)
        go_wp2_with fail
        first | go_end0 | go_ret
        exact ⟨⟨_, rfl, ⟨fun _ => HY.out, fun _ => by omega⟩⟩, HE.out⟩
      | false =>
        go_wp2_with fail
        exact ⟨⟨j + 1, by omega, by go_num, Lib.hid ⟨HE.out, HC.out.2⟩⟩, by simp [intOf]; omega⟩
    · obtain rfl : j = m := by omega
      have HY : Hid (fs.any (waitsF k) = false) := Lib.hid (by
        have h1 := HJ.out.2
        rwa [HI.out.2.2.2.2.2, List.take_length] at h1)
      go_wp2_with fail
      first | go_end0 | go_ret
      exact ⟨⟨_, rfl, ⟨fun h => by omega, fun h => by rw [HY.out] at h; cases h⟩⟩, HJ.out.1⟩
set_option maxRecDepth 20000 in
set_option maxHeartbeats 600000 in
theorem contains_any (u : Value) (fs : List Fld) (gb db k : Nat) (w : World) (hu : FldsAt w u fs) (h1 : w.cell? ⟨gb, 0, none⟩ = some (ptr db)) (h2 : w.cell? ⟨db, 1, none⟩ = some (.int .i64 (k : Nat))) (l1 : gb < w.heap.size) (l2 : db < w.heap.size) :
    Calls Tryz.prog 108 #[u, .func (.func 109) #[] #[ptr gb]] w fun e w' => e = .returned (.bool (waits fs k)) ∧ Below w.heap.size w w' := by
  have HC := Lib.hid (index_any u fs gb db k w hu h1 h2 l1 l2)
  rw [waits_any']
  clear hu h1 h2
  go_enter Tryz.func108, Tryz.ntmps108
  go_wp2_with fail
  refine (HC.out).mono ?_
  rintro e w7 ⟨⟨i, rfl, hi⟩, hb7⟩
  have HE := Lib.hid (And.intro hi hb7)
  clear hi hb7
  cases hq : fs.any (waitsF k) with
  | true =>
    have hi : i ≥ 0 := HE.out.1.2 hq
    have HQ := Lib.hid hq
    clear hq
    go_wp2_with fail
    first | go_end0 | go_ret
    exact ⟨by rw [HQ.out]; rfl, HE.out.2⟩
  | false =>
    have hi : ¬ i ≥ 0 := fun h => by have := HE.out.1.1 h; rw [hq] at this; cases this
    have HQ := Lib.hid hq
    clear hq
    go_wp2_with fail
    first | go_end0 | go_ret
    exact ⟨by rw [HQ.out]; show Ending.returned (.bool (decide (0 ≤ i))) = _; rw [decide_eq_false (by omega)], HE.out.2⟩
set_option maxRecDepth 20000 in
set_option maxHeartbeats 600000 in
theorem waits_of (u : Value) (fs : List Fld) (db k : Nat) (w : World) (hu : FldsAt w u fs) (h0 : w.cell? ⟨db, 0, none⟩ = some u) (h2 : w.cell? ⟨db, 1, none⟩ = some (.int .i64 (k : Nat))) (l2 : db < w.heap.size) :
    Calls Tryz.prog 99 #[ptr db] w fun e w' => e = .returned (.bool (waits fs k)) ∧ Below w.heap.size w w' := by
  have hb := bx (w := w) (.cells #[ptr db] 147)
  have hlt : w.heap.size < (w.alloc (.cells #[ptr db] 147)).heap.size := by simp
  have d0 : (w.alloc (.cells #[ptr db] 147)).cell? ⟨db, 0, none⟩ = some u := by rw [World.cell?_of_block (w := w) (hb.block _ l2)]; exact h0
  have d2 : (w.alloc (.cells #[ptr db] 147)).cell? ⟨db, 1, none⟩ = some (.int .i64 (k : Nat)) := by rw [World.cell?_of_block (w := w) (hb.block _ l2)]; exact h2
  have dg : (w.alloc (.cells #[ptr db] 147)).cell? ⟨w.heap.size, 0, none⟩ = some (ptr db) := by rw [(Blk.new w _ _).cell]; rfl
  have HC := Lib.hid (contains_any u fs w.heap.size db k _ (hu.below hb) dg d2 hlt (by simp; omega))
  have HB := Lib.hid hb
  obtain ⟨a, c, rfl, hlen⟩ := hu.slice_
  clear hu h0 h2 hb hlen
  go_enter Tryz.func99, Tryz.ntmps99
  go_wp2_with fail
  refine (HC.out).mono ?_
  rintro e w7 ⟨rfl, hb7⟩
  have HE := Lib.hid (HB.out.trans (hb7.mono HB.out.size))
  clear hb7
  go_wp2_with fail
  first | go_end0 | go_ret
  exact ⟨rfl, HE.out⟩
end WrG
end Go.Proofs.YtdndmhlmbpgdeaaGreatDoor
