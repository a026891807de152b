/- stopped and attempt: what comes of a function that ends, or is stopped by a refusal. Conditions: the package's own variable of the type 'error' is laid; the function keeps attempt's own blocks. Plain facts on recognising: what a stream's bytes say, the parts of a value, the first refusal. No condition of its own. Refusing: a refusal with a reason, a refusal without one, a field that is asked for. Conditions: the value lies in memory; its numbers are small. number and power. Conditions: at most three bytes; a width from 1 to 3. The descriptions of the kinds of fields, as they lie in a table. No condition of its own. A table in memory. No condition of its own. -/
import Derived.Test.YtdndmhlmbpgdeaaGreatDoorPb02
import Derived.Test.YtdndmhlmbpgdeaaGreatDoorPb01
import Derived.OrdersHeld
import Derived.Deep.RegionHeld
import Derived.BigQuiet
import Derived.Deep.QuietTactic
import Derived.Laws.Tables
namespace Go.Proofs.YtdndmhlmbpgdeaaGreatDoor
section RecC
open Go.RowKit Go.Extern.Stop Go.Stop Go.Extern

theorem ta_refusal (v : Value) (w : World) : (Instr.typeAssert (.iface 104 v) 20 101 true).run Tryz.prog w = .ok (.tuple #[.iface 104 v, .bool true]) w := by kernel_rfl
theorem ta_nil (w : World) : (Instr.typeAssert .nilIface 20 101 true).run Tryz.prog w = .ok (.tuple #[.nilIface, .bool false]) w := by kernel_rfl

theorem stop_panicking (p : Addr) (x pv : Value) (older : List PanicEntry) (w : World) (hc : w.cell? p = some x) (hz : w.frozen? p = false) :
    CallsD Tryz.prog 87 #[.pointer (some p)] (.panicking ({ v := .iface 104 pv, recovered := false } :: older)) w fun e u' w' =>
      e = .returned (.tuple #[]) ∧ u' = .panicking ({ v := .iface 104 pv, recovered := true } :: older) ∧ w' = w.setCell p (.iface 104 pv) := by
  have hT := ta_refusal
  refine callsD_of_wpS Tryz.func87 rfl fun c₀ cs hu => ?_
  apply wpS_seq
  apply wpS_region
  simp [wpOpsS, go_sem, recoverD, hu, hT, Tryz.ntmps87, Exit.thenS]
  apply wpS_seq
  apply wpS_region
  simp [wpOpsS, go_sem, Exit.thenS]
  refine wpS_cond (t := true) (by simp [Act.eval, Array.replicate]) ?_
  simp only [if_true]
  apply wpS_region
  simp [wpOpsS, go_sem, hc, hz, bodyPostS, results, Tryz.results87]

theorem stop_idle (p : Addr) (w : World) :
    CallsD Tryz.prog 87 #[.pointer (some p)] .returning w fun e u' w' => e = .returned (.tuple #[]) ∧ u' = .returning ∧ w' = w := by
  have hT := ta_nil
  refine callsD_of_wpS Tryz.func87 rfl fun c₀ cs hu => ?_
  apply wpS_seq
  apply wpS_region
  simp [wpOpsS, go_sem, recoverD, hu, hT, Tryz.ntmps87, Exit.thenS]
  apply wpS_seq
  apply wpS_region
  simp [wpOpsS, go_sem, Exit.thenS]
  refine wpS_cond (t := false) (by simp [Act.eval, Array.replicate]) ?_
  simp only [Bool.false_eq_true, if_false]
  refine wpS_of_wp (wp_skip ?_)
  cases c₀
  simp_all [bodyPostS, results, Tryz.results87]

/-- What stopped hands a function. -/
abbrev errW (w : World) : World := w.alloc (.cells #[.nilIface] 101)
/-- How a function ends: or it is stopped by a refusal. -/
def Ends (Q : World → Prop) (R : Int → Int → Int → Int → World → Prop) (e : Ending) (w : World) : Prop :=
  (e = .returned (.tuple #[]) ∧ Q w) ∨ ∃ a b c d, e = .panicked [{ v := .iface 104 (.agg #[.int .i64 a, .int .i64 b, .int .i64 c, .int .i64 d]), recovered := false }] ∧ R a b c d w

set_option maxRecDepth 20000 in
theorem stopped_any (fn : FuncId) (cap : Array Value) (w : World) (Q : World → Prop) (R : Int → Int → Int → Int → World → Prop) (hcall : Enters fn)
    (hf : Calls Tryz.prog fn cap (errW w) fun e w2 => Ends Q R e w2 ∧ w2.heap[w.heap.size]? = some (.cells #[.nilIface] 101 (0, 0))) :
    Calls Tryz.prog 61 #[.func (.func fn) #[] cap] w fun e w' =>
      (e = .returned .nilIface ∧ ∃ w2, Q w2 ∧ w' = w2.setCell ⟨w.heap.size, 0, none⟩ .nilIface) ∨
      ∃ a b c d, e = .returned (.iface 104 (.agg #[.int .i64 a, .int .i64 b, .int .i64 c, .int .i64 d])) ∧ ∃ w2, R a b c d w2 ∧ w' = w2.setCell ⟨w.heap.size, 0, none⟩ (.iface 104 (.agg #[.int .i64 a, .int .i64 b, .int .i64 c, .int .i64 d])) := by
  have HF := Lib.hid hf
  clear hf
  unfold Enters at hcall
  have hmf : ∀ (fn : Fn) (first cap : Array Value) (w : World), (Instr.makeFunc fn first cap).run Tryz.prog w = .ok (.func fn first cap) w := fun _ _ _ _ => rfl
  go_enter_defers Tryz.func61, Tryz.ntmps61
  go_wp2_with fail
  refine HF.out.mono ?_
  rintro e w2 ⟨hE, hb⟩
  have hc : w2.cell? ⟨w.heap.size, 0, none⟩ = some .nilIface := cell_of_row w2 w.heap.size 0 #[.nilIface] _ _ hb
  have hz : w2.frozen? ⟨w.heap.size, 0, none⟩ = false := by simp [World.frozen?, hb]
  clear hb
  rcases hE with ⟨rfl, hQ⟩ | ⟨a, b, c, d, rfl, hR⟩
  · have HQ := Lib.hid hQ
    clear hQ
    go_wp2_with fail
    refine leaves_cons (f := 87) (args := #[.pointer (some ⟨w.heap.size, 0, none⟩)]) (by simp) (by simp [go_sem]) ?_
    refine (stop_idle ⟨w.heap.size, 0, none⟩ _).mono ?_
    rintro e u' w'' ⟨rfl, rfl, rfl⟩
    simp [Leaves, settle, results, Tryz.results61, go_sem, hc]
    exact ⟨w2, HQ.out, rfl⟩
  · have HR := Lib.hid hR
    clear hR
    go_wp2_with fail
    refine leaves_cons (f := 87) (args := #[.pointer (some ⟨w.heap.size, 0, none⟩)]) (by simp) (by simp [go_sem]) ?_
    refine (stop_panicking ⟨w.heap.size, 0, none⟩ _ _ _ _ hc hz).mono ?_
    rintro e u' w'' ⟨rfl, rfl, rfl⟩
    simp [Leaves, settle, results, Tryz.results61, go_sem, hc]
    exact ⟨a, b, c, d, ⟨rfl, rfl, rfl, rfl⟩, w2, HR.out, rfl⟩

/-- What attempt hands a function: its result's variable, stopped's variable. -/
abbrev attW (w : World) : World := errW (w.alloc (.cells #[.int .i64 0, .int .i64 0, .int .i64 0, .int .i64 0] 40))
/-- The blocks of attempt's own. -/
def attK (w : World) (k : Nat) : Prop := k = w.heap.size ∨ k = w.heap.size + 1
/-- What comes of attempt. -/
def Attempted (w : World) (Q : World → Prop) (R : Int → Int → Int → Int → World → Prop) (e : Ending) (w' : World) : Prop :=
  (e = .returned (.tuple #[.agg #[.int .i64 0, .int .i64 0, .int .i64 0, .int .i64 0], .int .i64 0]) ∧ ∃ w2, Q w2 ∧ Kept (fun k => k < w2.heap.size ∧ ¬ attK w k) w2 w') ∨
  ∃ a b c d, e = .returned (.tuple #[.agg #[.int .i64 a, .int .i64 b, .int .i64 c, .int .i64 d], .int .i64 50]) ∧ ∃ w2, R a b c d w2 ∧ Kept (fun k => k < w2.heap.size ∧ ¬ attK w k) w2 w'

set_option maxRecDepth 20000 in
theorem attempt_any (fn : FuncId) (cap : Array Value) (w : World) (Q : World → Prop) (R : Int → Int → Int → Int → World → Prop) (hcall : Enters fn) (hT : ErrTy w)
    (hf : Calls Tryz.prog fn cap (attW w) fun e w2 => Ends Q R e w2 ∧ Kept (fun k => k < w.heap.size ∧ k = 0 ∨ attK w k) (attW w) w2) :
    Calls Tryz.prog 37 #[.func (.func fn) #[] cap] w fun e w' => Attempted w Q R e w' := by
  have hlt0 : 0 < w.heap.size := World.block_lt_of_cell? (h := hT)
  have hS := stopped_any fn cap (w.alloc (.cells #[.int .i64 0, .int .i64 0, .int .i64 0, .int .i64 0] 40))
    (fun w2 => Q w2 ∧ Kept (fun k => k < w.heap.size ∧ k = 0 ∨ attK w k) (attW w) w2)
    (fun a b c d w2 => R a b c d w2 ∧ Kept (fun k => k < w.heap.size ∧ k = 0 ∨ attK w k) (attW w) w2) hcall
    (hf.mono fun e w2 ⟨h1, h2⟩ => ⟨by
      rcases h1 with ⟨e1, q⟩ | ⟨a, b, c, d, e1, q⟩
      · exact .inl ⟨e1, q, h2⟩
      · exact .inr ⟨a, b, c, d, e1, q, h2⟩, by
      have := h2.block (w.heap.size + 1) (.inr (.inr rfl))
      rw [show (w.alloc (.cells #[.int .i64 0, .int .i64 0, .int .i64 0, .int .i64 0] 40)).heap.size = w.heap.size + 1 by simp, this]
      have hn := heap_alloc_new (w.alloc (.cells #[.int .i64 0, .int .i64 0, .int .i64 0, .int .i64 0] 40)) (.cells #[.nilIface] 101)
      simpa using hn⟩)
  have HS := Lib.hid hS
  have HT := Lib.hid hT
  clear hf hS hT hcall
  go_enter Tryz.func37, Tryz.ntmps37
  go_wp2_with fail
  refine HS.out.mono ?_
  rintro e w1 h
  have hsz : (w.alloc (.cells #[.int .i64 0, .int .i64 0, .int .i64 0, .int .i64 0] 40)).heap.size = w.heap.size + 1 := by simp
  rw [hsz] at h
  have hn0 : (attW w).heap[w.heap.size]? = some (.cells #[.int .i64 0, .int .i64 0, .int .i64 0, .int .i64 0] 40 (0, 0)) := by
    show ((w.alloc _).alloc _).heap[w.heap.size]? = _
    rw [(MapKept.heap_alloc (w.alloc (.cells #[.int .i64 0, .int .i64 0, .int .i64 0, .int .i64 0] 40)) (.cells #[.nilIface] 101)).2 w.heap.size (by simp)]
    exact heap_alloc_new w _
  rcases h with ⟨rfl, w2, ⟨hQ, hK⟩, hw⟩ | ⟨a, b, c, d, rfl, w2, ⟨hR, hK⟩, hw⟩
  · have hb0 : Blk w2 w.heap.size 40 #[.int .i64 0, .int .i64 0, .int .i64 0, .int .i64 0] := (hK.block w.heap.size (.inr (.inl rfl))).trans hn0
    have hb : Blk w1 w.heap.size 40 #[.int .i64 0, .int .i64 0, .int .i64 0, .int .i64 0] := by
      rw [hw]; exact (Below.heap_setCell _ _ _ _ (by simp)).trans hb0
    have hk : Kept (fun k => k < w2.heap.size ∧ ¬ attK w k) w2 w1 := by
      rw [hw]; exact (Kept.refl _ _).setCell (p := ⟨w.heap.size + 1, 0, none⟩) (fun h => h.2 (.inr rfl)) _
    have HQ := Lib.hid (And.intro hQ hk)
    have c0 := hb.cell 0
    have c1 := hb.cell 1
    have c2 := hb.cell 2
    have c3 := hb.cell 3
    have z0 := hb.frozen 0
    have z1 := hb.frozen 1
    have z2 := hb.frozen 2
    have z3 := hb.frozen 3
    simp only [List.getElem?_toArray, List.getElem?_cons_zero, List.getElem?_cons_succ] at c0 c1 c2 c3
    have hlt := hb.lt
    clear hQ hk hK hb0 hb hn0 hsz hw
    go_wp2_with fail
    refine bodyPost_ret (v := .tuple #[.agg #[.int .i64 0, .int .i64 0, .int .i64 0, .int .i64 0], .int .i64 0]) (by simp [results, Tryz.results37, go_sem, c0, c1, c2, c3]) rfl (.inl ⟨rfl, w2, HQ.out.1, ?_⟩)
    exact (((HQ.out.2.setCell (fun h => h.2 (.inl rfl)) _).setCell (fun h => h.2 (.inl rfl)) _).setCell (fun h => h.2 (.inl rfl)) _).setCell (fun h => h.2 (.inl rfl)) _
  · have hb0 : Blk w2 w.heap.size 40 #[.int .i64 0, .int .i64 0, .int .i64 0, .int .i64 0] := (hK.block w.heap.size (.inr (.inl rfl))).trans hn0
    have hb : Blk w1 w.heap.size 40 #[.int .i64 0, .int .i64 0, .int .i64 0, .int .i64 0] := by
      rw [hw]; exact (Below.heap_setCell _ _ _ _ (by simp)).trans hb0
    have hk : Kept (fun k => k < w2.heap.size ∧ ¬ attK w k) w2 w1 := by
      rw [hw]; exact (Kept.refl _ _).setCell (p := ⟨w.heap.size + 1, 0, none⟩) (fun h => h.2 (.inr rfl)) _
    have hT1 : ErrTy w1 := by
      have e1 : w1.heap[0]? = w.heap[0]? := by
        rw [hw, Below.heap_setCell _ _ _ _ (show 0 ≠ w.heap.size + 1 by omega), hK.block 0 (.inl ⟨hlt0, rfl⟩)]
        show ((w.alloc _).alloc _).heap[0]? = _
        rw [(MapKept.heap_alloc (w.alloc (.cells #[.int .i64 0, .int .i64 0, .int .i64 0, .int .i64 0] 40)) (.cells #[.nilIface] 101)).2 0 (by simp),
          (MapKept.heap_alloc w (.cells #[.int .i64 0, .int .i64 0, .int .i64 0, .int .i64 0] 40)).2 0 hlt0]
      exact (World.cell?_of_block (w := w) (a := ⟨0, 0, none⟩) e1).trans HT.out
    have hlt1 := hb.lt
    have HQ := Lib.hid (And.intro hR (And.intro hk (And.intro hT1 hb)))
    clear hR hk hK hb0 hb hn0 hsz hw hT1
    go_wp2_with fail
    have hT2 : ErrTy (w1.alloc (.cells #[.int .i64 0, .int .i64 0, .int .i64 0, .int .i64 0] 104)) := by
      have h := HQ.out.2.2.1
      exact (World.cell?_alloc_lt _ _ ⟨0, 0, none⟩ (World.block_lt_of_cell? (h := h))).trans h
    refine (as_hit w1.heap.size a b c d _ _ _ _ _ hT2 (Blk.new w1 _ _)).mono ?_
    rintro e w3 ⟨rfl, hn, hk3⟩
    have hb3 : Blk w3 w.heap.size 40 #[.int .i64 0, .int .i64 0, .int .i64 0, .int .i64 0] :=
      (hk3.block w.heap.size ⟨by simp; omega, by omega⟩).trans (HQ.out.2.2.2.alloc_ _)
    have hk4 : Kept (fun k => k < w2.heap.size ∧ ¬ attK w k) w2 w3 := by
      have hs := HQ.out.2.1.size
      have := (HQ.out.2.1.alloc (fun k h => by omega) (.cells #[.int .i64 0, .int .i64 0, .int .i64 0, .int .i64 0] 104))
      exact this.trans (hk3.mono fun k h => ⟨by simp; omega, by omega⟩)
    have HR := Lib.hid (And.intro HQ.out.1 hk4)
    have c0 := hn.cell 0
    have c1 := hn.cell 1
    have c2 := hn.cell 2
    have c3 := hn.cell 3
    simp only [List.getElem?_toArray, List.getElem?_cons_zero, List.getElem?_cons_succ] at c0 c1 c2 c3
    have d0 := hb3.cell 0
    have d1 := hb3.cell 1
    have d2 := hb3.cell 2
    have d3 := hb3.cell 3
    simp only [List.getElem?_toArray, List.getElem?_cons_zero, List.getElem?_cons_succ] at d0 d1 d2 d3
    have z0 := hb3.frozen 0
    have z1 := hb3.frozen 1
    have z2 := hb3.frozen 2
    have z3 := hb3.frozen 3
    clear hn hk3 hb3 hk4 HQ hT2
    go_wp2_with fail
    refine bodyPost_ret (v := .tuple #[.agg #[.int .i64 a, .int .i64 b, .int .i64 c, .int .i64 d], .int .i64 50]) (by simp [results, Tryz.results37, go_sem, d0, d1, d2, d3]) rfl (.inr ⟨a, b, c, d, rfl, w2, HR.out.1, ?_⟩)
    exact (((HR.out.2.setCell (fun h => h.2 (.inl rfl)) _).setCell (fun h => h.2 (.inl rfl)) _).setCell (fun h => h.2 (.inl rfl)) _).setCell (fun h => h.2 (.inl rfl)) _
end RecC
section RecPlain
namespace Rec
open Fx

/-- A part of a stream. -/
structure Pt where
  depth : Int
  format : Int
  field : Int
  start : Int
  stop : Int
  number : Int
  deriving DecidableEq
/-- A refusal. -/
structure Rf where
  offset : Int
  format : Int
  field : Int
  reason : Int
  deriving DecidableEq
def zRf : Rf := ⟨0, 0, 0, 0⟩

/-- The number that is written in bytes, the highest one first. -/
def numL (l : List UInt8) : Int := l.foldl (fun n b => 256 * n + (b.toNat : Int)) 0
def num (s : ByteArray) : Int := numL s.data.toList
/-- The sum of bytes. -/
def sumL (l : List UInt8) : Int := (l.map fun b => (b.toNat : Int)).sum
/-- The sum of the first n bytes of a stream. -/
def sumTo (s : ByteArray) (n : Nat) : Int := sumL (s.data.toList.take n)
def pow (n : Int) : Int := 256 ^ n.toNat

/-- What comes of recognising: where it ends and the parts, or the refusal. -/
abbrev Sub := Int → Int → Nat → Nat → Nat → Except Rf (Nat × List Pt)
/-- Values of a format, one behind the other. -/
def reps (sub : Sub) (id depth : Int) (limit at_ cnt : Nat) : Nat → Except Rf (Nat × List Pt)
  | 0 => .ok (at_, [])
  | n + 1 =>
    match reps sub id depth limit at_ cnt n with
    | .error r => .error r
    | .ok (e, ps) =>
      match sub id depth e limit (cnt + ps.length) with
      | .error r => .error r
      | .ok (e', qs) => .ok (e', ps ++ qs)
/-- How many bytes the numbers before say. -/
def told (f : Fld) (nums : List Int) : Nat := (nums.getD f.frm.toNat 0).toNat
/-- A field with n bytes, if they are there. -/
def short (id : Int) (k : Nat) (at_ limit n : Nat) (x : Except Rf (Nat × Int × List Pt)) : Except Rf (Nat × Int × List Pt) :=
  if limit < at_ + n then .error ⟨at_, id, k, 1⟩ else x
def unlessB (b : Bool) (r : Rf) (x : Except Rf (Nat × Int × List Pt)) : Except Rf (Nat × Int × List Pt) := if b then x else .error r
/-- What a value in a field with a limit comes to. -/
def boxed (id : Int) (k : Nat) (limit : Nat) : Except Rf (Nat × List Pt) → Except Rf (Nat × Int × List Pt)
  | .error r => .error r
  | .ok (e, ps) => if e < limit then .error ⟨e, id, k, 4⟩ else .ok (e, 0, ps)
def listed (count : Nat) : Except Rf (Nat × List Pt) → Except Rf (Nat × Int × List Pt)
  | .error r => .error r
  | .ok (e, ps) => .ok (e, (count : Int), ps)
/-- What a field comes to, by its kind: where it ends, its number, the parts in it. -/
def kind (s : ByteArray) (sub : Sub) (id depth : Int) (start limit : Nat) (k : Nat) (f : Fld) (nums : List Int) (at_ cnt : Nat) : Except Rf (Nat × Int × List Pt) :=
  if f.kind = 1 then short id k at_ limit f.text.size (unlessB (decide (s.extract at_ (at_ + f.text.size) = f.text)) ⟨at_, id, k, 2⟩ (.ok (at_ + f.text.size, 0, [])))
  else if f.kind = 2 then short id k at_ limit f.n.toNat (.ok (at_ + f.n.toNat, num (s.extract at_ (at_ + f.n.toNat)), []))
  else if f.kind = 3 then
    (if f.frm = -1 then short id k at_ limit f.n.toNat (.ok (at_ + f.n.toNat, 0, [])) else short id k at_ limit (told f nums) (.ok (at_ + told f nums, 0, [])))
  else if f.kind = 4 then listed (told f nums) (reps sub f.n (depth + 1) limit at_ cnt (told f nums))
  else if f.kind = 5 then short id k at_ limit (told f nums) (boxed id k (at_ + told f nums) (sub f.n (depth + 1) at_ (at_ + told f nums) cnt))
  else short id k at_ limit f.n.toNat (unlessB (decide (num (s.extract at_ (at_ + f.n.toNat)) = (sumTo s at_ - sumTo s start) % pow f.n)) ⟨at_, id, k, 3⟩
    (.ok (at_ + f.n.toNat, num (s.extract at_ (at_ + f.n.toNat)), [])))
/-- The next field: at most 5000 parts. -/
def next (s : ByteArray) (sub : Sub) (id depth : Int) (start limit : Nat) (k : Nat) (f : Fld) (nums : List Int) (at_ cnt : Nat) : Except Rf (Nat × Int × List Pt) :=
  if 5000 ≤ cnt then .error ⟨at_, id, k, 5⟩ else kind s sub id depth start limit k f nums at_ (cnt + 1)
/-- The first k fields of a value: where they end, their numbers, the parts. -/
def flds (s : ByteArray) (sub : Sub) (id depth : Int) (start limit cnt : Nat) (fs : List Fld) : Nat → Except Rf (Nat × List Int × List Pt)
  | 0 => .ok (start, [], [])
  | k + 1 =>
    match flds s sub id depth start limit cnt fs k with
    | .error r => .error r
    | .ok (at_, nums, ps) =>
      match next s sub id depth start limit k (fs.getD k zf) nums at_ (cnt + ps.length) with
      | .error r => .error r
      | .ok (e, n, qs) => .ok (e, nums ++ [n], ps ++ (⟨depth, id, k, at_, e, n⟩ :: qs))
def ends : Except Rf (Nat × List Int × List Pt) → Except Rf (Nat × List Pt)
  | .error r => .error r
  | .ok (at_, _, ps) => .ok (at_, ps)
/-- The fields of the format with an ID. -/
def fieldsOf (L : List Fm) (id : Int) : List Fld := ((L.find? fun f => decide (f.id = id)).getD zm).fs
def has (L : List Fm) (id : Int) : Bool := L.any fun f => decide (f.id = id)
/-- A value. -/
def val (L : List Fm) (s : ByteArray) : Nat → Sub
  | 0 => fun _ _ _ _ _ => .error zRf
  | n + 1 => fun id depth start limit cnt => ends (flds s (val L s n) id depth start limit cnt (fieldsOf L id) (fieldsOf L id).length)
/-- The whole stream. -/
def whole (L : List Fm) (s : ByteArray) (id : Int) : Except Rf (List Pt) :=
  if has L id then
    match val L s 61 id 0 0 s.size 0 with
    | .error r => .error r
    | .ok (e, ps) => if e < s.size then .error ⟨e, id, (fieldsOf L id).length, 4⟩ else .ok ps
  else .error zRf
/-- What Match tells. -/
def mtch (L : List Fm) (id : Int) (s : ByteArray) : Except Rf (List Pt) :=
  if vd L = true ∧ s.size ≤ 65536 then whole L s id else .error zRf

/-! errors stay -/
theorem reps_error {sub : Sub} {id depth : Int} {limit at_ cnt k : Nat} {r : Rf} (h : reps sub id depth limit at_ cnt k = .error r) (d : Nat) : reps sub id depth limit at_ cnt (k + d) = .error r := by
  induction d with
  | zero => exact h
  | succ d ih => rw [← Nat.add_assoc, reps, ih]
theorem reps_le {sub : Sub} {id depth : Int} {limit at_ cnt k m : Nat} {r : Rf} (h : reps sub id depth limit at_ cnt k = .error r) (hk : k ≤ m) : reps sub id depth limit at_ cnt m = .error r := by
  have := reps_error h (m - k)
  rwa [show k + (m - k) = m by omega] at this
theorem flds_le {s : ByteArray} {sub : Sub} {id depth : Int} {start limit cnt k m : Nat} {fs : List Fld} {r : Rf} (h : flds s sub id depth start limit cnt fs k = .error r) (hk : k ≤ m) : flds s sub id depth start limit cnt fs m = .error r := by
  obtain ⟨d, rfl⟩ : ∃ d, m = k + d := ⟨m - k, by omega⟩
  clear hk
  induction d with
  | zero => exact h
  | succ d ih => rw [← Nat.add_assoc, flds, ih]
/-! where a value ends -/
theorem short_ok {id : Int} {k a l n : Nat} {x : Except Rf (Nat × Int × List Pt)} {y : Nat × Int × List Pt} (h : short id k a l n x = .ok y) : a + n ≤ l ∧ x = .ok y := by
  unfold short at h
  split at h
  · cases h
  · exact ⟨by omega, h⟩
theorem unless_ok {b : Bool} {r : Rf} {x : Except Rf (Nat × Int × List Pt)} {y : Nat × Int × List Pt} (h : unlessB b r x = .ok y) : b = true ∧ x = .ok y := by
  unfold unlessB at h
  split at h
  · rename_i hb; exact ⟨hb, h⟩
  · cases h
theorem listed_ok {c : Nat} {x : Except Rf (Nat × List Pt)} {y : Nat × Int × List Pt} (h : listed c x = .ok y) : x = .ok (y.1, y.2.2) ∧ y.2.1 = (c : Int) := by
  unfold listed at h
  split at h
  · cases h
  · cases h; exact ⟨rfl, rfl⟩
theorem boxed_ok {id : Int} {k l : Nat} {x : Except Rf (Nat × List Pt)} {y : Nat × Int × List Pt} (h : boxed id k l x = .ok y) : x = .ok (y.1, y.2.2) ∧ y.2.1 = 0 ∧ l ≤ y.1 := by
  unfold boxed at h
  split at h
  · cases h
  · split at h
    · cases h
    · cases h; exact ⟨rfl, rfl, by omega⟩
/-- A value ends within its limit. -/
def Within (sub : Sub) : Prop := ∀ id depth at_ limit cnt e ps, sub id depth at_ limit cnt = .ok (e, ps) → at_ ≤ limit → at_ ≤ e ∧ e ≤ limit
theorem reps_in {sub : Sub} (hs : Within sub) {id depth : Int} {limit at_ cnt : Nat} (ha : at_ ≤ limit) : ∀ {n e : Nat} {ps : List Pt}, reps sub id depth limit at_ cnt n = .ok (e, ps) → at_ ≤ e ∧ e ≤ limit
  | 0, e, ps, h => by
    unfold reps at h
    cases h
    exact ⟨Nat.le_refl _, ha⟩
  | n + 1, e, ps, h => by
    unfold reps at h
    split at h
    · cases h
    · rename_i e1 ps1 h1
      have i1 := reps_in hs ha h1
      split at h
      · cases h
      · rename_i e2 qs h2
        cases h
        have i2 := hs _ _ _ _ _ _ _ h2 i1.2
        omega
theorem kind_in {s : ByteArray} {sub : Sub} (hs : Within sub) {id depth : Int} {start limit k at_ cnt : Nat} {f : Fld} {nums : List Int} {y : Nat × Int × List Pt} (ha : at_ ≤ limit) (h : kind s sub id depth start limit k f nums at_ cnt = .ok y) : at_ ≤ y.1 ∧ y.1 ≤ limit := by
  unfold kind at h
  split at h
  · obtain ⟨h1, h2⟩ := short_ok h
    obtain ⟨_, h3⟩ := unless_ok h2
    cases h3
    exact ⟨by simp, h1⟩
  · split at h
    · obtain ⟨h1, h2⟩ := short_ok h
      cases h2
      exact ⟨by simp, h1⟩
    · split at h
      · split at h
        · obtain ⟨h1, h2⟩ := short_ok h
          cases h2
          exact ⟨by simp, h1⟩
        · obtain ⟨h1, h2⟩ := short_ok h
          cases h2
          exact ⟨by simp, h1⟩
      · split at h
        · exact reps_in hs ha (listed_ok h).1
        · split at h
          · obtain ⟨h1, h2⟩ := short_ok h
            obtain ⟨h3, _, h4⟩ := boxed_ok h2
            have := hs _ _ _ _ _ _ _ h3 (by omega)
            omega
          · obtain ⟨h1, h2⟩ := short_ok h
            obtain ⟨_, h3⟩ := unless_ok h2
            cases h3
            exact ⟨by simp, h1⟩
theorem next_in {s : ByteArray} {sub : Sub} (hs : Within sub) {id depth : Int} {start limit k at_ cnt : Nat} {f : Fld} {nums : List Int} {y : Nat × Int × List Pt} (ha : at_ ≤ limit) (h : next s sub id depth start limit k f nums at_ cnt = .ok y) : cnt < 5000 ∧ at_ ≤ y.1 ∧ y.1 ≤ limit := by
  unfold next at h
  split at h
  · cases h
  · exact ⟨by omega, kind_in hs ha h⟩
theorem flds_in {s : ByteArray} {sub : Sub} (hs : Within sub) {id depth : Int} {start limit cnt : Nat} {fs : List Fld} (ha : start ≤ limit) : ∀ {k e : Nat} {nums : List Int} {ps : List Pt}, flds s sub id depth start limit cnt fs k = .ok (e, nums, ps) → start ≤ e ∧ e ≤ limit ∧ nums.length = k
  | 0, e, nums, ps, h => by
    unfold flds at h
    cases h
    exact ⟨Nat.le_refl _, ha, rfl⟩
  | k + 1, e, nums, ps, h => by
    unfold flds at h
    split at h
    · cases h
    · rename_i at1 nums1 ps1 h1
      obtain ⟨i1, i2, i3⟩ := flds_in hs ha h1
      split at h
      · cases h
      · rename_i e2 n qs h2
        cases h
        have i4 := next_in hs i2 h2
        exact ⟨Nat.le_trans i1 i4.2.1, i4.2.2, by simp [i3]⟩
theorem ends_ok {x : Except Rf (Nat × List Int × List Pt)} {e : Nat} {ps : List Pt} (h : ends x = .ok (e, ps)) : ∃ nums, x = .ok (e, nums, ps) := by
  unfold ends at h
  split at h
  · cases h
  · cases h; exact ⟨_, rfl⟩
theorem val_in (L : List Fm) (s : ByteArray) : ∀ n, Within (val L s n)
  | 0 => fun _ _ _ _ _ _ _ h _ => by unfold val at h; cases h
  | n + 1 => fun id depth at_ limit cnt e ps h ha => by
    unfold val at h
    obtain ⟨nums, h1⟩ := ends_ok h
    have := flds_in (val_in L s n) ha h1
    exact ⟨this.1, this.2.1⟩
/-! numbers that are not there yet are nought -/
theorem told_pad (f : Fld) (nums : List Int) (m : Nat) : told f (nums ++ List.replicate m 0) = told f nums := by
  unfold told
  congr 1
  simp only [List.getD_eq_getElem?_getD, List.getElem?_append]
  split
  · rfl
  · rename_i h
    have e : nums[f.frm.toNat]? = none := List.getElem?_eq_none (by omega)
    rw [e, List.getElem?_replicate]
    split <;> rfl
theorem kind_pad (s : ByteArray) (sub : Sub) (id depth : Int) (start limit k : Nat) (f : Fld) (nums : List Int) (at_ cnt m : Nat) : kind s sub id depth start limit k f (nums ++ List.replicate m 0) at_ cnt = kind s sub id depth start limit k f nums at_ cnt := by
  unfold kind
  rw [told_pad]

/-! where a format stands -/
/-- The formats with the IDs that are used lie before. -/
def At (L : List Fm) (id : Int) (i : Nat) : Prop := i < L.length ∧ (L.getD i zm).id = id
theorem asc_lt {L : List Fm} (h : ∀ i, i + 1 < L.length → (L.getD i zm).id < (L.getD (i + 1) zm).id) {i j : Nat} (hij : i < j) (hj : j < L.length) : (L.getD i zm).id < (L.getD j zm).id := by
  induction j with
  | zero => omega
  | succ j ih =>
    rcases Nat.lt_or_ge i j with h1 | h1
    · exact Int.lt_trans (ih h1 (by omega)) (h j hj)
    · obtain rfl : i = j := by omega
      exact h i hj
theorem find_at {L : List Fm} (h : Ok L) {id : Int} {i : Nat} (ha : At L id i) : (L.find? fun f => decide (f.id = id)) = some (L.getD i zm) := by
  rw [List.find?_eq_some_iff_getElem]
  refine ⟨by simpa using ha.2, i, ha.1, by simp [List.getD, ha.1], fun j hj => ?_⟩
  have := asc_lt h.asc hj ha.1
  have e : (L.getD j zm).id = (L[j]'(Nat.lt_trans hj ha.1)).id := by simp [List.getD, Nat.lt_trans hj ha.1]
  have h2 := ha.2
  simp only [Bool.not_eq_true', decide_eq_false_iff_not]
  omega
theorem fieldsOf_at {L : List Fm} (h : Ok L) {id : Int} {i : Nat} (ha : At L id i) : fieldsOf L id = (L.getD i zm).fs := by
  unfold fieldsOf; rw [find_at h ha]; rfl
theorem has_iff {L : List Fm} {id : Int} : has L id = true ↔ ∃ i, At L id i := by
  unfold has At
  rw [List.any_eq_true]
  constructor
  · rintro ⟨f, hf, he⟩
    obtain ⟨i, hi, e⟩ := List.getElem_of_mem hf
    refine ⟨i, hi, ?_⟩
    simp only [decide_eq_true_eq] at he
    simp [List.getD, hi, e, he]
  · rintro ⟨i, hi, e⟩
    refine ⟨L[i], List.getElem_mem _, ?_⟩
    simp [List.getD, hi] at e
    simpa using e
end Rec
end RecPlain
section RecD
open Go.RowKit Fx Rec

/-- How a function is stopped by a refusal. -/
abbrev Stops (r : Rf) : Ending := .panicked [{ v := .iface 104 (.agg #[.int .i64 r.offset, .int .i64 r.format, .int .i64 r.field, .int .i64 r.reason]), recovered := false }]

theorem refuse_any (a b c d : Int) (w : World) : Calls Tryz.prog 74 #[.int .i64 a, .int .i64 b, .int .i64 c, .int .i64 d] w fun e w' => e = Stops ⟨a, b, c, d⟩ ∧ ∃ n, w' = w.drewN n := by
  go_enter Tryz.func74, Tryz.ntmps74
  go_wp2
  exact ⟨rfl, rfl, 0, rfl⟩
theorem require_yes (w : World) : Calls Tryz.prog 63 #[.bool true] w fun e w' => e = .returned (.tuple #[]) ∧ w' = w := by
  go_enter Tryz.func63, Tryz.ntmps63
  go_wp2
  first | go_end0 | go_ret
  exact ⟨rfl, rfl⟩
theorem require_no (w : World) : Calls Tryz.prog 63 #[.bool false] w fun e w' => e = Stops zRf ∧ w' = w := by
  go_enter Tryz.func63, Tryz.ntmps63
  go_wp2
  exact ⟨rfl, rfl, rfl⟩

/-- A value that is being recognised. -/
structure Vl where
  depth : Int
  format : Int
  field : Int
  start : Int
  at_ : Int
  limit : Int
  nums : List Int
def vlC (v : Vl) : List Value := [.int .i64 v.depth, .int .i64 v.format, .int .i64 v.field, .int .i64 v.start, .int .i64 v.at_, .int .i64 v.limit] ++ v.nums.map fun (n : Int) => Value.int .i64 n
structure VAt (w : World) (vb : Nat) (v : Vl) : Prop where
  blk : Blk w vb 145 (vlC v).toArray
  len : v.nums.length = 16
theorem VAt.keep {w w' : World} {vb : Nat} {v : Vl} (h : VAt w vb v) (hb : w'.heap[vb]? = w.heap[vb]?) : VAt w' vb v := ⟨hb.trans h.blk, h.len⟩
theorem VAt.drew {w : World} {vb : Nat} {v : Vl} (h : VAt w vb v) : VAt w.drew vb v := ⟨h.blk, h.len⟩
theorem VAt.cells {w : World} {vb : Nat} {v : Vl} (h : VAt w vb v) : w.cell? ⟨vb, 0, none⟩ = some (.int .i64 v.depth) ∧ w.cell? ⟨vb, 1, none⟩ = some (.int .i64 v.format) ∧ w.cell? ⟨vb, 2, none⟩ = some (.int .i64 v.field) ∧
    w.cell? ⟨vb, 3, none⟩ = some (.int .i64 v.start) ∧ w.cell? ⟨vb, 4, none⟩ = some (.int .i64 v.at_) ∧ w.cell? ⟨vb, 5, none⟩ = some (.int .i64 v.limit) := by
  refine ⟨?_, ?_, ?_, ?_, ?_, ?_⟩ <;> (rw [h.blk.cell]; rfl)
theorem VAt.num {w : World} {vb : Nat} {v : Vl} (h : VAt w vb v) {i : Nat} (hi : i < 16) : w.cell? ⟨vb, 6 + i, none⟩ = some (.int .i64 (v.nums.getD i 0)) := by
  rw [h.blk.cell]
  have hl := h.len
  simp [vlC, List.getD, hl, hi, Nat.add_comm 6 i]

set_option maxHeartbeats 1000000 in
theorem vrequire_yes (x : Value) (m : Int) (w : World) : Calls Tryz.prog 95 #[x, .bool true, .int .i64 m] w fun e w' => e = .returned (.tuple #[]) ∧ w' = w := by
  go_enter Tryz.func95, Tryz.ntmps95
  go_wp2
  first | go_end0 | go_ret
  exact ⟨rfl, rfl⟩
set_option maxHeartbeats 1000000 in
theorem vrequire_no (vb : Nat) (v : Vl) (m : Int) (w : World) (h : VAt w vb v) :
    Calls Tryz.prog 95 #[.pointer (some ⟨vb, 0, none⟩), .bool false, .int .i64 m] w fun e w' => e = Stops ⟨v.at_, v.format, v.field, m⟩ ∧ ∃ n, w' = w.drewN n := by
  obtain ⟨c0, c1, c2, c3, c4, c5⟩ := h.cells
  clear h
  go_enter Tryz.func95, Tryz.ntmps95
  go_wp2_with fail
  refine wp_region_held_drew (S := (fun w' : World => ∃ n : Nat, w' = w.drewN n)) (by kernel_rfl) ⟨1, rfl⟩ (fun hHeld => ?_)
  refine takeHn 0 (h := ?_)
  (try simp only [pA, pB, pC, pD])
  refine takeHn 1 (h := ?_)
  (try simp only [pA, pB, pC, pD])
  refine takeHn 2 (h := ?_)
  (try simp only [pA, pB, pC, pD])
  refine takeHn 3 (h := ?_)
  (try simp only [pA, pB, pC, pD])
  refine takeHn 4 (h := ?_)
  (try simp only [pA, pB, pC, pD])
  refine takeHn 5 (h := ?_)
  (try simp only [pA, pB, pC, pD])
  refine takeHn 6 (h := ?_)
  (try simp only [pA, pB, pC, pD])
  refine takeHn 7 (h := ?_)
  (try simp only [pA, pB, pC, pD])
  refine takeHn 8 (h := ?_)
  (try simp only [pA, pB, pC, pD])
  refine takeHn 9 (h := ?_)
  (try simp only [pA, pB, pC, pD])
  refine takeHn 10 (h := ?_)
  (try simp only [pA, pB, pC, pD])
  refine takeHn 11 (h := ?_)
  (try simp only [pA, pB, pC, pD])
  refine takeHn 12 (h := ?_)
  (try simp only [pA, pB, pC, pD])
  refine wpAnyH_ready (rs := [13]) (by kernel_rfl) (by simp) ?_
  refine AllReadyH.cons (o := ?oB14) ?hB14 ?kB14 AllReadyH.nil
  case hB14 => (simp only [List.getElem?_toArray, List.getElem?_cons_zero, List.getElem?_cons_succ]; rfl)
  case kB14 =>
    intro K hK
    go_simp
    refine (refuse_any _ _ _ _ w.drew).mono ?_
    rintro e w5 ⟨rfl, n5, rfl⟩
    exact ⟨rfl, rfl, _, World.drewN_drewN _ 1 _⟩

theorem wr64 {n : Int} (h1 : -9223372036854775808 ≤ n) (h2 : n ≤ 9223372036854775807) : IntKind.i64.wrap n = n := by
  rw [IntKind.wrap_i64]; omega
/-- The value's numbers are small. -/
structure VOk (v : Vl) : Prop where
  at0 : 0 ≤ v.at_
  lim : v.at_ ≤ v.limit
  max : v.limit ≤ 65536
  st0 : 0 ≤ v.start
  st1 : v.start ≤ v.at_
  dep : 0 ≤ v.depth ∧ v.depth ≤ 100
  num : ∀ i, i < 16 → 0 ≤ v.nums.getD i 0 ∧ v.nums.getD i 0 ≤ 16777215
set_option maxHeartbeats 1000000 in
theorem after_yes (vb : Nat) (v : Vl) (n : Int) (w : World) (h : VAt w vb v) (hv : VOk v) (n0 : 0 ≤ n) (n1 : n ≤ 16777215) (hn : n ≤ v.limit - v.at_) :
    Calls Tryz.prog 94 #[.pointer (some ⟨vb, 0, none⟩), .int .i64 n] w fun e w' => e = .returned (.int .i64 (v.at_ + n)) ∧ ∃ m, w' = w.drewN m := by
  obtain ⟨c0, c1, c2, c3, c4, c5⟩ := h.cells
  have b0 := hv.at0
  have b1 := hv.lim
  have b2 := hv.max
  obtain ⟨D, hD⟩ : ∃ D, D = v.limit - v.at_ := ⟨_, rfl⟩
  have hw : IntKind.i64.wrap (v.limit - v.at_) = D := by rw [wr64 (by omega) (by omega)]; exact hD.symm
  have hd : decide (n ≤ D) = true := by rw [decide_eq_true_eq]; omega
  have hs : IntKind.i64.wrap (v.at_ + n) = v.at_ + n := wr64 (by omega) (by omega)
  clear h hv hn hD
  go_enter Tryz.func94, Tryz.ntmps94
  go_wp2_with fail
  refine wp_region_held_drew (S := (fun w' : World => ∃ n : Nat, w' = w.drewN n)) (by kernel_rfl) ⟨1, rfl⟩ (fun hHeld => ?_)
  refine takeHn 0 (h := ?_)
  (try simp only [pA, pB, pC, pD])
  refine takeHn 1 (h := ?_)
  (try simp only [pA, pB, pC, pD])
  refine takeHn 2 (h := ?_)
  (try simp only [pA, pB, pC, pD])
  refine takeHn 3 (h := ?_)
  (try simp only [pA, pB, pC, pD])
  refine takeHn 4 (h := ?_)
  (try simp only [pA, pB, pC, pD])
  refine takeHn 5 (h := ?_)
  (try simp only [pA, pB, pC, pD])
  refine takeHn 6 (h := ?_)
  (try simp only [pA, pB, pC, pD])
  refine takeHn 7 (h := ?_)
  (try simp only [pA, pB, pC, pD])
  refine takeHn 8 (h := ?_)
  (try simp only [pA, pB, pC, pD])
  refine takeHn 9 (h := ?_)
  (try simp only [pA, pB, pC, pD])
  refine takeHn 10 (h := ?_)
  (try simp only [pA, pB, pC, pD])
  refine takeHn 11 (h := ?_)
  (try simp only [pA, pB, pC, pD])
  refine wpAnyH_ready (rs := [12]) (by kernel_rfl) (by simp) ?_
  refine AllReadyH.cons (o := ?oB27) ?hB27 ?kB27 AllReadyH.nil
  case hB27 => (simp only [List.getElem?_toArray, List.getElem?_cons_zero, List.getElem?_cons_succ]; rfl)
  case kB27 =>
    intro K hK
    go_simp
    refine (vrequire_yes _ _ w.drew).mono ?_
    rintro e w5 ⟨rfl, rfl⟩
    refine hK.out _ _ ⟨1, rfl⟩ (fun _ => ?_)
    clear hK K
    (try simp only [pA, pB, pC, pD])
    refine wpAnyH_done (by kernel_rfl) ?_ _
    go_wp2
    go_ret
    exact ⟨rfl, 1, rfl⟩

set_option maxHeartbeats 1000000 in
theorem after_no (vb : Nat) (v : Vl) (n : Int) (w : World) (h : VAt w vb v) (hv : VOk v) (hn : ¬ n ≤ v.limit - v.at_) :
    Calls Tryz.prog 94 #[.pointer (some ⟨vb, 0, none⟩), .int .i64 n] w fun e w' => e = Stops ⟨v.at_, v.format, v.field, 1⟩ ∧ ∃ m, w' = w.drewN m := by
  obtain ⟨c0, c1, c2, c3, c4, c5⟩ := h.cells
  have b0 := hv.at0
  have b1 := hv.lim
  have b2 := hv.max
  obtain ⟨D, hD⟩ : ∃ D, D = v.limit - v.at_ := ⟨_, rfl⟩
  have hw : IntKind.i64.wrap (v.limit - v.at_) = D := by rw [wr64 (by omega) (by omega)]; exact hD.symm
  have hd : decide (n ≤ D) = false := by rw [decide_eq_false_iff_not]; omega
  have HV := Lib.hid h
  clear h hv hn hD
  go_enter Tryz.func94, Tryz.ntmps94
  go_wp2_with fail
  refine wp_region_held_drew (S := (fun w' : World => ∃ n : Nat, w' = w.drewN n)) (by kernel_rfl) ⟨1, rfl⟩ (fun hHeld => ?_)
  refine takeHn 0 (h := ?_)
  (try simp only [pA, pB, pC, pD])
  refine takeHn 1 (h := ?_)
  (try simp only [pA, pB, pC, pD])
  refine takeHn 2 (h := ?_)
  (try simp only [pA, pB, pC, pD])
  refine takeHn 3 (h := ?_)
  (try simp only [pA, pB, pC, pD])
  refine takeHn 4 (h := ?_)
  (try simp only [pA, pB, pC, pD])
  refine takeHn 5 (h := ?_)
  (try simp only [pA, pB, pC, pD])
  refine takeHn 6 (h := ?_)
  (try simp only [pA, pB, pC, pD])
  refine takeHn 7 (h := ?_)
  (try simp only [pA, pB, pC, pD])
  refine takeHn 8 (h := ?_)
  (try simp only [pA, pB, pC, pD])
  refine takeHn 9 (h := ?_)
  (try simp only [pA, pB, pC, pD])
  refine takeHn 10 (h := ?_)
  (try simp only [pA, pB, pC, pD])
  refine takeHn 11 (h := ?_)
  (try simp only [pA, pB, pC, pD])
  refine wpAnyH_ready (rs := [12]) (by kernel_rfl) (by simp) ?_
  refine AllReadyH.cons (o := ?oB40) ?hB40 ?kB40 AllReadyH.nil
  case hB40 => (simp only [List.getElem?_toArray, List.getElem?_cons_zero, List.getElem?_cons_succ]; rfl)
  case kB40 =>
    intro K hK
    go_simp
    refine (vrequire_no vb v 1 w.drew HV.out.drew).mono ?_
    rintro e w5 ⟨rfl, n5, rfl⟩
    exact ⟨rfl, rfl, _, World.drewN_drewN _ 1 _⟩
end RecD
section RecE
open Go.RowKit Fx Rec

theorem power_any (n : Int) (w : World) (h1 : 1 ≤ n) (h3 : n ≤ 3) : Calls Tryz.prog 96 #[.int .i64 n] w fun e w' => e = .returned (.int .i64 (pow n)) ∧ w' = w := by
  obtain rfl | rfl | rfl : n = 1 ∨ n = 2 ∨ n = 3 := by omega
  all_goals
    go_enter Tryz.func96, Tryz.ntmps96
    go_wp2
    go_ret
    exact ⟨rfl, rfl⟩

theorem numL_snoc (l : List UInt8) (b : UInt8) : numL (l ++ [b]) = 256 * numL l + (b.toNat : Int) := by unfold numL; rw [List.foldl_append]; rfl
theorem numL_bound (l : List UInt8) : 0 ≤ numL l ∧ numL l < 256 ^ l.length := by
  obtain ⟨r, rfl⟩ : ∃ r : List UInt8, l = r.reverse := ⟨l.reverse, by simp⟩
  induction r with
  | nil => exact ⟨by decide, by decide⟩
  | cons b t ih =>
    rw [List.reverse_cons, numL_snoc, List.length_append]
    have h1 : b.toNat < 256 := b.toNat_lt
    have h2 : (256 : Int) ^ (t.reverse.length + [b].length) = 256 * 256 ^ t.reverse.length := by rw [List.length_singleton, Int.pow_succ, Int.mul_comm]
    omega
theorem num_bound {s : ByteArray} (h : s.size ≤ 3) : 0 ≤ num s ∧ num s ≤ 16777215 := by
  have := numL_bound s.data.toList
  have hl : s.data.toList.length ≤ 3 := by simpa using h
  have h3 : (256 : Int) ^ s.data.toList.length ≤ 256 ^ 3 := by
    have : ∀ k : Nat, k ≤ 3 → (256 : Int) ^ k ≤ 256 ^ 3 := fun k hk => by
      obtain rfl | rfl | rfl | rfl : k = 0 ∨ k = 1 ∨ k = 2 ∨ k = 3 := by omega
      all_goals decide
    exact this _ hl
  unfold num
  omega
/-- The number of the first k bytes. -/
def numTo (s : ByteArray) (k : Nat) : Int := numL (s.data.toList.take k)
theorem numTo_succ {s : ByteArray} {k : Nat} (hk : k < s.size) : numTo s (k + 1) = 256 * numTo s k + ((s[k]).toNat : Int) := by
  unfold numTo
  have : s.data.toList.take (k + 1) = s.data.toList.take k ++ [s[k]] := by
    rw [List.take_succ_eq_append_getElem (by simpa using hk)]
    rfl
  rw [this, numL_snoc]
theorem numTo_bound {s : ByteArray} {k : Nat} (hk : k ≤ 2) : 0 ≤ numTo s k ∧ numTo s k ≤ 65535 := by
  have := numL_bound (s.data.toList.take k)
  have hl : (s.data.toList.take k).length ≤ 2 := by rw [List.length_take]; omega
  have h3 : (256 : Int) ^ (s.data.toList.take k).length ≤ 256 ^ 2 := by
    have : ∀ k : Nat, k ≤ 2 → (256 : Int) ^ k ≤ 256 ^ 2 := fun k hk => by
      obtain rfl | rfl | rfl : k = 0 ∨ k = 1 ∨ k = 2 := by omega
      all_goals decide
    exact this _ hl
  unfold numTo
  omega
set_option maxHeartbeats 1000000 in
theorem number_any (s : ByteArray) (w : World) (hs : s.size ≤ 3) : Calls Tryz.prog 45 #[.string s] w fun e w' => e = .returned (.int .i64 (num s)) ∧ w' = w := by
  go_enter Tryz.func45, Tryz.ntmps45
  go_wp2_with fail
  go_loopw [3, 7] (fun n i wr => ∃ (k : Nat) (N : Int), k ≤ s.size ∧ n = .int .i64 N ∧ i = .int .i64 k ∧ N = numTo s k ∧ wr = w) (fun _ i _ => s.size - (intOf i).toNat)
  case atStart => exact ⟨0, 0, Nat.zero_le _, rfl, rfl, rfl, rfl⟩
  case round =>
    obtain ⟨k, N, hk, rfl, rfl, hN, rfl⟩ := hrel
    by_cases hlt : k < s.size
    · have hb := numTo_bound (s := s) (k := k) (by omega)
      rw [← hN] at hb
      have hsu := numTo_succ hlt
      rw [← hN] at hsu
      have hc : (s[k]).toNat < 256 := (s[k]).toNat_lt
      obtain ⟨B, hB⟩ : ∃ B : Int, ((s[k]).toNat : Int) = B := ⟨_, rfl⟩
      rw [hB] at hsu
      have hB0 : 0 ≤ B ∧ B ≤ 255 := by omega
      have HS := Lib.hid hsu
      clear hc hN hsu
      go_wp2_with fail
      exact ⟨⟨k + 1, 256 * N + B, by omega, by rw [Int.mul_comm], by go_num, HS.out.symm, trivial⟩, by simp [intOf]; omega⟩
    · obtain rfl : k = s.size := by omega
      have e : numTo s s.size = num s := by unfold numTo num; rw [List.take_of_length_le (by simp)]
      rw [e] at hN
      have HN := Lib.hid hN
      clear hN
      go_wp2_with fail
      go_ret
      exact ⟨by rw [HN.out]; rfl, rfl⟩
end RecE
section FmtC
open Go.RowKit Fx

/-- A function that captures. -/
abbrev clo (f : FuncId) (c : Array Value) : Value := .func (.func f) #[] c
abbrev adr (b : Nat) : Value := .pointer (some ⟨b, 0, none⟩)
/-- What sized returns. -/
abbrev sizedV (word : ByteArray) (b : Nat) : Array Value :=
  #[.string word, clo 140 #[adr b, adr (b + 1)], clo 141 #[], clo 142 #[], clo 144 #[]]
theorem sizedK_any (word : ByteArray) (lo hi : Int) (w : World) :
    Calls Tryz.prog 128 #[.string word, .int .i64 lo, .int .i64 hi] w fun e w' =>
      e = .returned (.agg (sizedV word w.heap.size)) ∧ w'.heap[w.heap.size]? = some (.cells #[.int .i64 lo] 3 (0, 0)) ∧ w'.heap[w.heap.size + 1]? = some (.cells #[.int .i64 hi] 3 (0, 0)) ∧ Below w.heap.size w w' := by
  have hmf : ∀ (fn : Fn) (first cap : Array Value) (w : World), (Instr.makeFunc fn first cap).run Tryz.prog w = .ok (.func fn first cap) w := fun _ _ _ _ => rfl
  go_enter Tryz.func128, Tryz.ntmps128
  go_wp2_with fail
  refine bodyPost_ret (v := .agg (sizedV word w.heap.size)) (by simp [results, Tryz.results128, go_sem]) rfl ⟨rfl, ?_, ?_, ?_⟩
  · exact (Below.heap_alloc _ _ _ (by simp; omega)).trans (heap_alloc2_old _ _ _)
  · exact (Below.heap_alloc _ _ _ (by simp)).trans (heap_alloc2_new _ _ _)
  exact (((Below.refl _ _).alloc (Nat.le_refl _) _).alloc (by simp) _).alloc (by simp; omega) _
/-- What orCounted returns of what sized returned. -/
abbrev countedV (word : ByteArray) (c : Nat) : Array Value :=
  #[.string word, clo 146 #[adr c], clo 141 #[], clo 148 #[adr c], clo 149 #[]]
theorem countedK_any (word : ByteArray) (b : Nat) (w : World) :
    Calls Tryz.prog 129 #[.agg (sizedV word b)] w fun e w' =>
      e = .returned (.agg (countedV word w.heap.size)) ∧ w'.heap[w.heap.size]? = some (.cells (sizedV word b) 184 (0, 0)) ∧ Below w.heap.size w w' := by
  have hmf : ∀ (fn : Fn) (first cap : Array Value) (w : World), (Instr.makeFunc fn first cap).run Tryz.prog w = .ok (.func fn first cap) w := fun _ _ _ _ => rfl
  go_enter Tryz.func129, Tryz.ntmps129
  go_wp2_with fail
  refine bodyPost_ret (v := .agg (countedV word w.heap.size)) (by simp [results, Tryz.results129, go_sem]) rfl ⟨rfl, ?_, ?_⟩
  · exact (Below.heap_alloc _ _ _ (by simp)).trans (heap_alloc_new _ _)
  · exact ((Below.refl _ _).alloc (Nat.le_refl _) _).alloc (by simp) _

/-- The cells of the kinds: of the sized ones' bounds, and of the sized kind in the counted one. -/
def kindsV (b1 c b3 : Nat) : Array Value :=
  #[.string ⟨#[]⟩, .nilFunc, .nilFunc, .nilFunc, .nilFunc,
    .string ⟨#[108, 105, 116, 101, 114, 97, 108]⟩, clo 121 #[], clo 123 #[], clo 124 #[], clo 126 #[],
    .string ⟨#[110, 117, 109, 98, 101, 114]⟩, clo 140 #[adr b1, adr (b1 + 1)], clo 141 #[], clo 142 #[], clo 144 #[],
    .string ⟨#[98, 121, 116, 101, 115]⟩, clo 146 #[adr c], clo 141 #[], clo 148 #[adr c], clo 149 #[],
    .string ⟨#[108, 105, 115, 116]⟩, clo 130 #[], clo 131 #[], clo 132 #[], clo 133 #[],
    .string ⟨#[105, 110, 115, 105, 100, 101]⟩, clo 134 #[], clo 136 #[], clo 132 #[], clo 133 #[],
    .string ⟨#[99, 104, 101, 99, 107]⟩, clo 140 #[adr b3, adr (b3 + 1)], clo 141 #[], clo 142 #[], clo 144 #[]]
/-- What the functions of the kinds have captured. -/
structure Boxes (w : World) (b1 b2 c b3 : Nat) : Prop where
  l1 : w.heap[b1]? = some (.cells #[.int .i64 1] 3 (0, 0))
  h1 : w.heap[b1 + 1]? = some (.cells #[.int .i64 3] 3 (0, 0))
  l2 : w.heap[b2]? = some (.cells #[.int .i64 0] 3 (0, 0))
  h2 : w.heap[b2 + 1]? = some (.cells #[.int .i64 4096] 3 (0, 0))
  k : w.heap[c]? = some (.cells (sizedV ⟨#[98, 121, 116, 101, 115]⟩ b2) 184 (0, 0))
  l3 : w.heap[b3]? = some (.cells #[.int .i64 1] 3 (0, 0))
  h3 : w.heap[b3 + 1]? = some (.cells #[.int .i64 3] 3 (0, 0))
theorem box_cell {w : World} {b : Nat} {n : Int} (h : w.heap[b]? = some (.cells #[.int .i64 n] 3 (0, 0))) : w.cell? ⟨b, 0, none⟩ = some (.int .i64 n) := cell_of_row w b 0 _ _ _ h
theorem lt_of_heap {w : World} {g : Nat} {o : Obj} (h : w.heap[g]? = some o) : g < w.heap.size := (Array.getElem?_eq_some_iff.1 h).1
theorem Boxes.lt {w : World} {b1 b2 c b3 : Nat} (h : Boxes w b1 b2 c b3) : b1 + 1 < w.heap.size ∧ b2 + 1 < w.heap.size ∧ c < w.heap.size ∧ b3 + 1 < w.heap.size :=
  ⟨lt_of_heap h.h1, lt_of_heap h.h2, lt_of_heap h.k, lt_of_heap h.h3⟩
theorem Boxes.kept {P : Nat → Prop} {w w' : World} {b1 b2 c b3 : Nat} (h : Boxes w b1 b2 c b3) (hk : Kept P w w') (hp : P b1 ∧ P (b1 + 1) ∧ P b2 ∧ P (b2 + 1) ∧ P c ∧ P b3 ∧ P (b3 + 1)) : Boxes w' b1 b2 c b3 := by
  obtain ⟨p1, p2, p3, p4, p5, p6, p7⟩ := hp
  exact ⟨(hk.block _ p1).trans h.l1, (hk.block _ p2).trans h.h1, (hk.block _ p3).trans h.l2, (hk.block _ p4).trans h.h2, (hk.block c p5).trans h.k, (hk.block _ p6).trans h.l3, (hk.block _ p7).trans h.h3⟩
/-- They stay where no block of their types is written. -/
theorem Boxes.far {w w' : World} {b1 b2 c b3 : Nat} (h : Boxes w b1 b2 c b3) (hf : ∀ (g : Nat) (cur : Array Value) (t : TypeId), t = 3 ∨ t = 184 → w.heap[g]? = some (Obj.cells cur t (0, 0)) → w'.heap[g]? = w.heap[g]?) : Boxes w' b1 b2 c b3 :=
  ⟨(hf _ _ _ (.inl rfl) h.l1).trans h.l1, (hf _ _ _ (.inl rfl) h.h1).trans h.h1, (hf _ _ _ (.inl rfl) h.l2).trans h.l2, (hf _ _ _ (.inl rfl) h.h2).trans h.h2, (hf _ _ _ (.inr rfl) h.k).trans h.k, (hf _ _ _ (.inl rfl) h.l3).trans h.l3, (hf _ _ _ (.inl rfl) h.h3).trans h.h3⟩
theorem Boxes.below {w w' : World} {b1 b2 c b3 : Nat} (h : Boxes w b1 b2 c b3) (hb : Below w.heap.size w w') : Boxes w' b1 b2 c b3 := by
  have hl := h.lt
  exact h.kept (Kept.of_below (P := (· < w.heap.size)) hb fun _ h => h) ⟨by omega, by omega, by omega, by omega, by omega, by omega, by omega⟩
/-- The blocks of the boxes. -/
def BoxB (b1 b2 c b3 k : Nat) : Prop := k = b1 ∨ k = b1 + 1 ∨ k = b2 ∨ k = b2 + 1 ∨ k = c ∨ k = b3 ∨ k = b3 + 1
theorem Boxes.of_blocks {w w' : World} {b1 b2 c b3 : Nat} (h : Boxes w b1 b2 c b3) (hf : ∀ k, BoxB b1 b2 c b3 k → w'.heap[k]? = w.heap[k]?) : Boxes w' b1 b2 c b3 :=
  ⟨(hf _ (.inl rfl)).trans h.l1, (hf _ (.inr (.inl rfl))).trans h.h1, (hf _ (.inr (.inr (.inl rfl)))).trans h.l2, (hf _ (.inr (.inr (.inr (.inl rfl))))).trans h.h2, (hf _ (.inr (.inr (.inr (.inr (.inl rfl)))))).trans h.k, (hf _ (.inr (.inr (.inr (.inr (.inr (.inl rfl))))))).trans h.l3, (hf _ (.inr (.inr (.inr (.inr (.inr (.inr rfl))))))).trans h.h3⟩
theorem kindsV_one (a b c : Nat) : (kindsV a b c).all (·.oneCell') = true := by simp [kindsV, Value.oneCell']
theorem infoKinds : (Tryz.prog.info? 185).map (·.size) = some 35 := by kernel_rfl
set_option maxHeartbeats 1000000 in
theorem kinds_any (w : World) :
    Calls Tryz.prog 118 #[] w fun e w' => (∃ b1 b2 c b3, e = .returned (.agg (kindsV b1 c b3)) ∧ Boxes w' b1 b2 c b3 ∧ ∀ k, BoxB b1 b2 c b3 k → w.heap.size ≤ k) ∧ Below w.heap.size w w' := by
  go_enter Tryz.func118, Tryz.ntmps118
  go_wp2_with fail
  obtain ⟨w0, hw0⟩ : ∃ w0, w0 = w.alloc (.cells #[.string ⟨#[]⟩, .nilFunc, .nilFunc, .nilFunc, .nilFunc, .string ⟨#[]⟩, .nilFunc, .nilFunc, .nilFunc, .nilFunc, .string ⟨#[]⟩, .nilFunc, .nilFunc, .nilFunc, .nilFunc, .string ⟨#[]⟩, .nilFunc, .nilFunc, .nilFunc, .nilFunc,
    .string ⟨#[]⟩, .nilFunc, .nilFunc, .nilFunc, .nilFunc, .string ⟨#[]⟩, .nilFunc, .nilFunc, .nilFunc, .nilFunc, .string ⟨#[]⟩, .nilFunc, .nilFunc, .nilFunc, .nilFunc] 185) := ⟨_, rfl⟩
  rw [← hw0]
  have h0 : Hid (Below w.heap.size w w0 ∧ ∃ cs : Array Value, cs.size = 35 ∧ w0.heap[w.heap.size]? = some (.cells cs 185 (0, 0))) := Lib.hid (by rw [hw0]; exact ⟨bx _, _, rfl, heap_alloc_new _ _⟩)
  clear hw0
  refine (sizedK_any _ _ _ _).mono ?_
  rintro e w1 ⟨rfl, a1, a2, hB1⟩
  have A1 := Lib.hid (And.intro (And.intro a1 a2) hB1)
  clear a1 a2 hB1
  go_wp2_with fail
  refine (sizedK_any _ _ _ _).mono ?_
  rintro e w2 ⟨rfl, a1, a2, hB1⟩
  have A2 := Lib.hid (And.intro (And.intro a1 a2) hB1)
  clear a1 a2 hB1
  go_wp2_with fail
  refine (countedK_any _ _ _).mono ?_
  rintro e w3 ⟨rfl, a1, hB1⟩
  have A3 := Lib.hid (And.intro a1 hB1)
  clear a1 hB1
  go_wp2_with fail
  refine (sizedK_any _ _ _ _).mono ?_
  rintro e w4 ⟨rfl, a1, a2, hB1⟩
  obtain ⟨H0, cs, hcs, hh⟩ := h0.out
  have s0 := lt_of_heap hh
  have s1 := A1.out.2.size
  have s2 := A2.out.2.size
  have s3 := A3.out.2.size
  have s4 := hB1.size
  have q2 := lt_of_heap A1.out.1.2
  have q3 := lt_of_heap A2.out.1.2
  have q4 := lt_of_heap A3.out.1
  have b02 : Below w0.heap.size w0 w2 := A1.out.2.trans (A2.out.2.mono s1)
  have b13 : Below w1.heap.size w1 w3 := A2.out.2.trans (A3.out.2.mono s2)
  have b24 : Below w2.heap.size w2 w4 := A3.out.2.trans (hB1.mono s3)
  have b14 : Below w1.heap.size w1 w4 := A2.out.2.trans (b24.mono s2)
  have b04 : Below w0.heap.size w0 w4 := A1.out.2.trans (b14.mono s1)
  have hb4 : Hid (w4.heap[w.heap.size]? = some (.cells cs 185 (0, 0))) := Lib.hid ((b04.block _ s0).trans hh)
  have HX : Hid (Boxes w4 w0.heap.size w1.heap.size w2.heap.size w3.heap.size) := Lib.hid
    ⟨(b14.block _ (lt_of_heap A1.out.1.1)).trans A1.out.1.1, (b14.block _ q2).trans A1.out.1.2, (b24.block _ (lt_of_heap A2.out.1.1)).trans A2.out.1.1, (b24.block _ q3).trans A2.out.1.2,
      (hB1.block _ q4).trans A3.out.1, a1, a2⟩
  have HB : Hid (Below w.heap.size w w4 ∧ w.heap.size < w0.heap.size ∧ cs.size = 35) := Lib.hid ⟨H0.trans (b04.mono H0.size), s0, hcs⟩
  have HS := Lib.hid (And.intro s1 (And.intro s2 s3))
  clear H0 hh s0 s1 s2 s3 s4 q2 q3 q4 b02 b13 b24 b14 b04 A1 A2 A3 hB1 a1 a2 h0 hcs
  go_wp2_with (first | (refine wpList_store_row rfl 185 _ _ rfl w.heap.size (kindsV w0.heap.size w2.heap.size w3.heap.size) rfl rfl 185 _ hb4.out (infoKinds.trans rfl) HB.out.2.2 (kindsV_one _ _ _) ?_))
  have hX := HX.out
  have hS := HS.out
  have hk : Kept (fun k => k < w.heap.size ∨ w0.heap.size ≤ k ∧ k < w4.heap.size) w4 (w4.setRow w.heap.size (kindsV w0.heap.size w2.heap.size w3.heap.size)) := by
    refine ⟨rfl, rfl, rfl, by simp, fun k hk => ?_⟩
    simp only [World.setRow, Array.getElem?_modify]
    rw [if_neg (by have := HB.out.2.1; omega)]
  have hl := hX.lt
  have hY : Boxes (w4.setRow w.heap.size (kindsV w0.heap.size w2.heap.size w3.heap.size)) w0.heap.size w1.heap.size w2.heap.size w3.heap.size := hX.kept hk ⟨.inr (by omega), .inr (by omega), .inr (by omega), .inr (by omega), .inr (by omega), .inr (by omega), .inr (by omega)⟩
  refine bodyPost_ret (v := .agg (kindsV w0.heap.size w2.heap.size w3.heap.size)) ?_ rfl ⟨⟨_, _, _, _, rfl, hY, fun k hk => by have := HB.out.2.1; unfold BoxB at hk; omega⟩, HB.out.1.trans (hk.below fun k h => .inl h)⟩
  exact results_cell_row rfl _ _ w.heap.size _ _ (0, 0) _ rfl (setRow_heap _ _ _ _ _ _ hb4.out) Tryz.underlying185 rfl (infoKinds.trans rfl)
end FmtC
section FmtD
open Go.RowKit Fx

def usedB (fs : List Fld) (i : Int) : Bool := fs.any fun g => decide (g.frm = i)
/-- The cells of formats whose fields lie where these values say. -/
def flatM : List Fm → List Value → List Value
  | f :: t, v :: vs => .int .i64 f.id :: v :: flatM t vs
  | _, _ => []
theorem flatM_len : ∀ {d : List Fm} {vs : List Value}, vs.length = d.length → (flatM d vs).length = d.length * 2
  | [], _, _ => by simp [flatM]
  | f :: t, [], h => by simp at h
  | f :: t, v :: vs, h => by
    have := flatM_len (d := t) (vs := vs) (by simpa using h)
    simp only [flatM, List.length_cons, this]; omega
theorem flatM_snoc : ∀ {d : List Fm} {vs : List Value} {f : Fm} {v : Value}, vs.length = d.length → flatM (d ++ [f]) (vs ++ [v]) = flatM d vs ++ [.int .i64 f.id, v]
  | [], [], _, _, _ => rfl
  | [], _ :: _, _, _, h => by simp at h
  | _ :: _, [], _, _, h => by simp at h
  | g :: t, u :: vs, f, v, h => by
    have := flatM_snoc (d := t) (vs := vs) (f := f) (v := v) (by simpa using h)
    simp only [List.cons_append, flatM, this]
theorem flatM_get : ∀ {d : List Fm} {vs : List Value} {i : Nat}, vs.length = d.length → i < d.length → (flatM d vs)[i * 2]? = some (.int .i64 (d.getD i zm).id) ∧ (flatM d vs)[i * 2 + 1]? = some (vs.getD i undef)
  | [], _, _, _, h => by simp at h
  | _ :: _, [], _, h, _ => by simp at h
  | g :: t, u :: vs, 0, _, _ => by simp [flatM]
  | g :: t, u :: vs, i + 1, h, hi => by
    have := flatM_get (d := t) (vs := vs) (i := i) (by simpa using h) (by simpa using hi)
    simp only [flatM]
    rw [show (i + 1) * 2 = (i * 2 + 1) + 1 by omega]
    simpa using this

/-- What of a table stands when the open format is complete. -/
structure Core (w : World) (P : Nat → Prop) (tb : Nat) (s : St) (cs : Array Value) (mb b1 b2 c b3 : Nat) (vF : Value) (vs : List Value) : Prop where
  blk : Blk w tb 190 cs
  sz : cs.size = 56
  kinds : ∀ i, i < 35 → cs[i]? = (kindsV b1 c b3)[i]?
  cF : cs[35]? = some vF
  cM : cs[36]? = some (.map (some mb))
  cI : cs[37]? = some (.int .i64 s.o.id)
  boxes : Boxes w b1 b2 c b3
  map : MapIs w mb (lm s.d)
  rowF : w.ownsRow 0 52 2 vF s.d.length (flatM s.d vs)
  vsl : vs.length = s.d.length
  done : ∀ i, i < s.d.length → w.ownsRow 0 56 4 (vs.getD i undef) (s.d.getD i zm).fs.length (flat (s.d.getD i zm).fs)
  pin : ∀ k, P k → k < w.heap.size
  pT : ¬ P tb
  pM : ¬ P mb
  pF : ∀ g, vF.ownBlock = some g → ¬ P g
  pB : ∀ k, BoxB b1 b2 c b3 k → ¬ P k
/-- What stands besides while a format is read. -/
structure Open (w : World) (P : Nat → Prop) (s : St) (cs : Array Value) (vs : List Value) (vO : Value) : Prop where
  cO : cs[38]? = some vO
  cL : cs[39]? = some (.int .i64 (ls (lm s.d) s.o.fs))
  cU : ∀ i : Nat, i < 16 → cs[40 + i]? = some (.bool (usedB s.o.fs i))
  rowO : w.ownsRow 0 56 4 vO s.o.fs.length (flat s.o.fs)
  pO : ∀ g, vO.ownBlock = some g → ¬ P g
  apart : ∀ i, i < s.d.length → ∀ g, vO.ownBlock = some g → (vs.getD i undef).ownBlock ≠ some g
/-- A table whose formats are complete. -/
def TabEnd (w : World) (P : Nat → Prop) (tb : Nat) (s : St) : Prop := ∃ cs mb b1 b2 c b3 vF vs, Core w P tb s cs mb b1 b2 c b3 vF vs
/-- A table that is read. -/
def TabAt (w : World) (P : Nat → Prop) (tb : Nat) (s : St) : Prop := ∃ cs mb b1 b2 c b3 vF vs vO, Core w P tb s cs mb b1 b2 c b3 vF vs ∧ Open w P s cs vs vO
theorem TabAt.end_ {w : World} {P : Nat → Prop} {tb : Nat} {s : St} (h : TabAt w P tb s) : TabEnd w P tb s := by
  obtain ⟨cs, mb, b1, b2, c, b3, vF, vs, vO, h1, _⟩ := h
  exact ⟨cs, mb, b1, b2, c, b3, vF, vs, h1⟩

theorem ownsRow_below {w w' : World} {B : Nat} {e : TypeId} {sz : Nat} {v : Value} {n : Nat} {xs : List Value} (h : w.ownsRow B e sz v n xs) (hb : Below w.heap.size w w') : w'.ownsRow B e sz v n xs := by
  refine ⟨h.1, ?_⟩
  rcases h.2 with hn | ⟨g, cap, cur, rfl, hg, hh, r⟩
  · exact .inl hn
  · exact .inr ⟨g, cap, cur, rfl, hg, (hb.block g (lt_of_heap hh)).trans hh, r⟩
theorem own_keep {w w' : World} {B : Nat} {e : TypeId} {sz : Nat} {v : Value} {n : Nat} {xs : List Value} (h : w.ownsRow B e sz v n xs) (hb : ∀ g cur, v.ownBlock = some g → w.heap[g]? = some (.cells cur e (0, 0)) → w'.heap[g]? = w.heap[g]?) : w'.ownsRow B e sz v n xs := by
  refine ⟨h.1, ?_⟩
  rcases h.2 with hn | ⟨g, cap, cur, rfl, hg, hh, r⟩
  · exact .inl hn
  · exact .inr ⟨g, cap, cur, rfl, hg, (hb g cur rfl hh).trans hh, r⟩
theorem own_heap {w : World} {B : Nat} {e : TypeId} {sz : Nat} {v : Value} {n : Nat} {xs : List Value} (h : w.ownsRow B e sz v n xs) {g : Nat} (hg : v.ownBlock = some g) : ∃ cur, w.heap[g]? = some (.cells cur e (0, 0)) := by
  rcases h.2 with ⟨rfl, _⟩ | ⟨g', cap, cur, rfl, _, hh, _⟩
  · simp [Value.ownBlock] at hg
  · have : g' = g := by simpa [Value.ownBlock] using hg
    subst this
    exact ⟨cur, hh⟩
theorem MapIs.heap_ne {w : World} {mb : Nat} {m : List (Int × Int)} (h : MapIs w mb m) {g : Nat} {cur : Array Value} {t : TypeId} {fr : Nat × Nat} (hg : w.heap[g]? = some (.cells cur t fr)) : g ≠ mb := by
  rintro rfl
  obtain ⟨n, D, _, ⟨es, clock, h1, _⟩, _⟩ := h.is
  rw [h1] at hg
  cases hg
theorem Blk.below {w w' : World} {g : Nat} {t : TypeId} {cs : Array Value} (h : Blk w g t cs) (hb : Below w.heap.size w w') : Blk w' g t cs := (hb.block g h.lt).trans h
theorem Core.below {w w' : World} {P : Nat → Prop} {tb : Nat} {s : St} {cs : Array Value} {mb b1 b2 c b3 : Nat} {vF : Value} {vs : List Value} (h : Core w P tb s cs mb b1 b2 c b3 vF vs) (hb : Below w.heap.size w w') : Core w' P tb s cs mb b1 b2 c b3 vF vs :=
  ⟨h.blk.below hb, h.sz, h.kinds, h.cF, h.cM, h.cI, h.boxes.below hb, h.map.of_block (hb.block _ h.map.lt), ownsRow_below h.rowF hb, h.vsl, fun i hi => ownsRow_below (h.done i hi) hb, fun k hk => Nat.lt_of_lt_of_le (h.pin k hk) hb.size, h.pT, h.pM, h.pF, h.pB⟩
theorem Open.below {w w' : World} {P : Nat → Prop} {s : St} {cs : Array Value} {vs : List Value} {vO : Value} (h : Open w P s cs vs vO) (hb : Below w.heap.size w w') : Open w' P s cs vs vO :=
  ⟨h.cO, h.cL, h.cU, ownsRow_below h.rowO hb, h.pO, h.apart⟩
theorem TabEnd.below {w w' : World} {P : Nat → Prop} {tb : Nat} {s : St} (h : TabEnd w P tb s) (hb : Below w.heap.size w w') : TabEnd w' P tb s := by
  obtain ⟨cs, mb, b1, b2, c, b3, vF, vs, h1⟩ := h
  exact ⟨cs, mb, b1, b2, c, b3, vF, vs, h1.below hb⟩
theorem TabAt.below {w w' : World} {P : Nat → Prop} {tb : Nat} {s : St} (h : TabAt w P tb s) (hb : Below w.heap.size w w') : TabAt w' P tb s := by
  obtain ⟨cs, mb, b1, b2, c, b3, vF, vs, vO, h1, h2⟩ := h
  exact ⟨cs, mb, b1, b2, c, b3, vF, vs, vO, h1.below hb, h2.below hb⟩
theorem own_lt {w : World} {B : Nat} {e : TypeId} {sz : Nat} {v : Value} {n : Nat} {xs : List Value} (h : w.ownsRow B e sz v n xs) {g : Nat} (hg : v.ownBlock = some g) : g < w.heap.size := (h.lt g hg).2
/-- What is made behind a table is kept as well. -/
theorem TabAt.widen {w w' : World} {P : Nat → Prop} {tb : Nat} {s : St} (h : TabAt w P tb s) (hb : Below w.heap.size w w') : TabAt w' (fun k => P k ∨ (w.heap.size ≤ k ∧ k < w'.heap.size)) tb s := by
  obtain ⟨cs, mb, b1, b2, c, b3, vF, vs, vO, h1, h2⟩ := h
  have k1 := h1.below hb
  have k2 := h2.below hb
  refine ⟨cs, mb, b1, b2, c, b3, vF, vs, vO, { k1 with pin := ?_, pT := ?_, pM := ?_, pF := ?_, pB := ?_ }, { k2 with pO := ?_ }⟩
  · rintro k (hk | hk)
    · exact k1.pin k hk
    · exact hk.2
  · rintro (hk | hk)
    · exact h1.pT hk
    · have := h1.blk.lt; omega
  · rintro (hk | hk)
    · exact h1.pM hk
    · have := h1.map.lt; omega
  · rintro g hg (hk | hk)
    · exact h1.pF g hg hk
    · have := own_lt h1.rowF hg; omega
  · rintro k hB (hk | hk)
    · exact h1.pB k hB hk
    · have := h1.boxes.lt; unfold BoxB at hB; omega
  · rintro g hg (hk | hk)
    · exact h2.pO g hg hk
    · have := own_lt h2.rowO hg; omega
/-- .. and need not be kept any more. -/
theorem TabEnd.narrow {w : World} {P Q : Nat → Prop} {tb : Nat} {s : St} (h : TabEnd w P tb s) (hq : ∀ k, Q k → P k) : TabEnd w Q tb s := by
  obtain ⟨cs, mb, b1, b2, c, b3, vF, vs, h1⟩ := h
  exact ⟨cs, mb, b1, b2, c, b3, vF, vs, { h1 with pin := fun k hk => h1.pin k (hq k hk), pT := fun hk => h1.pT (hq _ hk), pM := fun hk => h1.pM (hq _ hk), pF := fun g hg hk => h1.pF g hg (hq _ hk), pB := fun k hB hk => h1.pB k hB (hq _ hk) }⟩

/-! the empty table -/
/-- The cells of a new table. -/
def newV (b1 c b3 mb : Nat) : Array Value :=
  #[.string ⟨#[]⟩, .nilFunc, .nilFunc, .nilFunc, .nilFunc,
    .string ⟨#[108, 105, 116, 101, 114, 97, 108]⟩, clo 121 #[], clo 123 #[], clo 124 #[], clo 126 #[],
    .string ⟨#[110, 117, 109, 98, 101, 114]⟩, clo 140 #[adr b1, adr (b1 + 1)], clo 141 #[], clo 142 #[], clo 144 #[],
    .string ⟨#[98, 121, 116, 101, 115]⟩, clo 146 #[adr c], clo 141 #[], clo 148 #[adr c], clo 149 #[],
    .string ⟨#[108, 105, 115, 116]⟩, clo 130 #[], clo 131 #[], clo 132 #[], clo 133 #[],
    .string ⟨#[105, 110, 115, 105, 100, 101]⟩, clo 134 #[], clo 136 #[], clo 132 #[], clo 133 #[],
    .string ⟨#[99, 104, 101, 99, 107]⟩, clo 140 #[adr b3, adr (b3 + 1)], clo 141 #[], clo 142 #[], clo 144 #[],
    .slice none 0 0, .map (some mb), .int .i64 0, .slice none 0 0, .int .i64 0, .bool false, .bool false, .bool false, .bool false, .bool false, .bool false, .bool false, .bool false, .bool false, .bool false, .bool false, .bool false, .bool false, .bool false, .bool false, .bool false]
theorem newV_kinds (b1 c b3 mb i : Nat) (h : i < 35) : (newV b1 c b3 mb)[i]? = (kindsV b1 c b3)[i]? := by
  match i, h with
  | 0, _ => rfl
  | 1, _ => rfl
  | 2, _ => rfl
  | 3, _ => rfl
  | 4, _ => rfl
  | 5, _ => rfl
  | 6, _ => rfl
  | 7, _ => rfl
  | 8, _ => rfl
  | 9, _ => rfl
  | 10, _ => rfl
  | 11, _ => rfl
  | 12, _ => rfl
  | 13, _ => rfl
  | 14, _ => rfl
  | 15, _ => rfl
  | 16, _ => rfl
  | 17, _ => rfl
  | 18, _ => rfl
  | 19, _ => rfl
  | 20, _ => rfl
  | 21, _ => rfl
  | 22, _ => rfl
  | 23, _ => rfl
  | 24, _ => rfl
  | 25, _ => rfl
  | 26, _ => rfl
  | 27, _ => rfl
  | 28, _ => rfl
  | 29, _ => rfl
  | 30, _ => rfl
  | 31, _ => rfl
  | 32, _ => rfl
  | 33, _ => rfl
  | 34, _ => rfl
  | k + 35, h => omega
theorem newV_used (b1 c b3 mb i : Nat) (h : i < 16) : (newV b1 c b3 mb)[40 + i]? = some (.bool false) := by
  match i, h with
  | 0, _ => rfl
  | 1, _ => rfl
  | 2, _ => rfl
  | 3, _ => rfl
  | 4, _ => rfl
  | 5, _ => rfl
  | 6, _ => rfl
  | 7, _ => rfl
  | 8, _ => rfl
  | 9, _ => rfl
  | 10, _ => rfl
  | 11, _ => rfl
  | 12, _ => rfl
  | 13, _ => rfl
  | 14, _ => rfl
  | 15, _ => rfl
  | k + 16, h => omega
set_option maxHeartbeats 1000000 in
theorem empty_any (P : Nat → Prop) (w : World) (hP : ∀ k, P k → k < w.heap.size) :
    Calls Tryz.prog 111 #[] w fun e w' => (∃ tb, e = .returned (adr tb) ∧ TabAt w' P tb st0) ∧ Below w.heap.size w w' := by
  have hmm := @run_makeMap Tryz.prog
  go_enter Tryz.func111, Tryz.ntmps111
  go_wp2_with fail
  refine (kinds_any _).mono ?_
  rintro e w1 ⟨⟨b1, b2, c, b3, rfl, hX, hbb⟩, hB⟩
  have HX := Lib.hid hX
  have HB := Lib.hid hB
  have HBB := Lib.hid hbb
  clear hX hB hbb
  unfold kindsV
  go_wp2_with fail
  have s1 := HB.out.size
  have hb2 : ∀ o1 o2 : Obj, Below w1.heap.size w1 ((w1.alloc o1).alloc o2) := fun o1 o2 => ((Below.refl _ _).alloc (Nat.le_refl _) _).alloc (by simp) _
  have hT : TabAt ((w1.alloc (.map #[] 0)).alloc (.cells (newV b1 c b3 w1.heap.size) 190)) P (w1.heap.size + 1) st0 := by
    refine ⟨newV b1 c b3 w1.heap.size, w1.heap.size, b1, b2, c, b3, .slice none 0 0, [], .slice none 0 0, ?_, ?_⟩
    · exact ⟨heap_alloc2_new _ _ _, rfl, fun i hi => newV_kinds _ _ _ _ i hi, rfl, rfl, rfl, HX.out.below (hb2 _ _), (MapIs.made w1).of_block (Below.heap_alloc _ _ _ (by simp)), World.ownsRow_nil _ _ _ _, rfl, fun i hi => absurd hi (by simp [st0]),
        fun k hk => by have := hP k hk; simp; omega, fun hk => by have := hP _ hk; omega, fun hk => by have := hP _ hk; omega, fun g hg => by simp [Value.ownBlock] at hg, fun k hk hP1 => by have := HBB.out k hk; have := hP k hP1; omega⟩
    · exact ⟨rfl, rfl, fun i hi => newV_used _ _ _ _ i hi, World.ownsRow_nil _ _ _ _, fun g hg => by simp [Value.ownBlock] at hg, fun i hi => absurd hi (by simp [st0])⟩
  go_ret
  exact ⟨⟨w1.heap.size + 1, rfl, hT⟩, HB.out.trans ((hb2 _ _).mono s1)⟩
end FmtD
end Go.Proofs.YtdndmhlmbpgdeaaGreatDoor
