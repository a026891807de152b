/- Which numbers wait. Conditions: the draft lies in memory. A draft in memory; the writer's numbers. Conditions: the writer and the draft lie in memory. The writer's literals and numbers. Conditions: the writer and the draft lie in memory, the field is a right one. The writer's bytes. Conditions: the writer and the draft lie in memory, the field is a right one, the numbers that wait have room, the values are no longer than half of what there can be. -/
import Derived.Test.YtlhobhfmombjjaaGreatDoorPa12
namespace Go.Proofs.YtlhobhfmombjjaaGreatDoor
section WrG
open Go.RowKit Fx Rec

def waitsF (k : Nat) (f : Fld) : Bool := decide (f.frm = (k : Int)) && !decide (f.kind = 4)
theorem waits_any' (fs : List Fld) (k : Nat) : waits fs k = fs.any (waitsF k) := rfl
set_option maxRecDepth 20000 in
set_option maxHeartbeats 600000 in
theorem waits1_any (f : Fld) (gb db k : Nat) (w : World) (h1 : w.cell? ⟨gb, 0, none⟩ = some (ptr db)) (h2 : w.cell? ⟨db, 1, none⟩ = some (.int .i64 (k : Nat))) (l1 : gb < w.heap.size) (l2 : db < w.heap.size) :
    Calls Tryz.prog 109 #[fldV f, ptr gb] w fun e w' => e = .returned (.bool (waitsF k f)) ∧ Below w.heap.size w w' := by
  have HBX := Lib.hid (box_cells w f)
  obtain ⟨x0, x1, x2, x3⟩ := HBX.out
  have g1 : (w.alloc (.cells #[.int .i64 f.kind, .int .i64 f.n, .int .i64 f.frm, .string f.text] 56)).cell? ⟨gb, 0, none⟩ = some (ptr db) := by rw [World.cell?_of_block (w := w) (heap_alloc_old _ _ l1)]; exact h1
  have g2 : (w.alloc (.cells #[.int .i64 f.kind, .int .i64 f.n, .int .i64 f.frm, .string f.text] 56)).cell? ⟨db, 1, none⟩ = some (.int .i64 (k : Nat)) := by rw [World.cell?_of_block (w := w) (heap_alloc_old _ _ l2)]; exact h2
  obtain ⟨q, hq⟩ : ∃ q, q = waitsF k f := ⟨_, rfl⟩
  rw [← hq]
  have HB : Hid (∀ n, Below w.heap.size w ((w.alloc (.cells #[.int .i64 f.kind, .int .i64 f.n, .int .i64 f.frm, .string f.text] 56)).drewN n)) := Lib.hid fun n => (bx _).trans ((drewN_below _ n).mono (by simp))
  by_cases ha : f.frm = (k : Int)
  · have hd : (f.frm == (k : Int)) = true := by simp [ha]
    by_cases hb : f.kind = 4
    · have hd2 : (f.kind != 4) = false := by simp [hb]
      have HQ : Hid (q = false) := Lib.hid (by rw [hq, waitsF]; simp [hb])
      clear hq h1 h2 ha hb
      go_enter Tryz.func109, Tryz.ntmps109
      go_wp2_with fail
      go_quiet (fail)
      go_wp2_with fail
      first | go_end0 | go_ret
      exact ⟨by rw [HQ.out]; rfl, HB.out _⟩
    · have hd2 : (f.kind != 4) = true := by simp [hb]
      have HQ : Hid (q = true) := Lib.hid (by rw [hq, waitsF]; simp [ha, hb])
      clear hq h1 h2 ha hb
      go_enter Tryz.func109, Tryz.ntmps109
      go_wp2_with fail
      go_quiet (fail)
      go_wp2_with fail
      first | go_end0 | go_ret
      exact ⟨by rw [HQ.out]; rfl, HB.out _⟩
  · have hd : (f.frm == (k : Int)) = false := by simp [ha]
    have HQ : Hid (q = false) := Lib.hid (by rw [hq, waitsF]; simp [ha])
    clear hq h1 h2 ha
    go_enter Tryz.func109, Tryz.ntmps109
    go_wp2_with fail
    go_quiet (fail)
    go_wp2_with fail
    first | go_end0 | go_ret
    exact ⟨by rw [HQ.out]; rfl, HB.out _⟩

theorem any_take (fs : List Fld) (q : Fld → Bool) {k : Nat} (hk : k < fs.length) : (fs.take (k + 1)).any q = ((fs.take k).any q || q (fs.getD k zf)) := by
  rw [List.take_succ_eq_append_getElem hk, List.any_append]
  simp [List.getD, List.getElem?_eq_getElem hk]
theorem any_mono (fs : List Fld) (q : Fld → Bool) {k : Nat} (h : (fs.take k).any q = true) : fs.any q = true := by
  rw [List.any_eq_true] at h ⊢
  obtain ⟨x, h1, h2⟩ := h
  exact ⟨x, List.mem_of_mem_take h1, h2⟩
set_option maxRecDepth 20000 in
set_option maxHeartbeats 600000 in
theorem index_any (u : Value) (fs : List Fld) (gb db k : Nat) (w : World) (hu : FldsAt w u fs) (h1 : w.cell? ⟨gb, 0, none⟩ = some (ptr db)) (h2 : w.cell? ⟨db, 1, none⟩ = some (.int .i64 (k : Nat))) (l1 : gb < w.heap.size) (l2 : db < w.heap.size) :
    Calls Tryz.prog 117 #[u, .func (.func 109) #[] #[ptr gb]] w fun e w' => (∃ i : Int, e = .returned (.int .i64 i) ∧ (i ≥ 0 ↔ fs.any (waitsF k) = true)) ∧ Below w.heap.size w w' := by
  obtain ⟨a, c, rfl, hlen⟩ := hu.slice_
  obtain ⟨m, hm⟩ : ∃ m, m = fs.length := ⟨_, rfl⟩
  have hmb : m ≤ 9223372036854775807 := by unfold maxLen at hlen; omega
  have HI := Lib.hid (And.intro hu (And.intro h1 (And.intro h2 (And.intro l1 (And.intro l2 hm)))))
  rw [← hm]
  clear hu h1 h2 hlen hm
  go_enter Tryz.func117, Tryz.ntmps117
  go_wp2_with fail
  go_loopw [8] (fun i wr => ∃ (j : Nat), j ≤ m ∧ i = .int .i64 j ∧ Hid (Below w.heap.size w wr ∧ (fs.take j).any (waitsF k) = false)) (fun i _ => m - (intOf i).toNat)
  case atStart => exact ⟨0, Nat.zero_le _, rfl, Lib.hid ⟨Below.refl _ _, rfl⟩⟩
  case round =>
    obtain ⟨j, hj, rfl, HJ⟩ := hrel
    by_cases hlt : j < m
    · have hq := HI.out.1.below HJ.out.1
      have e := HI.out.2.2.2.2.2
      rw [← e] at hq
      obtain ⟨ub, uo, rfl, -, lub, -, -, hfl⟩ := hq.at_ (by omega)
      obtain ⟨f, hf⟩ : ∃ f, f = fs.getD j zf := ⟨_, rfl⟩
      have hfa := hfl j (by omega)
      rw [← hf] at hfa
      have g0 := hfa.c0
      have g1 := hfa.c1
      have g2 := hfa.c2
      have g3 := hfa.c3
      have hki : (0 : Int) ≤ (j : Int) ∧ (j : Int) < (m : Int) := by omega
      have hcall := waits1_any f gb db k wr (by rw [World.cell?_of_block (w := w) (HJ.out.1.block _ l1)]; exact HI.out.2.1) (by rw [World.cell?_of_block (w := w) (HJ.out.1.block _ l2)]; exact HI.out.2.2.1) (Nat.lt_of_lt_of_le l1 HJ.out.1.size) (Nat.lt_of_lt_of_le l2 HJ.out.1.size)
      obtain ⟨Q, hQ⟩ : ∃ Q, Q = waitsF k f := ⟨_, rfl⟩
      rw [← hQ] at hcall
      have hany := any_take fs (waitsF k) (k := j) (by omega)
      rw [HJ.out.2, Bool.false_or, ← hf, ← hQ] at hany
      have HC := Lib.hid (And.intro hcall hany)
      clear hq e hfl hfa hcall hf hQ hany
      go_wp2_with fail
      refine (HC.out.1).mono ?_
      rintro e w7 ⟨rfl, hb7⟩
      have HE := Lib.hid (HJ.out.1.trans (hb7.mono HJ.out.1.size))
      clear hb7 g0 g1 g2 g3
      cases Q with
      | true =>
        have HY := Lib.hid (any_mono fs (waitsF k) HC.out.2)
        go_wp2_with fail
        first | go_end0 | go_ret
        exact ⟨⟨_, rfl, ⟨fun _ => HY.out, fun _ => by omega⟩⟩, HE.out⟩
      | false =>
        go_wp2_with fail
        exact ⟨⟨j + 1, by omega, by go_num, Lib.hid ⟨HE.out, HC.out.2⟩⟩, by simp [intOf]; omega⟩
    · obtain rfl : j = m := by omega
      have HY : Hid (fs.any (waitsF k) = false) := Lib.hid (by
        have h1 := HJ.out.2
        rwa [HI.out.2.2.2.2.2, List.take_length] at h1)
      go_wp2_with fail
      first | go_end0 | go_ret
      exact ⟨⟨_, rfl, ⟨fun h => by omega, fun h => by rw [HY.out] at h; cases h⟩⟩, HJ.out.1⟩
set_option maxRecDepth 20000 in
set_option maxHeartbeats 600000 in
theorem contains_any (u : Value) (fs : List Fld) (gb db k : Nat) (w : World) (hu : FldsAt w u fs) (h1 : w.cell? ⟨gb, 0, none⟩ = some (ptr db)) (h2 : w.cell? ⟨db, 1, none⟩ = some (.int .i64 (k : Nat))) (l1 : gb < w.heap.size) (l2 : db < w.heap.size) :
    Calls Tryz.prog 108 #[u, .func (.func 109) #[] #[ptr gb]] w fun e w' => e = .returned (.bool (waits fs k)) ∧ Below w.heap.size w w' := by
  have HC := Lib.hid (index_any u fs gb db k w hu h1 h2 l1 l2)
  rw [waits_any']
  clear hu h1 h2
  go_enter Tryz.func108, Tryz.ntmps108
  go_wp2_with fail
  refine (HC.out).mono ?_
  rintro e w7 ⟨⟨i, rfl, hi⟩, hb7⟩
  have HE := Lib.hid (And.intro hi hb7)
  clear hi hb7
  cases hq : fs.any (waitsF k) with
  | true =>
    have hi : i ≥ 0 := HE.out.1.2 hq
    have HQ := Lib.hid hq
    clear hq
    go_wp2_with fail
    first | go_end0 | go_ret
    exact ⟨by rw [HQ.out]; rfl, HE.out.2⟩
  | false =>
    have hi : ¬ i ≥ 0 := fun h => by have := HE.out.1.1 h; rw [hq] at this; cases this
    have HQ := Lib.hid hq
    clear hq
    go_wp2_with fail
    first | go_end0 | go_ret
    exact ⟨by rw [HQ.out]; show Ending.returned (.bool (decide (0 ≤ i))) = _; rw [decide_eq_false (by omega)], HE.out.2⟩
set_option maxRecDepth 20000 in
set_option maxHeartbeats 600000 in
theorem waits_of (u : Value) (fs : List Fld) (db k : Nat) (w : World) (hu : FldsAt w u fs) (h0 : w.cell? ⟨db, 0, none⟩ = some u) (h2 : w.cell? ⟨db, 1, none⟩ = some (.int .i64 (k : Nat))) (l2 : db < w.heap.size) :
    Calls Tryz.prog 99 #[ptr db] w fun e w' => e = .returned (.bool (waits fs k)) ∧ Below w.heap.size w w' := by
  have hb := bx (w := w) (.cells #[ptr db] 147)
  have hlt : w.heap.size < (w.alloc (.cells #[ptr db] 147)).heap.size := by simp
  have d0 : (w.alloc (.cells #[ptr db] 147)).cell? ⟨db, 0, none⟩ = some u := by rw [World.cell?_of_block (w := w) (hb.block _ l2)]; exact h0
  have d2 : (w.alloc (.cells #[ptr db] 147)).cell? ⟨db, 1, none⟩ = some (.int .i64 (k : Nat)) := by rw [World.cell?_of_block (w := w) (hb.block _ l2)]; exact h2
  have dg : (w.alloc (.cells #[ptr db] 147)).cell? ⟨w.heap.size, 0, none⟩ = some (ptr db) := by rw [(Blk.new w _ _).cell]; rfl
  have HC := Lib.hid (contains_any u fs w.heap.size db k _ (hu.below hb) dg d2 hlt (by simp; omega))
  have HB := Lib.hid hb
  obtain ⟨a, c, rfl, hlen⟩ := hu.slice_
  clear hu h0 h2 hb hlen
  go_enter Tryz.func99, Tryz.ntmps99
  go_wp2_with fail
  refine (HC.out).mono ?_
  rintro e w7 ⟨rfl, hb7⟩
  have HE := Lib.hid (HB.out.trans (hb7.mono HB.out.size))
  clear hb7
  go_wp2_with fail
  first | go_end0 | go_ret
  exact ⟨rfl, HE.out⟩
end WrG
section WrH
open Go.RowKit Fx Rec

structure DrAt (w : World) (o : Wo) (top db : Nat) (fs : List Fld) (u : Value) (j st0 : Nat) (d : Dr) (cs : List Value) : Prop where
  blk : Blk w db 152 ([u, .int .i64 (j : Nat), .int .i64 (st0 : Nat)] ++ cs).toArray
  len : cs.length = 32
  cnt : ∀ i, i < 16 → cs[i]? = some (.int .i64 (d.counts.getD i 0))
  lens : ∀ i, i < d.lens.length → waits fs i = true → (fs.getD i zf).kind = 2 → ∃ v, cs[16 + i]? = some v ∧ LeaveAt w o v (d.lens.getD i (0, 0))
  cl : d.counts.length = d.lens.length
  flds : FldsAt w u fs
  ub : ∀ b, u.ownBlock = some b → Safe w o b ∧ b < top
  safe : Safe w o db
  top_ : top ≤ db
/-- The field that is being written. -/
abbrev At1 (db : Nat) : Nat → Prop := fun k => k = db
section
variable {w w1 : World} {o : Wo} {top db : Nat} {fs : List Fld} {u : Value} {j st0 : Nat} {d : Dr} {cs : List Value} {L : List Fm} {σ : Ws} {k : Nat}
theorem DrAt.cell (h : DrAt w o top db fs u j st0 d cs) (i : Nat) : w.cell? ⟨db, 3 + i, none⟩ = cs[i]? := by
  rw [h.blk.cell]
  simp [Nat.add_comm 3 i]
theorem DrAt.c0 (h : DrAt w o top db fs u j st0 d cs) : w.cell? ⟨db, 0, none⟩ = some u := by rw [h.blk.cell]; rfl
theorem DrAt.c1 (h : DrAt w o top db fs u j st0 d cs) : w.cell? ⟨db, 1, none⟩ = some (.int .i64 (j : Nat)) := by rw [h.blk.cell]; rfl
/-- What is not its own is as it was. -/
theorem DrAt.step (h : DrAt w o top db fs u j st0 d cs) (hs : StepW o NoX w w1) : DrAt w1 o top db fs u j st0 d cs :=
  { h with
    blk := (hs.same h.safe).trans h.blk
    lens := fun i h1 h2 h3 => by
      obtain ⟨v, e1, e2⟩ := h.lens i h1 h2 h3
      exact ⟨v, e1, e2.step hs⟩
    flds := h.flds.keep hs.base.size fun b hb => hs.same (h.ub b hb).1
    ub := fun b hb => ⟨hs.safe _ (h.ub b hb).1, (h.ub b hb).2⟩
    safe := hs.safe _ h.safe }
/-- The writer does not know of the draft. -/
theorem WrAt.draft_ (h : WrAt w o top L σ k) (hd : Safe w o db) (ht : top ≤ db) {cs0 : Array Value} (hb : Blk w db 152 cs0) (i : Nat) (v : Value) (hi : i ≠ 2) :
    StepW o (At1 db) w (w.setCell ⟨db, i, none⟩ v) ∧ WrAt (w.setCell ⟨db, i, none⟩ v) o top L σ k ∧ ∀ q, Safe w o q → Safe (w.setCell ⟨db, i, none⟩ v) o q := by
  obtain ⟨hf, vv, vst, vch, vs, chs, hm⟩ := h
  have E : ∀ q, q ≠ db → (w.setCell ⟨db, i, none⟩ v).heap[q]? = w.heap[q]? := fun q hq => Below.heap_setCell _ _ _ _ hq
  have O : ∀ q, OwnW w o q → q ≠ db := fun q hq e => hd.no (e ▸ hq)
  have ow : ∀ q, (q = o.wb ∨ q = o.sb ∨ vst.ownBlock = some q ∨ vch.ownBlock = some q ∨ vs.ownBlock = some q) → (w.setCell ⟨db, i, none⟩ v).heap[q]? = w.heap[q]? := fun q hq => E q (O q ((hm.own_ q).2 hq))
  have hblk : Blk (w.setCell ⟨db, i, none⟩ v) o.wb 122 _ := (ow _ (.inl rfl)).trans hm.blk
  have sums : SumsAt (w.setCell ⟨db, i, none⟩ v) o.sb o.ab (atW o.xb) (sumTo (bytesOf σ.st)) k vs := hm.sums.keep (ow _ (.inr (.inl rfl))) (E _ (Blk.ne_ hm.sums.ab hb (by decide))) fun g hg => ow g (.inr (.inr (.inr (.inr hg))))
  have hs : StepW o (At1 db) w (w.setCell ⟨db, i, none⟩ v) := by
    have hown : ∀ q, OwnW (w.setCell ⟨db, i, none⟩ v) o q → OwnW w o q := fun q h => (hm.own_ q).2 ((own_iff hblk sums.sb q).1 h)
    refine ⟨(Kept.refl _ _).setCell (fun h => h.2 rfl) _, fun q hq => ⟨by simpa [World.setCell] using hq.lt, fun h => hq.no (hown q h)⟩, ?_⟩
    rintro q hq rfl
    refine ⟨cs0, _, hb, hb.set_ i v, ?_⟩
    rw [Array.getElem?_setIfInBounds_ne (fun e => hi e)]
  have hX : ∀ q, At1 db q → top ≤ q := fun q hq => hq ▸ ht
  refine ⟨hs, ⟨hf.step hs hX, vv, vst, vch, vs, chs, { hm with blk := hblk, vals := hm.vals.step fun b h1 h2 => hs.old hX (hm.sv b h1 h2), sv := fun b h1 h2 => ⟨hs.safe _ (hm.sv b h1 h2).1, (hm.sv b h1 h2).2⟩, st := ?_, sums := sums, ch := ?_, chks := fun i hi => (hm.chks i hi).step hs }⟩, hs.safe⟩
  · exact own_keep hm.st fun g cur hg _ => ow g (.inr (.inr (.inl hg)))
  · exact own_keep hm.ch fun g cur hg _ => ow g (.inr (.inr (.inr (.inl hg))))
theorem DrAt.at_ (h : DrAt w o top db fs u j st0 d cs) {i : Nat} (hi : i < 32) : (∃ v, w.cell? ⟨db, 3 + i, none⟩ = some v) ∧ w.frozen? ⟨db, 3 + i, none⟩ = false :=
  ⟨⟨_, (h.cell i).trans (List.getElem?_eq_getElem (by rw [h.len]; exact hi))⟩, h.blk.frozen _⟩
/-- A cell behind the first three is written. -/
theorem DrAt.put (h : DrAt w o top db fs u j st0 d cs) (hw : WrAt w o top L σ k) {i : Nat} (hi : i < 32) (v : Value) {d' : Dr}
    (hc : ∀ q, q < 16 → (cs.set i v)[q]? = some (.int .i64 (d'.counts.getD q 0))) (hl : ∀ q, q < d'.lens.length → waits fs q = true → (fs.getD q zf).kind = 2 → ∃ x, (cs.set i v)[16 + q]? = some x ∧ LeaveAt w o x (d'.lens.getD q (0, 0))) (hcl : d'.counts.length = d'.lens.length) :
    StepW o (At1 db) w (w.setCell ⟨db, 3 + i, none⟩ v) ∧ WrAt (w.setCell ⟨db, 3 + i, none⟩ v) o top L σ k ∧ DrAt (w.setCell ⟨db, 3 + i, none⟩ v) o top db fs u j st0 d' (cs.set i v) := by
  obtain ⟨h1, h2, h3⟩ := hw.draft_ h.safe h.top_ h.blk (3 + i) v (by omega)
  have hX : ∀ q, At1 db q → top ≤ q := fun q hq => hq ▸ h.top_
  refine ⟨h1, h2, { blk := ?_, len := by rw [List.length_set]; exact h.len, cnt := hc, lens := ?_, cl := hcl, flds := h.flds.keep h1.base.size fun b hb => h1.old hX (h.ub b hb), ub := fun b hb => ⟨h3 _ (h.ub b hb).1, (h.ub b hb).2⟩, safe := h3 _ h.safe, top_ := h.top_ }⟩
  · have := h.blk.set_ (3 + i) v
    have e : (([u, .int .i64 (j : Nat), .int .i64 (st0 : Nat)] ++ cs).toArray).setIfInBounds (3 + i) v = ([u, .int .i64 (j : Nat), .int .i64 (st0 : Nat)] ++ cs.set i v).toArray := by
      rw [List.setIfInBounds_toArray, List.set_append_right _ _ (by simp)]
      simp
    rw [e] at this
    exact this
  · intro q q1 q2 q3
    obtain ⟨x, e1, e2⟩ := hl q q1 q2 q3
    exact ⟨x, e1, e2.step h1⟩
theorem getD_snoc0 (l : List Int) (q : Nat) : (l ++ [(0 : Int)]).getD q 0 = l.getD q 0 := by
  rcases Nat.lt_trichotomy q l.length with h | h | h
  · simp [List.getD, List.getElem?_append_left h]
  · subst h; simp [List.getD]
  · simp [List.getD, List.getElem?_eq_none (show l.length ≤ q by omega), List.getElem?_eq_none (show (l ++ [(0 : Int)]).length ≤ q by simp; omega)]
/-- The room for a number has been kept. -/
theorem DrAt.left_ (h : DrAt w o top db fs u j st0 d cs) (hw : WrAt w o top L σ k) (hj : d.counts.length = j) (h16 : j < 16) {v : Value} {l : Nat × Nat} (hl : LeaveAt w o v l) :
    StepW o (At1 db) w (w.setCell ⟨db, 3 + (16 + j), none⟩ v) ∧ WrAt (w.setCell ⟨db, 3 + (16 + j), none⟩ v) o top L σ k ∧ DrAt (w.setCell ⟨db, 3 + (16 + j), none⟩ v) o top db fs u j st0 ⟨d.counts ++ [0], d.lens ++ [l]⟩ (cs.set (16 + j) v) := by
  have hlj : d.lens.length = j := h.cl.symm.trans hj
  refine h.put hw (by omega) v ?_ ?_ (by simp [h.cl])
  · intro q hq
    rw [List.getElem?_set_ne (by omega), h.cnt q hq, getD_snoc0]
  · intro q q1 q2 q3
    by_cases e : q = j
    · subst e
      exact ⟨v, by rw [List.getElem?_set_self (by rw [h.len]; omega)], by simp only [List.getD, ← hlj, List.getElem?_concat_length, Option.getD_some]; exact hl⟩
    · have q4 : q < d.lens.length := by simp at q1; omega
      obtain ⟨x, e1, e2⟩ := h.lens q q4 q2 q3
      exact ⟨x, by rw [List.getElem?_set_ne (by omega)]; exact e1, by simp only [List.getD, List.getElem?_append_left q4]; exact e2⟩
/-- A number has been given. -/
theorem DrAt.given_ (h : DrAt w o top db fs u j st0 d cs) (hw : WrAt w o top L σ k) (hj : d.counts.length = j) (h16 : j < 16) (n : Int) (hn : waits fs j = false) :
    StepW o (At1 db) w (w.setCell ⟨db, 3 + j, none⟩ (.int .i64 n)) ∧ WrAt (w.setCell ⟨db, 3 + j, none⟩ (.int .i64 n)) o top L σ k ∧ DrAt (w.setCell ⟨db, 3 + j, none⟩ (.int .i64 n)) o top db fs u j st0 ⟨d.counts ++ [n], d.lens ++ [(0, 0)]⟩ (cs.set j (.int .i64 n)) := by
  have hlj : d.lens.length = j := h.cl.symm.trans hj
  refine h.put hw (by omega) _ ?_ ?_ (by simp [h.cl])
  · intro q hq
    by_cases e : q = j
    · subst e
      rw [List.getElem?_set_self (by rw [h.len]; omega)]
      simp only [List.getD, ← hj, List.getElem?_concat_length, Option.getD_some]
    · rw [List.getElem?_set_ne (by omega), h.cnt q hq]
      rcases Nat.lt_trichotomy q d.counts.length with h1 | h1 | h1
      · simp [List.getD, List.getElem?_append_left h1]
      · omega
      · simp [List.getD, List.getElem?_eq_none (show d.counts.length ≤ q by omega), List.getElem?_eq_none (show (d.counts ++ [n]).length ≤ q by simp; omega)]
  · intro q q1 q2 q3
    by_cases e : q = j
    · subst e; rw [hn] at q2; cases q2
    · have q4 : q < d.lens.length := by simp at q1; omega
      obtain ⟨x, e1, e2⟩ := h.lens q q4 q2 q3
      exact ⟨x, by rw [List.getElem?_set_ne (by omega)]; exact e1, by simp only [List.getD, List.getElem?_append_left q4]; exact e2⟩
/-- A field that is no number. -/
theorem DrAt.skip_ (h : DrAt w o top db fs u j st0 d cs) (hj : d.counts.length = j) (hk : (fs.getD j zf).kind ≠ 2) : DrAt w o top db fs u j st0 ⟨d.counts ++ [0], d.lens ++ [(0, 0)]⟩ cs := by
  have hlj : d.lens.length = j := h.cl.symm.trans hj
  refine { h with cnt := fun q hq => by rw [h.cnt q hq, getD_snoc0], cl := by simp [h.cl], lens := ?_ }
  intro q q1 q2 q3
  by_cases e : q = j
  · subst e; exact absurd q3 hk
  · have q4 : q < d.lens.length := by simp at q1; omega
    obtain ⟨x, e1, e2⟩ := h.lens q q4 q2 q3
    exact ⟨x, e1, by simp only [List.getD, List.getElem?_append_left q4]; exact e2⟩
end
end WrH
section WrI
open Go.RowKit Fx Rec

def KW (w : World) (o : Wo) (top : Nat) (L : List Fm) (k db : Nat) (fs : List Fld) (u : Value) (j st0 : Nat) (d : Dr) (r : Option Rec.Left) (e : Ending) (w' : World) : Prop :=
  StepW o (At1 db) w w' ∧ match r with
  | some p => e = .returned (.tuple #[]) ∧ WrAt w' o top L p.2.2 k ∧ ∃ cs, DrAt w' o top db fs u j st0 ⟨d.counts ++ [p.1], d.lens ++ [p.2.1]⟩ cs
  | none => e = Stops zRf
section
variable {w w' : World} {o : Wo} {top db : Nat} {fs : List Fld} {u : Value} {j st0 : Nat} {d : Dr} {cs : List Value} {L : List Fm} {σ : Ws} {k : Nat} {f : Fld} {r : Option Rec.Left}
theorem KW.stop (hr : r = none) (hs : StepW o (At1 db) w w') : KW w o top L k db fs u j st0 d r (Stops zRf) w' := by
  subst hr
  exact ⟨hs, rfl⟩
theorem KW.yes {p : Rec.Left} (hr : r = some p) (hs : StepW o (At1 db) w w') (h : WrAt w' o top L p.2.2 k) (hd : DrAt w' o top db fs u j st0 ⟨d.counts ++ [p.1], d.lens ++ [p.2.1]⟩ cs) : KW w o top L k db fs u j st0 d r (.returned (.tuple #[])) w' := by
  subst hr
  exact ⟨hs, rfl, h, cs, hd⟩
theorem DrAt.wide (hd : DrAt w o top db fs u j st0 d cs) (hs : StepW o NoX w w') : StepW o (At1 db) w w' := hs.widen fun k hk => by
  obtain rfl : k = db := hk
  exact ⟨_, hd.blk⟩
theorem kw_literal (h : WrAt w o top L σ k) (hd : DrAt w o top db fs u j st0 d cs) (hj : d.counts.length = j) (hf : f = fs.getD j zf) (hk : f.kind = 1) (ht : f.text.size ≤ 16) :
    Calls Tryz.prog 77 #[ptr o.wb, ptr db, fldV f] w fun e w' => KW w o top L k db fs u j st0 d (wtext f σ) e w' := by
  refine (wr_literal h (ptr db) f ht).mono ?_
  rintro e w5 ⟨hs, h5⟩
  have hd5 := (hd.step hs).skip_ hj (by rw [← hf, hk]; decide)
  unfold wtext
  rcases hr : addW σ f.text.data.toList with _ | σ1
  all_goals rw [hr] at h5
  · exact ⟨hd.wide hs, h5⟩
  · exact ⟨hd.wide hs, h5.1, h5.2, _, hd5⟩
set_option maxRecDepth 20000 in
set_option maxHeartbeats 600000 in
theorem kw_number (h : WrAt w o top L σ k) (hd : DrAt w o top db fs u j st0 d cs) (hj : d.counts.length = j) (h16 : j < 16) (f1 : 1 ≤ f.n) (f3 : f.n ≤ 3) :
    Calls Tryz.prog 78 #[ptr o.wb, ptr db, fldV f] w fun e w' => KW w o top L k db fs u j st0 d (if waits fs j then wwait f σ else wgiven f σ) e w' := by
  obtain ⟨RR, hRR⟩ : ∃ RR, RR = (if waits fs j then wwait f σ else wgiven f σ) := ⟨_, rfl⟩
  rw [← hRR]
  have HRR := Lib.hid hRR
  obtain ⟨WT, hWT⟩ : ∃ WT, WT = waits fs j := ⟨_, rfl⟩
  have hb := bx (w := w) (.cells (fldC f).toArray 56)
  obtain ⟨hs1, hn1, h1⟩ := h.below hb
  have hd1 := hd.step hs1
  have hcall := waits_of u fs db j _ hd1.flds hd1.c0 hd1.c1 hd1.safe.lt
  rw [← hWT] at hcall
  have HC := Lib.hid hcall
  have HBX := Lib.hid (box_cells w f)
  have HS := Lib.hid (And.intro hs1 (And.intro h1 (And.intro hd1 (And.intro hj hWT))))
  have HD := Lib.hid hd
  have hsf := hn1 w.heap.size (Nat.le_refl _) (by simp)
  have HSF := Lib.hid hsf
  have hj16 : (j : Int) < 16 := by omega
  have hlt : w.heap.size < (w.alloc (.cells (fldC f).toArray 56)).heap.size := by simp
  have HLT := Lib.hid hlt
  clear h hd hRR hWT hb hs1 hn1 h1 hd1 hcall hlt hj hsf
  go_enter Tryz.func78, Tryz.ntmps78
  go_wp2_with fail
  refine (HC.out).mono ?_
  rintro e w2 ⟨rfl, hb2⟩
  obtain ⟨hs2, -, h2⟩ := HS.out.2.1.below hb2
  have hd2 := HS.out.2.2.1.step hs2
  obtain ⟨y0, y1, y2, y3⟩ := HBX.out
  have z1 : w2.cell? ⟨w.heap.size, 1, none⟩ = some (.int .i64 f.n) := by rw [World.cell?_of_block (w := w.alloc (.cells (fldC f).toArray 56)) (hb2.block _ HLT.out)]; exact y1
  have dc1 := hd2.c1
  have lb2 : w.heap.size < w2.heap.size := Nat.lt_of_lt_of_le HLT.out hb2.size
  have HS2 := Lib.hid (hs2.safe _ HSF.out)
  have H2 := Lib.hid (And.intro (HS.out.1.trans hs2) (And.intro h2 hd2))
  clear hs2 h2 hd2 y0 y1 y2 y3 hb2
  cases WT with
  | true =>
    have hw4 := HS.out.2.2.2.2
    have HRW : Hid (RR = wwait f σ) := Lib.hid (by rw [HRR.out, if_pos hw4.symm])
    clear hw4
    go_wp2_with fail
    refine wp_region_held_drew (S := (fun W : World => W.cell? ⟨db, 1, none⟩ = some (.int .i64 (j : Nat)) ∧ W.cell? ⟨w.heap.size, 1, none⟩ = some (.int .i64 f.n))) (by kernel_rfl) ⟨dc1, z1⟩ (fun hHeld => ?_)
    refine wpAnyH_take (i := 0) (oi := ?o1) (v := ?v1) ?h1 ?a1 ?b1 ?c1 ?q1 (Or.inl ⟨?g1, ?y1⟩) ?s1 ?r1
    case h1 => (simp only [List.getElem?_toArray, List.getElem?_cons_zero]; rfl)
    case a1 => kernel_rfl
    case b1 => kernel_rfl
    case c1 => kernel_rfl
    case q1 => exact fun _ _ _ h => h
    case g1 => rfl
    case y1 => (intro wS hSw; obtain ⟨s0, s1⟩ := hSw; go_simp; (try with_reducible rfl))
    case s1 => assumption
    (try simp only [Act.put, List.setIfInBounds_toArray, List.set_cons_zero, List.set_cons_succ])
    refine wpAnyH_take (i := 1) (oi := ?o2) (v := ?v2) ?h2 ?a2 ?b2 ?c2 ?q2 (Or.inl ⟨?g2, ?y2⟩) ?s2 ?r2
    case h2 => (simp only [List.getElem?_toArray, List.getElem?_cons_zero, List.getElem?_cons_succ]; rfl)
    case a2 => kernel_rfl
    case b2 => kernel_rfl
    case c2 => kernel_rfl
    case q2 => exact fun _ _ _ h => h
    case g2 => rfl
    case y2 => (intro wS hSw; obtain ⟨s0, s1⟩ := hSw; go_simp; (try with_reducible rfl))
    case s2 => assumption
    (try simp only [Act.put, List.setIfInBounds_toArray, List.set_cons_zero, List.set_cons_succ])
    refine wpAnyH_take (i := 2) (oi := ?o3) (v := ?v3) ?h3 ?a3 ?b3 ?c3 ?q3 (Or.inl ⟨?g3, ?y3⟩) ?s3 ?r3
    case h3 => (simp only [List.getElem?_toArray, List.getElem?_cons_zero, List.getElem?_cons_succ]; rfl)
    case a3 => kernel_rfl
    case b3 => kernel_rfl
    case c3 => kernel_rfl
    case q3 => exact fun _ _ _ h => h
    case g3 => rfl
    case y3 => (intro wS hSw; obtain ⟨s0, s1⟩ := hSw; go_simp; (try with_reducible rfl))
    case s3 => assumption
    (try simp only [Act.put, List.setIfInBounds_toArray, List.set_cons_zero, List.set_cons_succ])
    refine wpAnyH_take (i := 3) (oi := ?o4) (v := ?v4) ?h4 ?a4 ?b4 ?c4 ?q4 (Or.inl ⟨?g4, ?y4⟩) ?s4 ?r4
    case h4 => (simp only [List.getElem?_toArray, List.getElem?_cons_zero, List.getElem?_cons_succ]; rfl)
    case a4 => kernel_rfl
    case b4 => kernel_rfl
    case c4 => kernel_rfl
    case q4 => exact fun _ _ _ h => h
    case g4 => rfl
    case y4 => (intro wS hSw; obtain ⟨s0, s1⟩ := hSw; go_simp; (try with_reducible rfl))
    case s4 => assumption
    (try simp only [Act.put, List.setIfInBounds_toArray, List.set_cons_zero, List.set_cons_succ])
    refine wpAnyH_take (i := 4) (oi := ?o5) (v := ?v5) ?h5 ?a5 ?b5 ?c5 ?q5 (Or.inl ⟨?g5, ?y5⟩) ?s5 ?r5
    case h5 => (simp only [List.getElem?_toArray, List.getElem?_cons_zero, List.getElem?_cons_succ]; rfl)
    case a5 => kernel_rfl
    case b5 => kernel_rfl
    case c5 => kernel_rfl
    case q5 => exact fun _ _ _ h => h
    case g5 => rfl
    case y5 => (intro wS hSw; obtain ⟨s0, s1⟩ := hSw; go_simp; (try with_reducible rfl))
    case s5 => assumption
    (try simp only [Act.put, List.setIfInBounds_toArray, List.set_cons_zero, List.set_cons_succ])
    refine wpAnyH_take (i := 5) (oi := ?o6) (v := ?v6) ?h6 ?a6 ?b6 ?c6 ?q6 (Or.inl ⟨?g6, ?y6⟩) ?s6 ?r6
    case h6 => (simp only [List.getElem?_toArray, List.getElem?_cons_zero, List.getElem?_cons_succ]; rfl)
    case a6 => kernel_rfl
    case b6 => kernel_rfl
    case c6 => kernel_rfl
    case q6 => exact fun _ _ _ h => h
    case g6 => rfl
    case y6 => (intro wS hSw; obtain ⟨s0, s1⟩ := hSw; go_simp; (try with_reducible rfl))
    case s6 => assumption
    (try simp only [Act.put, List.setIfInBounds_toArray, List.set_cons_zero, List.set_cons_succ])
    refine wpAnyH_take (i := 6) (oi := ?o7) (v := ?v7) ?h7 ?a7 ?b7 ?c7 ?q7 (Or.inl ⟨?g7, ?y7⟩) ?s7 ?r7
    case h7 => (simp only [List.getElem?_toArray, List.getElem?_cons_zero, List.getElem?_cons_succ]; rfl)
    case a7 => kernel_rfl
    case b7 => kernel_rfl
    case c7 => kernel_rfl
    case q7 => exact fun _ _ _ h => h
    case g7 => rfl
    case y7 => (intro wS hSw; obtain ⟨s0, s1⟩ := hSw; go_simp; (try with_reducible rfl))
    case s7 => assumption
    (try simp only [Act.put, List.setIfInBounds_toArray, List.set_cons_zero, List.set_cons_succ])
    refine wpAnyH_take (i := 7) (oi := ?o8) (v := ?v8) ?h8 ?a8 ?b8 ?c8 ?q8 (Or.inl ⟨?g8, ?y8⟩) ?s8 ?r8
    case h8 => (simp only [List.getElem?_toArray, List.getElem?_cons_zero, List.getElem?_cons_succ]; rfl)
    case a8 => kernel_rfl
    case b8 => kernel_rfl
    case c8 => kernel_rfl
    case q8 => exact fun _ _ _ h => h
    case g8 => rfl
    case y8 => (intro wS hSw; obtain ⟨s0, s1⟩ := hSw; go_simp; (try with_reducible rfl))
    case s8 => assumption
    (try simp only [Act.put, List.setIfInBounds_toArray, List.set_cons_zero, List.set_cons_succ])
    refine wpAnyH_take (i := 9) (oi := ?o9) (v := ?v9) ?h9 ?a9 ?b9 ?c9 ?q9 (Or.inl ⟨?g9, ?y9⟩) ?s9 ?r9
    case h9 => (simp only [List.getElem?_toArray, List.getElem?_cons_zero, List.getElem?_cons_succ]; rfl)
    case a9 => kernel_rfl
    case b9 => kernel_rfl
    case c9 => kernel_rfl
    case q9 => exact fun _ _ _ h => h
    case g9 => rfl
    case y9 => (intro wS hSw; obtain ⟨s0, s1⟩ := hSw; go_simp; (try with_reducible rfl))
    case s9 => assumption
    (try simp only [Act.put, List.setIfInBounds_toArray, List.set_cons_zero, List.set_cons_succ])
    refine wpAnyH_take (i := 10) (oi := ?o10) (v := ?v10) ?h10 ?a10 ?b10 ?c10 ?q10 (Or.inl ⟨?g10, ?y10⟩) ?s10 ?r10
    case h10 => (simp only [List.getElem?_toArray, List.getElem?_cons_zero, List.getElem?_cons_succ]; rfl)
    case a10 => kernel_rfl
    case b10 => kernel_rfl
    case c10 => kernel_rfl
    case q10 => exact fun _ _ _ h => h
    case g10 => rfl
    case y10 => (intro wS hSw; obtain ⟨s0, s1⟩ := hSw; go_simp; (try with_reducible rfl))
    case s10 => assumption
    (try simp only [Act.put, List.setIfInBounds_toArray, List.set_cons_zero, List.set_cons_succ])
    refine wpAnyH_ready (rs := [8]) (by kernel_rfl) (by simp) ?_
    refine AllReadyH.cons (o := ?oB11) ?hB11 ?kB11 AllReadyH.nil
    case hB11 => (simp only [List.getElem?_toArray, List.getElem?_cons_zero, List.getElem?_cons_succ]; rfl)
    case kB11 =>
      intro K hK
      go_simp
      obtain ⟨t1, -, t3⟩ := H2.out.2.1.below (drewN_below w2 1)
      refine (leave_any t3 f.n f.n.toNat (by omega) (by omega)).mono ?_
      rcases hr : addW σ (List.replicate f.n.toNat 0) with _ | σ1
      · rintro e w6 ⟨hs, rfl⟩
        exact ⟨rfl, KW.stop (by rw [HRW.out, wwait, hr]; rfl) (HD.out.wide (H2.out.1.trans (t1.trans hs)))⟩
      · rintro e w6 ⟨hs, hw6, v, rfl, hl6⟩
        have HL6 := Lib.hid hl6
        obtain ⟨xa, ya, za, rfl, -⟩ := hl6
        have hd6 := H2.out.2.2.step (t1.trans hs)
        have hP := hd6.left_ hw6 HS.out.2.2.2.1 h16 HL6.out
        have hA := hd6.at_ (i := 16 + j) (by omega)
        rw [show 3 + (16 + j) = 19 + j by omega] at hP hA
        obtain ⟨⟨cv, d1⟩, dfr⟩ := hA
        have hne : w.heap.size ≠ db := by have := HD.out.safe.lt; omega
        have z6 : w6.cell? ⟨w.heap.size, 1, none⟩ = some (.int .i64 f.n) := by rw [World.cell?_of_block (w := w2) ((t1.trans hs).same HS2.out)]; exact z1
        have HY : Hid (KW w o top L k db fs u j st0 d RR (.returned (.tuple #[])) (w6.setCell ⟨db, 19 + j, none⟩ (.func (.func 110) #[] #[ptr xa, ptr ya, ptr za]))) := Lib.hid (KW.yes (p := (0, (σ.st.length, f.n.toNat), σ1)) (by rw [HRW.out, wwait, hr]; rfl) ((HD.out.wide (H2.out.1.trans (t1.trans hs))).trans hP.1) hP.2.1 hP.2.2)
        have z7 : (w6.setCell ⟨db, 19 + j, none⟩ (.func (.func 110) #[] #[ptr xa, ptr ya, ptr za])).cell? ⟨w.heap.size, 1, none⟩ = some (.int .i64 f.n) := by rw [World.cell?_of_block (w := w6) (Below.heap_setCell _ _ _ _ hne)]; exact z6
        have HZ7 := Lib.hid (And.intro hP.2.2.c1 z7)
        refine hK.out _ _ ⟨hd6.c1, z6⟩ (fun _ => ?_)
        clear hK K hP hd6 z7 z6 hs hw6 hr t1 t3
        (try simp only [Act.put, List.setIfInBounds_toArray, List.set_cons_zero, List.set_cons_succ])
        refine wpAnyH_take (i := 11) (oi := ?o12) (v := ?v12) ?h12 ?a12 ?b12 ?c12 ?q12 (Or.inl ⟨?g12, ?y12⟩) ?s12 ?r12
        case h12 => (simp only [List.getElem?_toArray, List.getElem?_cons_zero, List.getElem?_cons_succ]; rfl)
        case a12 => kernel_rfl
        case b12 => kernel_rfl
        case c12 => kernel_rfl
        case q12 => exact fun _ _ _ h => h
        case g12 => rfl
        case y12 => (intro wS hSw; obtain ⟨s0, s1⟩ := hSw; go_simp; (try with_reducible rfl))
        case s12 => assumption
        (try simp only [Act.put, List.setIfInBounds_toArray, List.set_cons_zero, List.set_cons_succ])
        refine wpAnyH_ready (rs := [12]) (by kernel_rfl) (by simp) ?_
        refine AllReadyH.cons (o := ?oB13) ?hB13 ?kB13 AllReadyH.nil
        case hB13 => (simp only [List.getElem?_toArray, List.getElem?_cons_zero, List.getElem?_cons_succ]; rfl)
        case kB13 =>
          intro K hK
          go_simp
          refine hK.out _ _ HZ7.out (fun _ => ?_)
          clear hK K
          (try simp only [Act.put, List.setIfInBounds_toArray, List.set_cons_zero, List.set_cons_succ])
          refine wpAnyH_done (by kernel_rfl) ?_ _
          go_wp2_with fail
          first | go_end0 | go_ret
          exact HY.out
  | false =>
    have hw4 := HS.out.2.2.2.2
    have HRW : Hid (RR = wgiven f σ) := Lib.hid (by rw [HRR.out, if_neg (by rw [← hw4]; decide)])
    have HWF := Lib.hid hw4
    clear hw4 dc1
    go_wp2_with fail
    refine (wnext_any H2.out.2.1).mono ?_
    rcases hv : nextW σ with _ | ⟨x, σ1⟩
    · rintro e w3 ⟨hs, rfl⟩
      exact ⟨rfl, KW.stop (by rw [HRW.out, wgiven, hv]; rfl) (HD.out.wide (H2.out.1.trans hs))⟩
    · rintro e w3 ⟨hs, rfl, hw3⟩
      have hd3 := H2.out.2.2.step hs
      have z3 : w3.cell? ⟨w.heap.size, 1, none⟩ = some (.int .i64 f.n) := by rw [World.cell?_of_block (w := w2) (hs.same HS2.out)]; exact z1
      have H3 := Lib.hid (And.intro (H2.out.1.trans hs) (And.intro hw3 (And.intro hd3 hv)))
      clear hs hw3 hd3 hv z1
      by_cases hsz : (x.size : Int) = f.n
      · have hdq : ((x.size : Int) == f.n) = true := by simp [hsz]
        have hx3 : x.size ≤ 3 := by omega
        have HSZ := Lib.hid hsz
        clear hsz
        go_wp2_with fail
        refine (require_yes _).mono ?_
        rintro e w4 ⟨rfl, rfl⟩
        clear hdq z3
        go_wp2_with fail
        refine (wadd_any H3.out.2.1 x (by omega)).mono ?_
        rcases hr : addW σ1 x.data.toList with _ | σ2
        · rintro e w5 ⟨hs, rfl⟩
          exact ⟨rfl, KW.stop (by rw [HRW.out, wgiven, H3.out.2.2.2]; show (if _ then _ else _) = none; rw [if_pos HSZ.out, hr]; rfl) (HD.out.wide (H3.out.1.trans hs))⟩
        · rintro e w5 ⟨hs, rfl, hw5⟩
          obtain ⟨t1, -, t3⟩ := hw5.below (drewN_below w5 1)
          have hd5 := H3.out.2.2.1.step (hs.trans t1)
          have hP := hd5.given_ t3 HS.out.2.2.2.1 h16 (num x) HWF.out.symm
          obtain ⟨⟨cv, d1⟩, dfr⟩ := hd5.at_ (i := j) (by omega)
          have HY : Hid (KW w o top L k db fs u j st0 d RR (.returned (.tuple #[])) ((w5.drewN 1).setCell ⟨db, 3 + j, none⟩ (.int .i64 (num x)))) := Lib.hid (KW.yes (p := (num x, (0, 0), σ2)) (by rw [HRW.out, wgiven, H3.out.2.2.2]; show (if _ then _ else _) = _; rw [if_pos HSZ.out, hr]; rfl) ((HD.out.wide (H3.out.1.trans (hs.trans t1))).trans hP.1) hP.2.1 hP.2.2)
          have HZ7 := Lib.hid hP.2.2.c1
          have dc1 := (H3.out.2.2.1.step hs).c1
          have HD5 := Lib.hid hd5
          clear hP hs hw5 hr t1 t3 hd5
          go_wp2_with fail
          refine wp_region_held_drew (S := (fun W : World => W.cell? ⟨db, 1, none⟩ = some (.int .i64 (j : Nat)))) (by kernel_rfl) HD5.out.c1 (fun hHeld => ?_)
          refine wpAnyH_take (i := 0) (oi := ?o14) (v := ?v14) ?h14 ?a14 ?b14 ?c14 ?q14 (Or.inl ⟨?g14, ?y14⟩) ?s14 ?r14
          case h14 => (simp only [List.getElem?_toArray, List.getElem?_cons_zero]; rfl)
          case a14 => kernel_rfl
          case b14 => kernel_rfl
          case c14 => kernel_rfl
          case q14 => exact fun _ _ _ h => h
          case g14 => rfl
          case y14 => (intro wS hSw; have s0 := hSw; go_simp; (try with_reducible rfl))
          case s14 => assumption
          (try simp only [Act.put, List.setIfInBounds_toArray, List.set_cons_zero, List.set_cons_succ])
          refine wpAnyH_take (i := 1) (oi := ?o15) (v := ?v15) ?h15 ?a15 ?b15 ?c15 ?q15 (Or.inl ⟨?g15, ?y15⟩) ?s15 ?r15
          case h15 => (simp only [List.getElem?_toArray, List.getElem?_cons_zero, List.getElem?_cons_succ]; rfl)
          case a15 => kernel_rfl
          case b15 => kernel_rfl
          case c15 => kernel_rfl
          case q15 => exact fun _ _ _ h => h
          case g15 => rfl
          case y15 => (intro wS hSw; have s0 := hSw; go_simp; (try with_reducible rfl))
          case s15 => assumption
          (try simp only [Act.put, List.setIfInBounds_toArray, List.set_cons_zero, List.set_cons_succ])
          refine wpAnyH_take (i := 2) (oi := ?o16) (v := ?v16) ?h16 ?a16 ?b16 ?c16 ?q16 (Or.inl ⟨?g16, ?y16⟩) ?s16 ?r16
          case h16 => (simp only [List.getElem?_toArray, List.getElem?_cons_zero, List.getElem?_cons_succ]; rfl)
          case a16 => kernel_rfl
          case b16 => kernel_rfl
          case c16 => kernel_rfl
          case q16 => exact fun _ _ _ h => h
          case g16 => rfl
          case y16 => (intro wS hSw; have s0 := hSw; go_simp; (try with_reducible rfl))
          case s16 => assumption
          (try simp only [Act.put, List.setIfInBounds_toArray, List.set_cons_zero, List.set_cons_succ])
          refine wpAnyH_take (i := 3) (oi := ?o17) (v := ?v17) ?h17 ?a17 ?b17 ?c17 ?q17 (Or.inl ⟨?g17, ?y17⟩) ?s17 ?r17
          case h17 => (simp only [List.getElem?_toArray, List.getElem?_cons_zero, List.getElem?_cons_succ]; rfl)
          case a17 => kernel_rfl
          case b17 => kernel_rfl
          case c17 => kernel_rfl
          case q17 => exact fun _ _ _ h => h
          case g17 => rfl
          case y17 => (intro wS hSw; have s0 := hSw; go_simp; (try with_reducible rfl))
          case s17 => assumption
          (try simp only [Act.put, List.setIfInBounds_toArray, List.set_cons_zero, List.set_cons_succ])
          refine wpAnyH_take (i := 4) (oi := ?o18) (v := ?v18) ?h18 ?a18 ?b18 ?c18 ?q18 (Or.inl ⟨?g18, ?y18⟩) ?s18 ?r18
          case h18 => (simp only [List.getElem?_toArray, List.getElem?_cons_zero, List.getElem?_cons_succ]; rfl)
          case a18 => kernel_rfl
          case b18 => kernel_rfl
          case c18 => kernel_rfl
          case q18 => exact fun _ _ _ h => h
          case g18 => rfl
          case y18 => (intro wS hSw; have s0 := hSw; go_simp; (try with_reducible rfl))
          case s18 => assumption
          (try simp only [Act.put, List.setIfInBounds_toArray, List.set_cons_zero, List.set_cons_succ])
          refine wpAnyH_take (i := 5) (oi := ?o19) (v := ?v19) ?h19 ?a19 ?b19 ?c19 ?q19 (Or.inl ⟨?g19, ?y19⟩) ?s19 ?r19
          case h19 => (simp only [List.getElem?_toArray, List.getElem?_cons_zero, List.getElem?_cons_succ]; rfl)
          case a19 => kernel_rfl
          case b19 => kernel_rfl
          case c19 => kernel_rfl
          case q19 => exact fun _ _ _ h => h
          case g19 => rfl
          case y19 => (intro wS hSw; have s0 := hSw; go_simp; (try with_reducible rfl))
          case s19 => assumption
          (try simp only [Act.put, List.setIfInBounds_toArray, List.set_cons_zero, List.set_cons_succ])
          refine wpAnyH_take (i := 7) (oi := ?o20) (v := ?v20) ?h20 ?a20 ?b20 ?c20 ?q20 (Or.inl ⟨?g20, ?y20⟩) ?s20 ?r20
          case h20 => (simp only [List.getElem?_toArray, List.getElem?_cons_zero, List.getElem?_cons_succ]; rfl)
          case a20 => kernel_rfl
          case b20 => kernel_rfl
          case c20 => kernel_rfl
          case q20 => exact fun _ _ _ h => h
          case g20 => rfl
          case y20 => (intro wS hSw; have s0 := hSw; go_simp; (try with_reducible rfl))
          case s20 => assumption
          (try simp only [Act.put, List.setIfInBounds_toArray, List.set_cons_zero, List.set_cons_succ])
          refine wpAnyH_take (i := 8) (oi := ?o21) (v := ?v21) ?h21 ?a21 ?b21 ?c21 ?q21 (Or.inl ⟨?g21, ?y21⟩) ?s21 ?r21
          case h21 => (simp only [List.getElem?_toArray, List.getElem?_cons_zero, List.getElem?_cons_succ]; rfl)
          case a21 => kernel_rfl
          case b21 => kernel_rfl
          case c21 => kernel_rfl
          case q21 => exact fun _ _ _ h => h
          case g21 => rfl
          case y21 => (intro wS hSw; have s0 := hSw; go_simp; (try with_reducible rfl))
          case s21 => assumption
          (try simp only [Act.put, List.setIfInBounds_toArray, List.set_cons_zero, List.set_cons_succ])
          refine wpAnyH_ready (rs := [6]) (by kernel_rfl) (by simp) ?_
          refine AllReadyH.cons (o := ?oB22) ?hB22 ?kB22 AllReadyH.nil
          case hB22 => (simp only [List.getElem?_toArray, List.getElem?_cons_zero, List.getElem?_cons_succ]; rfl)
          case kB22 =>
            intro K hK
            go_simp
            refine (number_any x (w5.drewN 1) hx3).mono ?_
            rintro e w6 ⟨rfl, rfl⟩
            refine hK.out _ _ HD5.out.c1 (fun _ => ?_)
            clear hK K
            (try simp only [Act.put, List.setIfInBounds_toArray, List.set_cons_zero, List.set_cons_succ])
            refine wpAnyH_take (i := 9) (oi := ?o23) (v := ?v23) ?h23 ?a23 ?b23 ?c23 ?q23 (Or.inl ⟨?g23, ?y23⟩) ?s23 ?r23
            case h23 => (simp only [List.getElem?_toArray, List.getElem?_cons_zero, List.getElem?_cons_succ]; rfl)
            case a23 => kernel_rfl
            case b23 => kernel_rfl
            case c23 => kernel_rfl
            case q23 => exact fun _ _ _ h => h
            case g23 => rfl
            case y23 => (intro wS hSw; have s0 := hSw; go_simp; (try with_reducible rfl))
            case s23 => assumption
            (try simp only [Act.put, List.setIfInBounds_toArray, List.set_cons_zero, List.set_cons_succ])
            refine wpAnyH_ready (rs := [10]) (by kernel_rfl) (by simp) ?_
            refine AllReadyH.cons (o := ?oB24) ?hB24 ?kB24 AllReadyH.nil
            case hB24 => (simp only [List.getElem?_toArray, List.getElem?_cons_zero, List.getElem?_cons_succ]; rfl)
            case kB24 =>
              intro K hK
              go_simp
              refine hK.out _ _ HZ7.out (fun _ => ?_)
              clear hK K
              (try simp only [Act.put, List.setIfInBounds_toArray, List.set_cons_zero, List.set_cons_succ])
              refine wpAnyH_done (by kernel_rfl) ?_ _
              go_wp2_with fail
              first | go_end0 | go_ret
              exact HY.out
      · have hdq : ((x.size : Int) == f.n) = false := by simp [hsz]
        have HSZ := Lib.hid hsz
        clear hsz
        go_wp2_with fail
        refine (require_no _).mono ?_
        rintro e w4 ⟨rfl, rfl⟩
        exact ⟨rfl, KW.stop (by rw [HRW.out, wgiven, H3.out.2.2.2]; show (if _ then _ else _) = none; rw [if_neg HSZ.out]) (HD.out.wide H3.out.1)⟩
end
end WrI
section WrJ
open Go.RowKit Fx Rec

def Room (fs : List Fld) (d : Dr) (n : Nat) : Prop := ∀ i, i < d.lens.length → waits fs i = true → (fs.getD i zf).kind = 2 → 1 ≤ (d.lens.getD i (0, 0)).2 ∧ (d.lens.getD i (0, 0)).2 ≤ 3 ∧ (d.lens.getD i (0, 0)).1 + (d.lens.getD i (0, 0)).2 ≤ n
def Short (l : List ByteArray) : Prop := ∀ x, x ∈ l → x.size ≤ 4611686018427387904
/-- A field whose length waits. -/
structure From (fs : List Fld) (d : Dr) (f : Fld) (q : Nat) : Prop where
  eq : f.frm = (q : Int)
  lt : q < d.lens.length
  wt : waits fs q = true
  k2 : (fs.getD q zf).kind = 2
  q16 : q < 16
section
variable {w w' : World} {o : Wo} {top db : Nat} {fs : List Fld} {u : Value} {j st0 : Nat} {d : Dr} {cs : List Value} {L : List Fm} {σ : Ws} {f : Fld} {r : Option Rec.Left}
theorem addW_st {σ σ1 : Ws} {b : List UInt8} (h : addW σ b = some σ1) : σ1 = { σ with st := σ.st ++ b } ∧ σ.st.length + b.length ≤ 65536 := by
  unfold addW at h
  split at h
  · cases h; exact ⟨rfl, by assumption⟩
  · cases h
theorem nextW_st {σ σ1 : Ws} {x : ByteArray} (h : nextW σ = some (x, σ1)) : σ.vals = x :: σ1.vals ∧ σ1.st = σ.st := by
  unfold nextW at h
  split at h
  · cases h
  · rename_i hv
    cases h
    exact ⟨hv, rfl⟩
set_option maxRecDepth 20000 in
set_option maxHeartbeats 600000 in
theorem kw_bytes (h : WrAt w o top L σ 0) (hd : DrAt w o top db fs u j st0 d cs) (hj : d.counts.length = j) (hf : f = fs.getD j zf) (hk : f.kind = 3) (hfr : f.frm = -1 ∨ ∃ q, From fs d f q) (hroom : Room fs d σ.st.length) (hsh : Short σ.vals) :
    Calls Tryz.prog 79 #[ptr o.wb, ptr db, fldV f] w fun e w' => KW w o top L 0 db fs u j st0 d (wbytes f d σ) e w' := by
  obtain ⟨RR, hRR⟩ : ∃ RR, RR = wbytes f d σ := ⟨_, rfl⟩
  rw [← hRR]
  have HRR := Lib.hid hRR
  have hb := bx (w := w) (.cells (fldC f).toArray 56)
  obtain ⟨hs1, hn1, h1⟩ := h.below hb
  have hd1 := hd.step hs1
  have HBX := Lib.hid (box_cells w f)
  have hnk : (fs.getD j zf).kind ≠ 2 := by rw [← hf, hk]; decide
  have HS := Lib.hid (And.intro hs1 (And.intro h1 (And.intro hd1 (And.intro hj hnk))))
  have HD := Lib.hid hd
  have HSF := Lib.hid (hn1 w.heap.size (Nat.le_refl _) (by simp))
  have HP := Lib.hid (And.intro hfr (And.intro hroom hsh))
  clear h hd hRR hb hs1 hn1 h1 hd1 hj hf hk hnk hfr hroom hsh
  go_enter Tryz.func79, Tryz.ntmps79
  go_wp2_with fail
  refine (wnext_any HS.out.2.1).mono ?_
  rcases hv : nextW σ with _ | ⟨x, σ1⟩
  · rintro e w3 ⟨hs, rfl⟩
    exact ⟨rfl, KW.stop (by rw [HRR.out, wbytes, hv]; rfl) (HD.out.wide (HS.out.1.trans hs))⟩
  · rintro e w3 ⟨hs, rfl, hw3⟩
    have H3 := Lib.hid (And.intro (HS.out.1.trans hs) (And.intro hw3 (And.intro (HS.out.2.2.1.step hs) (And.intro hv (hs.safe _ HSF.out)))))
    have HB3 := Lib.hid (hs.same HSF.out)
    clear hs hw3 hv
    have hxs : x.size ≤ 4611686018427387904 := HP.out.2.2 x (by rw [(nextW_st H3.out.2.2.2.1).1]; exact List.mem_cons_self)
    go_wp2_with fail
    refine (wadd_any H3.out.2.1 x hxs).mono ?_
    rcases hr : addW σ1 x.data.toList with _ | σ2
    · rintro e w5 ⟨hs, rfl⟩
      exact ⟨rfl, KW.stop (by rw [HRR.out, wbytes, H3.out.2.2.2.1]; show (addW σ1 x.data.toList).bind _ = none; rw [hr]; rfl) (HD.out.wide (H3.out.1.trans hs))⟩
    · rintro e w5 ⟨hs, rfl, hw5⟩
      have hst := addW_st hr
      have hxl : x.data.toList.length = x.size := by simp
      have hx9 : x.size ≤ 65536 := by omega
      have hb5 : w5.heap[w.heap.size]? = (w.alloc (.cells (fldC f).toArray 56)).heap[w.heap.size]? := (hs.same H3.out.2.2.2.2).trans HB3.out
      obtain ⟨y0, y1, y2, y3⟩ := HBX.out
      have z1 : w5.cell? ⟨w.heap.size, 1, none⟩ = some (.int .i64 f.n) := by rw [World.cell?_of_block (w := w.alloc (.cells (fldC f).toArray 56)) hb5]; exact y1
      have z2 : w5.cell? ⟨w.heap.size, 2, none⟩ = some (.int .i64 f.frm) := by rw [World.cell?_of_block (w := w.alloc (.cells (fldC f).toArray 56)) hb5]; exact y2
      have HRR5 : Hid (RR = if f.frm = -1 then (if (x.size : Int) = f.n then some (left0 σ2) else none) else (fill σ2 (d.lens.getD f.frm.toNat (0, 0)) x.size).map left0) := Lib.hid (by rw [HRR.out, wbytes, H3.out.2.2.2.1]; show (addW σ1 x.data.toList).bind _ = _; rw [hr]; rfl)
      have H5 := Lib.hid (And.intro (H3.out.1.trans hs) (And.intro hw5 (And.intro (H3.out.2.2.1.step hs) (hst))))
      have HS5 := Lib.hid (hs.safe _ H3.out.2.2.2.2)
      have HSK := Lib.hid ((H3.out.2.2.1.step hs).skip_ HS.out.2.2.2.1 HS.out.2.2.2.2)
      clear hs hw5 hr hst hb5 y0 y1 y2 y3 hxl
      by_cases hfm : f.frm = -1
      · have hdq : (f.frm == -1) = true := by simp [hfm]
        have HFM := Lib.hid hfm
        clear hfm
        by_cases hsz : (x.size : Int) = f.n
        · have hdz : ((x.size : Int) == f.n) = true := by simp [hsz]
          have HY : Hid (KW w o top L 0 db fs u j st0 d RR (.returned (.tuple #[])) w5) := Lib.hid (KW.yes (p := left0 σ2) (by rw [HRR5.out, if_pos HFM.out, if_pos hsz]) (HD.out.wide H5.out.1) H5.out.2.1 HSK.out)
          clear hsz
          go_wp2_with fail
          refine (require_yes _).mono ?_
          rintro e w6 ⟨rfl, rfl⟩
          go_wp2_with fail
          first | go_end0 | go_ret
          exact HY.out
        · have hdz : ((x.size : Int) == f.n) = false := by simp [hsz]
          have HY : Hid (KW w o top L 0 db fs u j st0 d RR (Stops zRf) w5) := Lib.hid (KW.stop (by rw [HRR5.out, if_pos HFM.out, if_neg hsz]) (HD.out.wide H5.out.1))
          clear hsz
          go_wp2_with fail
          refine (require_no _).mono ?_
          rintro e w6 ⟨rfl, rfl⟩
          exact ⟨rfl, HY.out⟩
      · obtain ⟨q, hq⟩ : ∃ q, From fs d f q := HP.out.1.resolve_left hfm
        have hdq : (f.frm == -1) = false := by simp [hfm]
        have hq16 : (q : Int) < 16 := by have := hq.q16; omega
        rw [hq.eq] at z2
        obtain ⟨v, hv1, hv2⟩ := H5.out.2.2.1.lens q hq.lt hq.wt hq.k2
        have z3 : w5.cell? ⟨db, 19 + q, none⟩ = some v := by
          have := H5.out.2.2.1.cell (16 + q)
          rw [show 3 + (16 + q) = 19 + q by omega] at this
          rw [this]; exact hv1
        have hR := HP.out.2.1 q hq.lt hq.wt hq.k2
        obtain ⟨am, ham⟩ : ∃ am, am = d.lens.getD q (0, 0) := ⟨_, rfl⟩
        rw [← ham] at hR hv2
        have HRR6 : Hid (RR = (fill σ2 am x.size).map left0) := Lib.hid (by rw [HRR5.out, if_neg hfm, hq.eq, Int.toNat_natCast, ham])
        have HQ := Lib.hid (And.intro hq (And.intro hv2 hR))
        obtain ⟨xa, ya, za, rfl, -⟩ := hv2
        clear hfm hq hv1 hR ham
        go_wp2_with fail
        refine wp_region_held_drew (S := (fun W : World => W.cell? ⟨w.heap.size, 2, none⟩ = some (.int .i64 (q : Nat)) ∧ W.cell? ⟨db, 19 + q, none⟩ = some (.func (.func 110) #[] #[ptr xa, ptr ya, ptr za]))) (by kernel_rfl) ⟨z2, z3⟩ (fun hHeld => ?_)
        refine wpAnyH_take (i := 0) (oi := ?o1) (v := ?v1) ?h1 ?a1 ?b1 ?c1 ?q1 (Or.inl ⟨?g1, ?y1⟩) ?s1 ?r1
        case h1 => (simp only [List.getElem?_toArray, List.getElem?_cons_zero]; rfl)
        case a1 => kernel_rfl
        case b1 => kernel_rfl
        case c1 => kernel_rfl
        case q1 => exact fun _ _ _ h => h
        case g1 => rfl
        case y1 => (intro wS hSw; obtain ⟨s0, s1⟩ := hSw; go_simp; (try with_reducible rfl))
        case s1 => assumption
        (try simp only [Act.put, List.setIfInBounds_toArray, List.set_cons_zero, List.set_cons_succ])
        refine wpAnyH_take (i := 1) (oi := ?o2) (v := ?v2) ?h2 ?a2 ?b2 ?c2 ?q2 (Or.inl ⟨?g2, ?y2⟩) ?s2 ?r2
        case h2 => (simp only [List.getElem?_toArray, List.getElem?_cons_zero, List.getElem?_cons_succ]; rfl)
        case a2 => kernel_rfl
        case b2 => kernel_rfl
        case c2 => kernel_rfl
        case q2 => exact fun _ _ _ h => h
        case g2 => rfl
        case y2 => (intro wS hSw; obtain ⟨s0, s1⟩ := hSw; go_simp; (try with_reducible rfl))
        case s2 => assumption
        (try simp only [Act.put, List.setIfInBounds_toArray, List.set_cons_zero, List.set_cons_succ])
        refine wpAnyH_take (i := 2) (oi := ?o3) (v := ?v3) ?h3 ?a3 ?b3 ?c3 ?q3 (Or.inl ⟨?g3, ?y3⟩) ?s3 ?r3
        case h3 => (simp only [List.getElem?_toArray, List.getElem?_cons_zero, List.getElem?_cons_succ]; rfl)
        case a3 => kernel_rfl
        case b3 => kernel_rfl
        case c3 => kernel_rfl
        case q3 => exact fun _ _ _ h => h
        case g3 => rfl
        case y3 => (intro wS hSw; obtain ⟨s0, s1⟩ := hSw; go_simp; (try with_reducible rfl))
        case s3 => assumption
        (try simp only [Act.put, List.setIfInBounds_toArray, List.set_cons_zero, List.set_cons_succ])
        refine wpAnyH_take (i := 3) (oi := ?o4) (v := ?v4) ?h4 ?a4 ?b4 ?c4 ?q4 (Or.inl ⟨?g4, ?y4⟩) ?s4 ?r4
        case h4 => (simp only [List.getElem?_toArray, List.getElem?_cons_zero, List.getElem?_cons_succ]; rfl)
        case a4 => kernel_rfl
        case b4 => kernel_rfl
        case c4 => kernel_rfl
        case q4 => exact fun _ _ _ h => h
        case g4 => rfl
        case y4 => (intro wS hSw; obtain ⟨s0, s1⟩ := hSw; go_simp; (try with_reducible rfl))
        case s4 => assumption
        (try simp only [Act.put, List.setIfInBounds_toArray, List.set_cons_zero, List.set_cons_succ])
        refine wpAnyH_take (i := 4) (oi := ?o5) (v := ?v5) ?h5 ?a5 ?b5 ?c5 ?q5 (Or.inl ⟨?g5, ?y5⟩) ?s5 ?r5
        case h5 => (simp only [List.getElem?_toArray, List.getElem?_cons_zero, List.getElem?_cons_succ]; rfl)
        case a5 => kernel_rfl
        case b5 => kernel_rfl
        case c5 => kernel_rfl
        case q5 => exact fun _ _ _ h => h
        case g5 => rfl
        case y5 => (intro wS hSw; obtain ⟨s0, s1⟩ := hSw; go_simp; (try with_reducible rfl))
        case s5 => assumption
        (try simp only [Act.put, List.setIfInBounds_toArray, List.set_cons_zero, List.set_cons_succ])
        refine wpAnyH_take (i := 5) (oi := ?o6) (v := ?v6) ?h6 ?a6 ?b6 ?c6 ?q6 (Or.inl ⟨?g6, ?y6⟩) ?s6 ?r6
        case h6 => (simp only [List.getElem?_toArray, List.getElem?_cons_zero, List.getElem?_cons_succ]; rfl)
        case a6 => kernel_rfl
        case b6 => kernel_rfl
        case c6 => kernel_rfl
        case q6 => exact fun _ _ _ h => h
        case g6 => rfl
        case y6 => (intro wS hSw; obtain ⟨s0, s1⟩ := hSw; go_simp; (try with_reducible rfl))
        case s6 => assumption
        (try simp only [Act.put, List.setIfInBounds_toArray, List.set_cons_zero, List.set_cons_succ])
        refine wpAnyH_take (i := 6) (oi := ?o7) (v := ?v7) ?h7 ?a7 ?b7 ?c7 ?q7 (Or.inl ⟨?g7, ?y7⟩) ?s7 ?r7
        case h7 => (simp only [List.getElem?_toArray, List.getElem?_cons_zero, List.getElem?_cons_succ]; rfl)
        case a7 => kernel_rfl
        case b7 => kernel_rfl
        case c7 => kernel_rfl
        case q7 => exact fun _ _ _ h => h
        case g7 => rfl
        case y7 => (intro wS hSw; obtain ⟨s0, s1⟩ := hSw; go_simp; (try with_reducible rfl))
        case s7 => assumption
        (try simp only [Act.put, List.setIfInBounds_toArray, List.set_cons_zero, List.set_cons_succ])
        refine wpAnyH_take (i := 7) (oi := ?o8) (v := ?v8) ?h8 ?a8 ?b8 ?c8 ?q8 (Or.inl ⟨?g8, ?y8⟩) ?s8 ?r8
        case h8 => (simp only [List.getElem?_toArray, List.getElem?_cons_zero, List.getElem?_cons_succ]; rfl)
        case a8 => kernel_rfl
        case b8 => kernel_rfl
        case c8 => kernel_rfl
        case q8 => exact fun _ _ _ h => h
        case g8 => rfl
        case y8 => (intro wS hSw; obtain ⟨s0, s1⟩ := hSw; go_simp; (try with_reducible rfl))
        case s8 => assumption
        (try simp only [Act.put, List.setIfInBounds_toArray, List.set_cons_zero, List.set_cons_succ])
        refine wpAnyH_take (i := 8) (oi := ?o9) (v := ?v9) ?h9 ?a9 ?b9 ?c9 ?q9 (Or.inl ⟨?g9, ?y9⟩) ?s9 ?r9
        case h9 => (simp only [List.getElem?_toArray, List.getElem?_cons_zero, List.getElem?_cons_succ]; rfl)
        case a9 => kernel_rfl
        case b9 => kernel_rfl
        case c9 => kernel_rfl
        case q9 => exact fun _ _ _ h => h
        case g9 => rfl
        case y9 => (intro wS hSw; obtain ⟨s0, s1⟩ := hSw; go_simp; (try with_reducible rfl))
        case s9 => assumption
        (try simp only [Act.put, List.setIfInBounds_toArray, List.set_cons_zero, List.set_cons_succ])
        refine wpAnyH_ready (rs := [9]) (by kernel_rfl) (by simp) ?_
        refine AllReadyH.cons (o := ?oB10) ?hB10 ?kB10 AllReadyH.nil
        case hB10 => (simp only [List.getElem?_toArray, List.getElem?_cons_zero, List.getElem?_cons_succ]; rfl)
        case kB10 =>
          intro K hK
          go_simp
          obtain ⟨t1, -, t3⟩ := H5.out.2.1.below (drewN_below w5 1)
          have hs12 := H5.out.2.2.2
          refine (laid_any (a := am.1) (m := am.2) t3 (HQ.out.2.1.step t1) HQ.out.2.2.1 HQ.out.2.2.2.1 (by rw [hs12.1, show ({ σ1 with st := σ1.st ++ x.data.toList } : Ws).st = σ1.st ++ x.data.toList from rfl, List.length_append, (nextW_st H3.out.2.2.2.1).2]; have := HQ.out.2.2.2.2; omega) (Nat.zero_le _) x.size (by omega) (by omega)).mono ?_
          have hd6 := H5.out.2.2.1.step t1
          rcases hr : fill σ2 (am.1, am.2) x.size with _ | σ3
          · rintro e w6 ⟨hs, rfl⟩
            exact ⟨rfl, KW.stop (by rw [HRR6.out, show fill σ2 am x.size = none from hr]; rfl) (HD.out.wide (H5.out.1.trans (t1.trans hs)))⟩
          · rintro e w6 ⟨hs, rfl, hw6⟩
            have HY : Hid (KW w o top L 0 db fs u j st0 d RR (.returned (.tuple #[])) w6) := Lib.hid (KW.yes (p := left0 σ3) (by rw [HRR6.out, show fill σ2 am x.size = some σ3 from hr]; rfl) (HD.out.wide (H5.out.1.trans (t1.trans hs))) hw6 ((HSK.out.step t1).step hs))
            have z6 : w6.cell? ⟨w.heap.size, 2, none⟩ = some (.int .i64 (q : Nat)) := by rw [World.cell?_of_block (w := w5) ((t1.trans hs).same HS5.out)]; exact z2
            have z7 : w6.cell? ⟨db, 19 + q, none⟩ = some (.func (.func 110) #[] #[ptr xa, ptr ya, ptr za]) := by rw [World.cell?_of_block (w := w5) ((t1.trans hs).same H5.out.2.2.1.safe)]; exact z3
            refine hK.out _ _ ⟨z6, z7⟩ (fun _ => ?_)
            clear hK K hs hw6 hr t1 t3 hd6 hs12
            (try simp only [Act.put, List.setIfInBounds_toArray, List.set_cons_zero, List.set_cons_succ])
            refine wpAnyH_done (by kernel_rfl) ?_ _
            go_wp2_with fail
            first | go_end0 | go_ret
            exact HY.out
end
end WrJ
end Go.Proofs.YtlhobhfmombjjaaGreatDoor
