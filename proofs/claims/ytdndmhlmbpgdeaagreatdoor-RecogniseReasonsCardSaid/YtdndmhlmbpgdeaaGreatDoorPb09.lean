/- A draft in memory; the writer's numbers. Conditions: the writer and the draft lie in memory. The writer's literals and numbers. Conditions: the writer and the draft lie in memory, the field is a right one. The writer's bytes. Conditions: the writer and the draft lie in memory, the field is a right one, the numbers that wait have room, the values are no longer than half of what there can be. The writer's lists. Conditions: the writer and the draft lie in memory, the field is a right one, values are written as the given function tells. The writer's values in a field with a length. Conditions: the writer and the draft lie in memory, the field is a right one, values are written as the given function tells, the number that waits has room. A writer in memory: a checksum to come is put behind the others. No condition of its own. The writer's checksums to come. Conditions: the writer and the draft lie in memory, the width is small. -/
import Derived.Test.YtdndmhlmbpgdeaaGreatDoorPb08
import Derived.Test.YtdndmhlmbpgdeaaGreatDoorPb01
namespace Go.Proofs.YtdndmhlmbpgdeaaGreatDoor
section WrH
open Go.RowKit Fx Rec

structure DrAt (w : World) (o : Wo) (top db : Nat) (fs : List Fld) (u : Value) (j st0 : Nat) (d : Dr) (cs : List Value) : Prop where
  blk : Blk w db 152 ([u, .int .i64 (j : Nat), .int .i64 (st0 : Nat)] ++ cs).toArray
  len : cs.length = 32
  cnt : ∀ i, i < 16 → cs[i]? = some (.int .i64 (d.counts.getD i 0))
  lens : ∀ i, i < d.lens.length → waits fs i = true → (fs.getD i zf).kind = 2 → ∃ v, cs[16 + i]? = some v ∧ LeaveAt w o v (d.lens.getD i (0, 0))
  cl : d.counts.length = d.lens.length
  flds : FldsAt w u fs
  ub : ∀ b, u.ownBlock = some b → Safe w o b ∧ b < top
  safe : Safe w o db
  top_ : top ≤ db
/-- The field that is being written. -/
abbrev At1 (db : Nat) : Nat → Prop := fun k => k = db
section
variable {w w1 : World} {o : Wo} {top db : Nat} {fs : List Fld} {u : Value} {j st0 : Nat} {d : Dr} {cs : List Value} {L : List Fm} {σ : Ws} {k : Nat}
theorem DrAt.cell (h : DrAt w o top db fs u j st0 d cs) (i : Nat) : w.cell? ⟨db, 3 + i, none⟩ = cs[i]? := by
  rw [h.blk.cell]
  simp [Nat.add_comm 3 i]
theorem DrAt.c0 (h : DrAt w o top db fs u j st0 d cs) : w.cell? ⟨db, 0, none⟩ = some u := by rw [h.blk.cell]; rfl
theorem DrAt.c1 (h : DrAt w o top db fs u j st0 d cs) : w.cell? ⟨db, 1, none⟩ = some (.int .i64 (j : Nat)) := by rw [h.blk.cell]; rfl
/-- What is not its own is as it was. -/
theorem DrAt.step (h : DrAt w o top db fs u j st0 d cs) (hs : StepW o NoX w w1) : DrAt w1 o top db fs u j st0 d cs :=
  { h with
    blk := (hs.same h.safe).trans h.blk
    lens := fun i h1 h2 h3 => by
      obtain ⟨v, e1, e2⟩ := h.lens i h1 h2 h3
      exact ⟨v, e1, e2.step hs⟩
    flds := h.flds.keep hs.base.size fun b hb => hs.same (h.ub b hb).1
    ub := fun b hb => ⟨hs.safe _ (h.ub b hb).1, (h.ub b hb).2⟩
    safe := hs.safe _ h.safe }
/-- The writer does not know of the draft. -/
theorem WrAt.draft_ (h : WrAt w o top L σ k) (hd : Safe w o db) (ht : top ≤ db) {cs0 : Array Value} (hb : Blk w db 152 cs0) (i : Nat) (v : Value) (hi : i ≠ 2) :
    StepW o (At1 db) w (w.setCell ⟨db, i, none⟩ v) ∧ WrAt (w.setCell ⟨db, i, none⟩ v) o top L σ k ∧ ∀ q, Safe w o q → Safe (w.setCell ⟨db, i, none⟩ v) o q := by
  obtain ⟨hf, vv, vst, vch, vs, chs, hm⟩ := h
  have E : ∀ q, q ≠ db → (w.setCell ⟨db, i, none⟩ v).heap[q]? = w.heap[q]? := fun q hq => Below.heap_setCell _ _ _ _ hq
  have O : ∀ q, OwnW w o q → q ≠ db := fun q hq e => hd.no (e ▸ hq)
  have ow : ∀ q, (q = o.wb ∨ q = o.sb ∨ vst.ownBlock = some q ∨ vch.ownBlock = some q ∨ vs.ownBlock = some q) → (w.setCell ⟨db, i, none⟩ v).heap[q]? = w.heap[q]? := fun q hq => E q (O q ((hm.own_ q).2 hq))
  have hblk : Blk (w.setCell ⟨db, i, none⟩ v) o.wb 122 _ := (ow _ (.inl rfl)).trans hm.blk
  have sums : SumsAt (w.setCell ⟨db, i, none⟩ v) o.sb o.ab (atW o.xb) (sumTo (bytesOf σ.st)) k vs := hm.sums.keep (ow _ (.inr (.inl rfl))) (E _ (Blk.ne_ hm.sums.ab hb (by decide))) fun g hg => ow g (.inr (.inr (.inr (.inr hg))))
  have hs : StepW o (At1 db) w (w.setCell ⟨db, i, none⟩ v) := by
    have hown : ∀ q, OwnW (w.setCell ⟨db, i, none⟩ v) o q → OwnW w o q := fun q h => (hm.own_ q).2 ((own_iff hblk sums.sb q).1 h)
    refine ⟨(Kept.refl _ _).setCell (fun h => h.2 rfl) _, fun q hq => ⟨by simpa [World.setCell] using hq.lt, fun h => hq.no (hown q h)⟩, ?_⟩
    rintro q hq rfl
    refine ⟨cs0, _, hb, hb.set_ i v, ?_⟩
    rw [Array.getElem?_setIfInBounds_ne (fun e => hi e)]
  have hX : ∀ q, At1 db q → top ≤ q := fun q hq => hq ▸ ht
  refine ⟨hs, ⟨hf.step hs hX, vv, vst, vch, vs, chs, { hm with blk := hblk, vals := hm.vals.step fun b h1 h2 => hs.old hX (hm.sv b h1 h2), sv := fun b h1 h2 => ⟨hs.safe _ (hm.sv b h1 h2).1, (hm.sv b h1 h2).2⟩, st := ?_, sums := sums, ch := ?_, chks := fun i hi => (hm.chks i hi).step hs }⟩, hs.safe⟩
  · exact own_keep hm.st fun g cur hg _ => ow g (.inr (.inr (.inl hg)))
  · exact own_keep hm.ch fun g cur hg _ => ow g (.inr (.inr (.inr (.inl hg))))
theorem DrAt.at_ (h : DrAt w o top db fs u j st0 d cs) {i : Nat} (hi : i < 32) : (∃ v, w.cell? ⟨db, 3 + i, none⟩ = some v) ∧ w.frozen? ⟨db, 3 + i, none⟩ = false :=
  ⟨⟨_, (h.cell i).trans (List.getElem?_eq_getElem (by rw [h.len]; exact hi))⟩, h.blk.frozen _⟩
/-- A cell behind the first three is written. -/
theorem DrAt.put (h : DrAt w o top db fs u j st0 d cs) (hw : WrAt w o top L σ k) {i : Nat} (hi : i < 32) (v : Value) {d' : Dr}
    (hc : ∀ q, q < 16 → (cs.set i v)[q]? = some (.int .i64 (d'.counts.getD q 0))) (hl : ∀ q, q < d'.lens.length → waits fs q = true → (fs.getD q zf).kind = 2 → ∃ x, (cs.set i v)[16 + q]? = some x ∧ LeaveAt w o x (d'.lens.getD q (0, 0))) (hcl : d'.counts.length = d'.lens.length) :
    StepW o (At1 db) w (w.setCell ⟨db, 3 + i, none⟩ v) ∧ WrAt (w.setCell ⟨db, 3 + i, none⟩ v) o top L σ k ∧ DrAt (w.setCell ⟨db, 3 + i, none⟩ v) o top db fs u j st0 d' (cs.set i v) := by
  obtain ⟨h1, h2, h3⟩ := hw.draft_ h.safe h.top_ h.blk (3 + i) v (by omega)
  have hX : ∀ q, At1 db q → top ≤ q := fun q hq => hq ▸ h.top_
  refine ⟨h1, h2, { blk := ?_, len := by rw [List.length_set]; exact h.len, cnt := hc, lens := ?_, cl := hcl, flds := h.flds.keep h1.base.size fun b hb => h1.old hX (h.ub b hb), ub := fun b hb => ⟨h3 _ (h.ub b hb).1, (h.ub b hb).2⟩, safe := h3 _ h.safe, top_ := h.top_ }⟩
  · have := h.blk.set_ (3 + i) v
    have e : (([u, .int .i64 (j : Nat), .int .i64 (st0 : Nat)] ++ cs).toArray).setIfInBounds (3 + i) v = ([u, .int .i64 (j : Nat), .int .i64 (st0 : Nat)] ++ cs.set i v).toArray := by
      rw [List.setIfInBounds_toArray, List.set_append_right _ _ (by simp)]
      simp
    rw [e] at this
    exact this
  · intro q q1 q2 q3
    obtain ⟨x, e1, e2⟩ := hl q q1 q2 q3
    exact ⟨x, e1, e2.step h1⟩
theorem getD_snoc0 (l : List Int) (q : Nat) : (l ++ [(0 : Int)]).getD q 0 = l.getD q 0 := by
  rcases Nat.lt_trichotomy q l.length with h | h | h
  · simp [List.getD, List.getElem?_append_left h]
  · subst h; simp [List.getD]
  · simp [List.getD, List.getElem?_eq_none (show l.length ≤ q by omega), List.getElem?_eq_none (show (l ++ [(0 : Int)]).length ≤ q by simp; omega)]
/-- The room for a number has been kept. -/
theorem DrAt.left_ (h : DrAt w o top db fs u j st0 d cs) (hw : WrAt w o top L σ k) (hj : d.counts.length = j) (h16 : j < 16) {v : Value} {l : Nat × Nat} (hl : LeaveAt w o v l) :
    StepW o (At1 db) w (w.setCell ⟨db, 3 + (16 + j), none⟩ v) ∧ WrAt (w.setCell ⟨db, 3 + (16 + j), none⟩ v) o top L σ k ∧ DrAt (w.setCell ⟨db, 3 + (16 + j), none⟩ v) o top db fs u j st0 ⟨d.counts ++ [0], d.lens ++ [l]⟩ (cs.set (16 + j) v) := by
  have hlj : d.lens.length = j := h.cl.symm.trans hj
  refine h.put hw (by omega) v ?_ ?_ (by simp [h.cl])
  · intro q hq
    rw [List.getElem?_set_ne (by omega), h.cnt q hq, getD_snoc0]
  · intro q q1 q2 q3
    by_cases e : q = j
    · subst e
      exact ⟨v, by rw [List.getElem?_set_self (by rw [h.len]; omega)], by simp only [List.getD, ← hlj, List.getElem?_concat_length, Option.getD_some]; exact hl⟩
    · have q4 : q < d.lens.length := by simp at q1; omega
      obtain ⟨x, e1, e2⟩ := h.lens q q4 q2 q3
      exact ⟨x, by rw [List.getElem?_set_ne (by omega)]; exact e1, by simp only [List.getD, List.getElem?_append_left q4]; exact e2⟩
/-- A number has been given. -/
theorem DrAt.given_ (h : DrAt w o top db fs u j st0 d cs) (hw : WrAt w o top L σ k) (hj : d.counts.length = j) (h16 : j < 16) (n : Int) (hn : waits fs j = false) :
    StepW o (At1 db) w (w.setCell ⟨db, 3 + j, none⟩ (.int .i64 n)) ∧ WrAt (w.setCell ⟨db, 3 + j, none⟩ (.int .i64 n)) o top L σ k ∧ DrAt (w.setCell ⟨db, 3 + j, none⟩ (.int .i64 n)) o top db fs u j st0 ⟨d.counts ++ [n], d.lens ++ [(0, 0)]⟩ (cs.set j (.int .i64 n)) := by
  have hlj : d.lens.length = j := h.cl.symm.trans hj
  refine h.put hw (by omega) _ ?_ ?_ (by simp [h.cl])
  · intro q hq
    by_cases e : q = j
    · subst e
      rw [List.getElem?_set_self (by rw [h.len]; omega)]
      simp only [List.getD, ← hj, List.getElem?_concat_length, Option.getD_some]
    · rw [List.getElem?_set_ne (by omega), h.cnt q hq]
      rcases Nat.lt_trichotomy q d.counts.length with h1 | h1 | h1
      · simp [List.getD, List.getElem?_append_left h1]
      · omega
      · simp [List.getD, List.getElem?_eq_none (show d.counts.length ≤ q by omega), List.getElem?_eq_none (show (d.counts ++ [n]).length ≤ q by simp; omega)]
  · intro q q1 q2 q3
    by_cases e : q = j
    · subst e; rw [hn] at q2; cases q2
    · have q4 : q < d.lens.length := by simp at q1; omega
      obtain ⟨x, e1, e2⟩ := h.lens q q4 q2 q3
      exact ⟨x, by rw [List.getElem?_set_ne (by omega)]; exact e1, by simp only [List.getD, List.getElem?_append_left q4]; exact e2⟩
/-- A field that is no number. -/
theorem DrAt.skip_ (h : DrAt w o top db fs u j st0 d cs) (hj : d.counts.length = j) (hk : (fs.getD j zf).kind ≠ 2) : DrAt w o top db fs u j st0 ⟨d.counts ++ [0], d.lens ++ [(0, 0)]⟩ cs := by
  have hlj : d.lens.length = j := h.cl.symm.trans hj
  refine { h with cnt := fun q hq => by rw [h.cnt q hq, getD_snoc0], cl := by simp [h.cl], lens := ?_ }
  intro q q1 q2 q3
  by_cases e : q = j
  · subst e; exact absurd q3 hk
  · have q4 : q < d.lens.length := by simp at q1; omega
    obtain ⟨x, e1, e2⟩ := h.lens q q4 q2 q3
    exact ⟨x, e1, by simp only [List.getD, List.getElem?_append_left q4]; exact e2⟩
end
end WrH
section WrI
open Go.RowKit Fx Rec

def KW (w : World) (o : Wo) (top : Nat) (L : List Fm) (k db : Nat) (fs : List Fld) (u : Value) (j st0 : Nat) (d : Dr) (r : Option Rec.Left) (e : Ending) (w' : World) : Prop :=
  StepW o (At1 db) w w' ∧ match r with
  | some p => e = .returned (.tuple #[]) ∧ WrAt w' o top L p.2.2 k ∧ ∃ cs, DrAt w' o top db fs u j st0 ⟨d.counts ++ [p.1], d.lens ++ [p.2.1]⟩ cs
  | none => e = Stops zRf
section
variable {w w' : World} {o : Wo} {top db : Nat} {fs : List Fld} {u : Value} {j st0 : Nat} {d : Dr} {cs : List Value} {L : List Fm} {σ : Ws} {k : Nat} {f : Fld} {r : Option Rec.Left}
theorem KW.stop (hr : r = none) (hs : StepW o (At1 db) w w') : KW w o top L k db fs u j st0 d r (Stops zRf) w' := by
  subst hr
  exact ⟨hs, rfl⟩
theorem KW.yes {p : Rec.Left} (hr : r = some p) (hs : StepW o (At1 db) w w') (h : WrAt w' o top L p.2.2 k) (hd : DrAt w' o top db fs u j st0 ⟨d.counts ++ [p.1], d.lens ++ [p.2.1]⟩ cs) : KW w o top L k db fs u j st0 d r (.returned (.tuple #[])) w' := by
  subst hr
  exact ⟨hs, rfl, h, cs, hd⟩
theorem DrAt.wide (hd : DrAt w o top db fs u j st0 d cs) (hs : StepW o NoX w w') : StepW o (At1 db) w w' := hs.widen fun k hk => by
  obtain rfl : k = db := hk
  exact ⟨_, hd.blk⟩
theorem kw_literal (h : WrAt w o top L σ k) (hd : DrAt w o top db fs u j st0 d cs) (hj : d.counts.length = j) (hf : f = fs.getD j zf) (hk : f.kind = 1) (ht : f.text.size ≤ 16) :
    Calls Tryz.prog 77 #[ptr o.wb, ptr db, fldV f] w fun e w' => KW w o top L k db fs u j st0 d (wtext f σ) e w' := by
  refine (wr_literal h (ptr db) f ht).mono ?_
  rintro e w5 ⟨hs, h5⟩
  have hd5 := (hd.step hs).skip_ hj (by rw [← hf, hk]; decide)
  unfold wtext
  rcases hr : addW σ f.text.data.toList with _ | σ1
  all_goals rw [hr] at h5
  · exact ⟨hd.wide hs, h5⟩
  · exact ⟨hd.wide hs, h5.1, h5.2, _, hd5⟩
set_option maxRecDepth 20000 in
set_option maxHeartbeats 600000 in
theorem kw_number (h : WrAt w o top L σ k) (hd : DrAt w o top db fs u j st0 d cs) (hj : d.counts.length = j) (h16 : j < 16) (f1 : 1 ≤ f.n) (f3 : f.n ≤ 3) :
    Calls Tryz.prog 78 #[ptr o.wb, ptr db, fldV f] w fun e w' => KW w o top L k db fs u j st0 d (if waits fs j then wwait f σ else wgiven f σ) e w' := by
  obtain ⟨RR, hRR⟩ : ∃ RR, RR = (if waits fs j then wwait f σ else wgiven f σ) := ⟨_, rfl⟩
  rw [← hRR]
  have HRR := Lib.hid hRR
  obtain ⟨WT, hWT⟩ : ∃ WT, WT = waits fs j := ⟨_, rfl⟩
  have hb := bx (w := w) (.cells (fldC f).toArray 56)
  obtain ⟨hs1, hn1, h1⟩ := h.below hb
  have hd1 := hd.step hs1
  have hcall := waits_of u fs db j _ hd1.flds hd1.c0 hd1.c1 hd1.safe.lt
  rw [← hWT] at hcall
  have HC := Lib.hid hcall
  have HBX := Lib.hid (box_cells w f)
  have HS := Lib.hid (And.intro hs1 (And.intro h1 (And.intro hd1 (And.intro hj hWT))))
  have HD := Lib.hid hd
  have hsf := hn1 w.heap.size (Nat.le_refl _) (by simp)
  have HSF := Lib.hid hsf
  have hj16 : (j : Int) < 16 := by omega
  have hlt : w.heap.size < (w.alloc (.cells (fldC f).toArray 56)).heap.size := by simp
  have HLT := Lib.hid hlt
  clear h hd hRR hWT hb hs1 hn1 h1 hd1 hcall hlt hj hsf
  go_enter Tryz.func78, Tryz.ntmps78
  go_wp2_with fail
  refine (HC.out).mono ?_
  rintro e w2 ⟨rfl, hb2⟩
  obtain ⟨hs2, -, h2⟩ := HS.out.2.1.below hb2
  have hd2 := HS.out.2.2.1.step hs2
  obtain ⟨y0, y1, y2, y3⟩ := HBX.out
  have z1 : w2.cell? ⟨w.heap.size, 1, none⟩ = some (.int .i64 f.n) := by rw [World.cell?_of_block (w := w.alloc (.cells (fldC f).toArray 56)) (hb2.block _ HLT.out)]; exact y1
  have dc1 := hd2.c1
  have lb2 : w.heap.size < w2.heap.size := Nat.lt_of_lt_of_le HLT.out hb2.size
  have HS2 := Lib.hid (hs2.safe _ HSF.out)
  have H2 := Lib.hid (And.intro (HS.out.1.trans hs2) (And.intro h2 hd2))
  clear hs2 h2 hd2 y0 y1 y2 y3 hb2
  cases WT with
  | true =>
    have hw4 := HS.out.2.2.2.2
    have HRW : Hid (RR = wwait f σ) := Lib.hid (by rw [HRR.out, if_pos hw4.symm])
    clear hw4
    go_wp2_with fail
    refine wp_region_held_drew (S := (fun W : World => W.cell? ⟨db, 1, none⟩ = some (.int .i64 (j : Nat)) ∧ W.cell? ⟨w.heap.size, 1, none⟩ = some (.int .i64 f.n))) (by kernel_rfl) ⟨dc1, z1⟩ (fun hHeld => ?_)
    refine takeH 0 (y := by intro wS hSw; obtain ⟨s0, s1⟩ := hSw; go_simp; (try with_reducible rfl)) (h := ?_)
    (try simp only [pA, pB, pC, pD])
    refine takeH 1 (y := by intro wS hSw; obtain ⟨s0, s1⟩ := hSw; go_simp; (try with_reducible rfl)) (h := ?_)
    (try simp only [pA, pB, pC, pD])
    refine takeH 2 (y := by intro wS hSw; obtain ⟨s0, s1⟩ := hSw; go_simp; (try with_reducible rfl)) (h := ?_)
    (try simp only [pA, pB, pC, pD])
    refine takeH 3 (y := by intro wS hSw; obtain ⟨s0, s1⟩ := hSw; go_simp; (try with_reducible rfl)) (h := ?_)
    (try simp only [pA, pB, pC, pD])
    refine takeH 4 (y := by intro wS hSw; obtain ⟨s0, s1⟩ := hSw; go_simp; (try with_reducible rfl)) (h := ?_)
    (try simp only [pA, pB, pC, pD])
    refine takeH 5 (y := by intro wS hSw; obtain ⟨s0, s1⟩ := hSw; go_simp; (try with_reducible rfl)) (h := ?_)
    (try simp only [pA, pB, pC, pD])
    refine takeH 6 (y := by intro wS hSw; obtain ⟨s0, s1⟩ := hSw; go_simp; (try with_reducible rfl)) (h := ?_)
    (try simp only [pA, pB, pC, pD])
    refine takeH 7 (y := by intro wS hSw; obtain ⟨s0, s1⟩ := hSw; go_simp; (try with_reducible rfl)) (h := ?_)
    (try simp only [pA, pB, pC, pD])
    refine takeH 9 (y := by intro wS hSw; obtain ⟨s0, s1⟩ := hSw; go_simp; (try with_reducible rfl)) (h := ?_)
    (try simp only [pA, pB, pC, pD])
    refine takeH 10 (y := by intro wS hSw; obtain ⟨s0, s1⟩ := hSw; go_simp; (try with_reducible rfl)) (h := ?_)
    (try simp only [pA, pB, pC, pD])
    refine wpAnyH_ready (rs := [8]) (by kernel_rfl) (by simp) ?_
    refine AllReadyH.cons (o := ?oB11) ?hB11 ?kB11 AllReadyH.nil
    case hB11 => (simp only [List.getElem?_toArray, List.getElem?_cons_zero, List.getElem?_cons_succ]; rfl)
    case kB11 =>
      intro K hK
      go_simp
      obtain ⟨t1, -, t3⟩ := H2.out.2.1.below (drewN_below w2 1)
      refine (leave_any t3 f.n f.n.toNat (by omega) (by omega)).mono ?_
      rcases hr : addW σ (List.replicate f.n.toNat 0) with _ | σ1
      · rintro e w6 ⟨hs, rfl⟩
        exact ⟨rfl, KW.stop (by rw [HRW.out, wwait, hr]; rfl) (HD.out.wide (H2.out.1.trans (t1.trans hs)))⟩
      · rintro e w6 ⟨hs, hw6, v, rfl, hl6⟩
        have HL6 := Lib.hid hl6
        obtain ⟨xa, ya, za, rfl, -⟩ := hl6
        have hd6 := H2.out.2.2.step (t1.trans hs)
        have hP := hd6.left_ hw6 HS.out.2.2.2.1 h16 HL6.out
        have hA := hd6.at_ (i := 16 + j) (by omega)
        rw [show 3 + (16 + j) = 19 + j by omega] at hP hA
        obtain ⟨⟨cv, d1⟩, dfr⟩ := hA
        have hne : w.heap.size ≠ db := by have := HD.out.safe.lt; omega
        have z6 : w6.cell? ⟨w.heap.size, 1, none⟩ = some (.int .i64 f.n) := by rw [World.cell?_of_block (w := w2) ((t1.trans hs).same HS2.out)]; exact z1
        have HY : Hid (KW w o top L k db fs u j st0 d RR (.returned (.tuple #[])) (w6.setCell ⟨db, 19 + j, none⟩ (.func (.func 110) #[] #[ptr xa, ptr ya, ptr za]))) := Lib.hid (KW.yes (p := (0, (σ.st.length, f.n.toNat), σ1)) (by rw [HRW.out, wwait, hr]; rfl) ((HD.out.wide (H2.out.1.trans (t1.trans hs))).trans hP.1) hP.2.1 hP.2.2)
        have z7 : (w6.setCell ⟨db, 19 + j, none⟩ (.func (.func 110) #[] #[ptr xa, ptr ya, ptr za])).cell? ⟨w.heap.size, 1, none⟩ = some (.int .i64 f.n) := by rw [World.cell?_of_block (w := w6) (Below.heap_setCell _ _ _ _ hne)]; exact z6
        have HZ7 := Lib.hid (And.intro hP.2.2.c1 z7)
        refine hK.out _ _ ⟨hd6.c1, z6⟩ (fun _ => ?_)
        clear hK K hP hd6 z7 z6 hs hw6 hr t1 t3
        (try simp only [pA, pB, pC, pD])
        refine takeH 11 (y := by intro wS hSw; obtain ⟨s0, s1⟩ := hSw; go_simp; (try with_reducible rfl)) (h := ?_)
        (try simp only [pA, pB, pC, pD])
        refine wpAnyH_ready (rs := [12]) (by kernel_rfl) (by simp) ?_
        refine AllReadyH.cons (o := ?oB13) ?hB13 ?kB13 AllReadyH.nil
        case hB13 => (simp only [List.getElem?_toArray, List.getElem?_cons_zero, List.getElem?_cons_succ]; rfl)
        case kB13 =>
          intro K hK
          go_simp
          refine hK.out _ _ HZ7.out (fun _ => ?_)
          clear hK K
          (try simp only [pA, pB, pC, pD])
          refine wpAnyH_done (by kernel_rfl) ?_ _
          go_wp2_with fail
          first | go_end0 | go_ret
          exact HY.out
  | false =>
    have hw4 := HS.out.2.2.2.2
    have HRW : Hid (RR = wgiven f σ) := Lib.hid (by rw [HRR.out, if_neg (by rw [← hw4]; decide)])
    have HWF := Lib.hid hw4
    clear hw4 dc1
    go_wp2_with fail
    refine (wnext_any H2.out.2.1).mono ?_
    rcases hv : nextW σ with _ | ⟨x, σ1⟩
    · rintro e w3 ⟨hs, rfl⟩
      exact ⟨rfl, KW.stop (by rw [HRW.out, wgiven, hv]; rfl) (HD.out.wide (H2.out.1.trans hs))⟩
    · rintro e w3 ⟨hs, rfl, hw3⟩
      have hd3 := H2.out.2.2.step hs
      have z3 : w3.cell? ⟨w.heap.size, 1, none⟩ = some (.int .i64 f.n) := by rw [World.cell?_of_block (w := w2) (hs.same HS2.out)]; exact z1
      have H3 := Lib.hid (And.intro (H2.out.1.trans hs) (And.intro hw3 (And.intro hd3 hv)))
      clear hs hw3 hd3 hv z1
      by_cases hsz : (x.size : Int) = f.n
      · have hdq : ((x.size : Int) == f.n) = true := by simp [hsz]
        have hx3 : x.size ≤ 3 := by omega
        have HSZ := Lib.hid hsz
        clear hsz
        go_wp2_with fail
        refine (require_yes _).mono ?_
        rintro e w4 ⟨rfl, rfl⟩
        clear hdq z3
        go_wp2_with fail
        refine (wadd_any H3.out.2.1 x (by omega)).mono ?_
        rcases hr : addW σ1 x.data.toList with _ | σ2
        · rintro e w5 ⟨hs, rfl⟩
          exact ⟨rfl, KW.stop (by rw [HRW.out, wgiven, H3.out.2.2.2]; show (if _ then _ else _) = none; rw [if_pos HSZ.out, hr]; rfl) (HD.out.wide (H3.out.1.trans hs))⟩
        · rintro e w5 ⟨hs, rfl, hw5⟩
          obtain ⟨t1, -, t3⟩ := hw5.below (drewN_below w5 1)
          have hd5 := H3.out.2.2.1.step (hs.trans t1)
          have hP := hd5.given_ t3 HS.out.2.2.2.1 h16 (num x) HWF.out.symm
          obtain ⟨⟨cv, d1⟩, dfr⟩ := hd5.at_ (i := j) (by omega)
          have HY : Hid (KW w o top L k db fs u j st0 d RR (.returned (.tuple #[])) ((w5.drewN 1).setCell ⟨db, 3 + j, none⟩ (.int .i64 (num x)))) := Lib.hid (KW.yes (p := (num x, (0, 0), σ2)) (by rw [HRW.out, wgiven, H3.out.2.2.2]; show (if _ then _ else _) = _; rw [if_pos HSZ.out, hr]; rfl) ((HD.out.wide (H3.out.1.trans (hs.trans t1))).trans hP.1) hP.2.1 hP.2.2)
          have HZ7 := Lib.hid hP.2.2.c1
          have dc1 := (H3.out.2.2.1.step hs).c1
          have HD5 := Lib.hid hd5
          clear hP hs hw5 hr t1 t3 hd5
          go_wp2_with fail
          refine wp_region_held_drew (S := (fun W : World => W.cell? ⟨db, 1, none⟩ = some (.int .i64 (j : Nat)))) (by kernel_rfl) HD5.out.c1 (fun hHeld => ?_)
          refine takeH 0 (y := by intro wS hSw; have s0 := hSw; go_simp; (try with_reducible rfl)) (h := ?_)
          (try simp only [pA, pB, pC, pD])
          refine takeH 1 (y := by intro wS hSw; have s0 := hSw; go_simp; (try with_reducible rfl)) (h := ?_)
          (try simp only [pA, pB, pC, pD])
          refine takeH 2 (y := by intro wS hSw; have s0 := hSw; go_simp; (try with_reducible rfl)) (h := ?_)
          (try simp only [pA, pB, pC, pD])
          refine takeH 3 (y := by intro wS hSw; have s0 := hSw; go_simp; (try with_reducible rfl)) (h := ?_)
          (try simp only [pA, pB, pC, pD])
          refine takeH 4 (y := by intro wS hSw; have s0 := hSw; go_simp; (try with_reducible rfl)) (h := ?_)
          (try simp only [pA, pB, pC, pD])
          refine takeH 5 (y := by intro wS hSw; have s0 := hSw; go_simp; (try with_reducible rfl)) (h := ?_)
          (try simp only [pA, pB, pC, pD])
          refine takeH 7 (y := by intro wS hSw; have s0 := hSw; go_simp; (try with_reducible rfl)) (h := ?_)
          (try simp only [pA, pB, pC, pD])
          refine takeH 8 (y := by intro wS hSw; have s0 := hSw; go_simp; (try with_reducible rfl)) (h := ?_)
          (try simp only [pA, pB, pC, pD])
          refine wpAnyH_ready (rs := [6]) (by kernel_rfl) (by simp) ?_
          refine AllReadyH.cons (o := ?oB22) ?hB22 ?kB22 AllReadyH.nil
          case hB22 => (simp only [List.getElem?_toArray, List.getElem?_cons_zero, List.getElem?_cons_succ]; rfl)
          case kB22 =>
            intro K hK
            go_simp
            refine (number_any x (w5.drewN 1) hx3).mono ?_
            rintro e w6 ⟨rfl, rfl⟩
            refine hK.out _ _ HD5.out.c1 (fun _ => ?_)
            clear hK K
            (try simp only [pA, pB, pC, pD])
            refine takeH 9 (y := by intro wS hSw; have s0 := hSw; go_simp; (try with_reducible rfl)) (h := ?_)
            (try simp only [pA, pB, pC, pD])
            refine wpAnyH_ready (rs := [10]) (by kernel_rfl) (by simp) ?_
            refine AllReadyH.cons (o := ?oB24) ?hB24 ?kB24 AllReadyH.nil
            case hB24 => (simp only [List.getElem?_toArray, List.getElem?_cons_zero, List.getElem?_cons_succ]; rfl)
            case kB24 =>
              intro K hK
              go_simp
              refine hK.out _ _ HZ7.out (fun _ => ?_)
              clear hK K
              (try simp only [pA, pB, pC, pD])
              refine wpAnyH_done (by kernel_rfl) ?_ _
              go_wp2_with fail
              first | go_end0 | go_ret
              exact HY.out
      · have hdq : ((x.size : Int) == f.n) = false := by simp [hsz]
        have HSZ := Lib.hid hsz
        clear hsz
        go_wp2_with fail
        refine (require_no _).mono ?_
        rintro e w4 ⟨rfl, rfl⟩
        exact ⟨rfl, KW.stop (by rw [HRW.out, wgiven, H3.out.2.2.2]; show (if _ then _ else _) = none; rw [if_neg HSZ.out]) (HD.out.wide H3.out.1)⟩
end
end WrI
section WrJ
open Go.RowKit Fx Rec

def Room (fs : List Fld) (d : Dr) (n : Nat) : Prop := ∀ i, i < d.lens.length → waits fs i = true → (fs.getD i zf).kind = 2 → 1 ≤ (d.lens.getD i (0, 0)).2 ∧ (d.lens.getD i (0, 0)).2 ≤ 3 ∧ (d.lens.getD i (0, 0)).1 + (d.lens.getD i (0, 0)).2 ≤ n
def Short (l : List ByteArray) : Prop := ∀ x, x ∈ l → x.size ≤ 4611686018427387904
/-- A field whose length waits. -/
structure From (fs : List Fld) (d : Dr) (f : Fld) (q : Nat) : Prop where
  eq : f.frm = (q : Int)
  lt : q < d.lens.length
  wt : waits fs q = true
  k2 : (fs.getD q zf).kind = 2
  q16 : q < 16
section
variable {w w' : World} {o : Wo} {top db : Nat} {fs : List Fld} {u : Value} {j st0 : Nat} {d : Dr} {cs : List Value} {L : List Fm} {σ : Ws} {f : Fld} {r : Option Rec.Left}
theorem addW_st {σ σ1 : Ws} {b : List UInt8} (h : addW σ b = some σ1) : σ1 = { σ with st := σ.st ++ b } ∧ σ.st.length + b.length ≤ 65536 := by
  unfold addW at h
  split at h
  · cases h; exact ⟨rfl, by assumption⟩
  · cases h
theorem nextW_st {σ σ1 : Ws} {x : ByteArray} (h : nextW σ = some (x, σ1)) : σ.vals = x :: σ1.vals ∧ σ1.st = σ.st := by
  unfold nextW at h
  split at h
  · cases h
  · rename_i hv
    cases h
    exact ⟨hv, rfl⟩
set_option maxRecDepth 20000 in
set_option maxHeartbeats 600000 in
theorem kw_bytes (h : WrAt w o top L σ 0) (hd : DrAt w o top db fs u j st0 d cs) (hj : d.counts.length = j) (hf : f = fs.getD j zf) (hk : f.kind = 3) (hfr : f.frm = -1 ∨ ∃ q, From fs d f q) (hroom : Room fs d σ.st.length) (hsh : Short σ.vals) :
    Calls Tryz.prog 79 #[ptr o.wb, ptr db, fldV f] w fun e w' => KW w o top L 0 db fs u j st0 d (wbytes f d σ) e w' := by
  obtain ⟨RR, hRR⟩ : ∃ RR, RR = wbytes f d σ := ⟨_, rfl⟩
  rw [← hRR]
  have HRR := Lib.hid hRR
  have hb := bx (w := w) (.cells (fldC f).toArray 56)
  obtain ⟨hs1, hn1, h1⟩ := h.below hb
  have hd1 := hd.step hs1
  have HBX := Lib.hid (box_cells w f)
  have hnk : (fs.getD j zf).kind ≠ 2 := by rw [← hf, hk]; decide
  have HS := Lib.hid (And.intro hs1 (And.intro h1 (And.intro hd1 (And.intro hj hnk))))
  have HD := Lib.hid hd
  have HSF := Lib.hid (hn1 w.heap.size (Nat.le_refl _) (by simp))
  have HP := Lib.hid (And.intro hfr (And.intro hroom hsh))
  clear h hd hRR hb hs1 hn1 h1 hd1 hj hf hk hnk hfr hroom hsh
  go_enter Tryz.func79, Tryz.ntmps79
  go_wp2_with fail
  refine (wnext_any HS.out.2.1).mono ?_
  rcases hv : nextW σ with _ | ⟨x, σ1⟩
  · rintro e w3 ⟨hs, rfl⟩
    exact ⟨rfl, KW.stop (by rw [HRR.out, wbytes, hv]; rfl) (HD.out.wide (HS.out.1.trans hs))⟩
  · rintro e w3 ⟨hs, rfl, hw3⟩
    have H3 := Lib.hid (And.intro (HS.out.1.trans hs) (And.intro hw3 (And.intro (HS.out.2.2.1.step hs) (And.intro hv (hs.safe _ HSF.out)))))
    have HB3 := Lib.hid (hs.same HSF.out)
    clear hs hw3 hv
    have hxs : x.size ≤ 4611686018427387904 := HP.out.2.2 x (by rw [(nextW_st H3.out.2.2.2.1).1]; exact List.mem_cons_self)
    go_wp2_with fail
    refine (wadd_any H3.out.2.1 x hxs).mono ?_
    rcases hr : addW σ1 x.data.toList with _ | σ2
    · rintro e w5 ⟨hs, rfl⟩
      exact ⟨rfl, KW.stop (by rw [HRR.out, wbytes, H3.out.2.2.2.1]; show (addW σ1 x.data.toList).bind _ = none; rw [hr]; rfl) (HD.out.wide (H3.out.1.trans hs))⟩
    · rintro e w5 ⟨hs, rfl, hw5⟩
      have hst := addW_st hr
      have hxl : x.data.toList.length = x.size := by simp
      have hx9 : x.size ≤ 65536 := by omega
      have hb5 : w5.heap[w.heap.size]? = (w.alloc (.cells (fldC f).toArray 56)).heap[w.heap.size]? := (hs.same H3.out.2.2.2.2).trans HB3.out
      obtain ⟨y0, y1, y2, y3⟩ := HBX.out
      have z1 : w5.cell? ⟨w.heap.size, 1, none⟩ = some (.int .i64 f.n) := by rw [World.cell?_of_block (w := w.alloc (.cells (fldC f).toArray 56)) hb5]; exact y1
      have z2 : w5.cell? ⟨w.heap.size, 2, none⟩ = some (.int .i64 f.frm) := by rw [World.cell?_of_block (w := w.alloc (.cells (fldC f).toArray 56)) hb5]; exact y2
      have HRR5 : Hid (RR = if f.frm = -1 then (if (x.size : Int) = f.n then some (left0 σ2) else none) else (fill σ2 (d.lens.getD f.frm.toNat (0, 0)) x.size).map left0) := Lib.hid (by rw [HRR.out, wbytes, H3.out.2.2.2.1]; show (addW σ1 x.data.toList).bind _ = _; rw [hr]; rfl)
      have H5 := Lib.hid (And.intro (H3.out.1.trans hs) (And.intro hw5 (And.intro (H3.out.2.2.1.step hs) (hst))))
      have HS5 := Lib.hid (hs.safe _ H3.out.2.2.2.2)
      have HSK := Lib.hid ((H3.out.2.2.1.step hs).skip_ HS.out.2.2.2.1 HS.out.2.2.2.2)
      clear hs hw5 hr hst hb5 y0 y1 y2 y3 hxl
      by_cases hfm : f.frm = -1
      · have hdq : (f.frm == -1) = true := by simp [hfm]
        have HFM := Lib.hid hfm
        clear hfm
        by_cases hsz : (x.size : Int) = f.n
        · have hdz : ((x.size : Int) == f.n) = true := by simp [hsz]
          have HY : Hid (KW w o top L 0 db fs u j st0 d RR (.returned (.tuple #[])) w5) := Lib.hid (KW.yes (p := left0 σ2) (by rw [HRR5.out, if_pos HFM.out, if_pos hsz]) (HD.out.wide H5.out.1) H5.out.2.1 HSK.out)
          clear hsz
          go_wp2_with fail
          refine (require_yes _).mono ?_
          rintro e w6 ⟨rfl, rfl⟩
          go_wp2_with fail
          first | go_end0 | go_ret
          exact HY.out
        · have hdz : ((x.size : Int) == f.n) = false := by simp [hsz]
          have HY : Hid (KW w o top L 0 db fs u j st0 d RR (Stops zRf) w5) := Lib.hid (KW.stop (by rw [HRR5.out, if_pos HFM.out, if_neg hsz]) (HD.out.wide H5.out.1))
          clear hsz
          go_wp2_with fail
          refine (require_no _).mono ?_
          rintro e w6 ⟨rfl, rfl⟩
          exact ⟨rfl, HY.out⟩
      · obtain ⟨q, hq⟩ : ∃ q, From fs d f q := HP.out.1.resolve_left hfm
        have hdq : (f.frm == -1) = false := by simp [hfm]
        have hq16 : (q : Int) < 16 := by have := hq.q16; omega
        rw [hq.eq] at z2
        obtain ⟨v, hv1, hv2⟩ := H5.out.2.2.1.lens q hq.lt hq.wt hq.k2
        have z3 : w5.cell? ⟨db, 19 + q, none⟩ = some v := by
          have := H5.out.2.2.1.cell (16 + q)
          rw [show 3 + (16 + q) = 19 + q by omega] at this
          rw [this]; exact hv1
        have hR := HP.out.2.1 q hq.lt hq.wt hq.k2
        obtain ⟨am, ham⟩ : ∃ am, am = d.lens.getD q (0, 0) := ⟨_, rfl⟩
        rw [← ham] at hR hv2
        have HRR6 : Hid (RR = (fill σ2 am x.size).map left0) := Lib.hid (by rw [HRR5.out, if_neg hfm, hq.eq, Int.toNat_natCast, ham])
        have HQ := Lib.hid (And.intro hq (And.intro hv2 hR))
        obtain ⟨xa, ya, za, rfl, -⟩ := hv2
        clear hfm hq hv1 hR ham
        go_wp2_with fail
        refine wp_region_held_drew (S := (fun W : World => W.cell? ⟨w.heap.size, 2, none⟩ = some (.int .i64 (q : Nat)) ∧ W.cell? ⟨db, 19 + q, none⟩ = some (.func (.func 110) #[] #[ptr xa, ptr ya, ptr za]))) (by kernel_rfl) ⟨z2, z3⟩ (fun hHeld => ?_)
        refine takeH 0 (y := by intro wS hSw; obtain ⟨s0, s1⟩ := hSw; go_simp; (try with_reducible rfl)) (h := ?_)
        (try simp only [pA, pB, pC, pD])
        refine takeH 1 (y := by intro wS hSw; obtain ⟨s0, s1⟩ := hSw; go_simp; (try with_reducible rfl)) (h := ?_)
        (try simp only [pA, pB, pC, pD])
        refine takeH 2 (y := by intro wS hSw; obtain ⟨s0, s1⟩ := hSw; go_simp; (try with_reducible rfl)) (h := ?_)
        (try simp only [pA, pB, pC, pD])
        refine takeH 3 (y := by intro wS hSw; obtain ⟨s0, s1⟩ := hSw; go_simp; (try with_reducible rfl)) (h := ?_)
        (try simp only [pA, pB, pC, pD])
        refine takeH 4 (y := by intro wS hSw; obtain ⟨s0, s1⟩ := hSw; go_simp; (try with_reducible rfl)) (h := ?_)
        (try simp only [pA, pB, pC, pD])
        refine takeH 5 (y := by intro wS hSw; obtain ⟨s0, s1⟩ := hSw; go_simp; (try with_reducible rfl)) (h := ?_)
        (try simp only [pA, pB, pC, pD])
        refine takeH 6 (y := by intro wS hSw; obtain ⟨s0, s1⟩ := hSw; go_simp; (try with_reducible rfl)) (h := ?_)
        (try simp only [pA, pB, pC, pD])
        refine takeH 7 (y := by intro wS hSw; obtain ⟨s0, s1⟩ := hSw; go_simp; (try with_reducible rfl)) (h := ?_)
        (try simp only [pA, pB, pC, pD])
        refine takeH 8 (y := by intro wS hSw; obtain ⟨s0, s1⟩ := hSw; go_simp; (try with_reducible rfl)) (h := ?_)
        (try simp only [pA, pB, pC, pD])
        refine wpAnyH_ready (rs := [9]) (by kernel_rfl) (by simp) ?_
        refine AllReadyH.cons (o := ?oB10) ?hB10 ?kB10 AllReadyH.nil
        case hB10 => (simp only [List.getElem?_toArray, List.getElem?_cons_zero, List.getElem?_cons_succ]; rfl)
        case kB10 =>
          intro K hK
          go_simp
          obtain ⟨t1, -, t3⟩ := H5.out.2.1.below (drewN_below w5 1)
          have hs12 := H5.out.2.2.2
          refine (laid_any (a := am.1) (m := am.2) t3 (HQ.out.2.1.step t1) HQ.out.2.2.1 HQ.out.2.2.2.1 (by rw [hs12.1, show ({ σ1 with st := σ1.st ++ x.data.toList } : Ws).st = σ1.st ++ x.data.toList from rfl, List.length_append, (nextW_st H3.out.2.2.2.1).2]; have := HQ.out.2.2.2.2; omega) (Nat.zero_le _) x.size (by omega) (by omega)).mono ?_
          have hd6 := H5.out.2.2.1.step t1
          rcases hr : fill σ2 (am.1, am.2) x.size with _ | σ3
          · rintro e w6 ⟨hs, rfl⟩
            exact ⟨rfl, KW.stop (by rw [HRR6.out, show fill σ2 am x.size = none from hr]; rfl) (HD.out.wide (H5.out.1.trans (t1.trans hs)))⟩
          · rintro e w6 ⟨hs, rfl, hw6⟩
            have HY : Hid (KW w o top L 0 db fs u j st0 d RR (.returned (.tuple #[])) w6) := Lib.hid (KW.yes (p := left0 σ3) (by rw [HRR6.out, show fill σ2 am x.size = some σ3 from hr]; rfl) (HD.out.wide (H5.out.1.trans (t1.trans hs))) hw6 ((HSK.out.step t1).step hs))
            have z6 : w6.cell? ⟨w.heap.size, 2, none⟩ = some (.int .i64 (q : Nat)) := by rw [World.cell?_of_block (w := w5) ((t1.trans hs).same HS5.out)]; exact z2
            have z7 : w6.cell? ⟨db, 19 + q, none⟩ = some (.func (.func 110) #[] #[ptr xa, ptr ya, ptr za]) := by rw [World.cell?_of_block (w := w5) ((t1.trans hs).same H5.out.2.2.1.safe)]; exact z3
            refine hK.out _ _ ⟨z6, z7⟩ (fun _ => ?_)
            clear hK K hs hw6 hr t1 t3 hd6 hs12
            (try simp only [pA, pB, pC, pD])
            refine wpAnyH_done (by kernel_rfl) ?_ _
            go_wp2_with fail
            first | go_end0 | go_ret
            exact HY.out
end
end WrJ
section WrK
open Go.RowKit Fx Rec

/-- What holds while values are written: they are not long, no field leaves more than one checksum, the checksums lie in the stream, one behind the other. -/
structure Tame (σ : Ws) : Prop where
  short : Short σ.vals
  cnt : σ.checks.length ≤ σ.parts
  each : ∀ c, c ∈ σ.checks → c.1 ≤ c.2.1 ∧ 1 ≤ c.2.2 ∧ c.2.2 ≤ 3 ∧ c.2.1 + c.2.2 ≤ σ.st.length
  ord : σ.checks.Pairwise fun a b => a.2.1 ≤ b.2.1
/-- Values are written as sub tells; the stream grows, what holds goes on holding. -/
structure WSubC (o : Wo) (top : Nat) (L : List Fm) (sub : WSub) (id : Int) : Prop where
  run : ∀ w σ, WrAt w o top L σ 0 → Tame σ → Calls Tryz.prog 83 #[ptr o.wb, .int .i64 id] w fun e w' => WPost w o top L 0 (sub id σ) e w'
  grows : ∀ σ σ', sub id σ = some σ' → Tame σ → σ.st.length ≤ σ'.st.length ∧ Tame σ'
section
variable {w w' : World} {o : Wo} {top db : Nat} {fs : List Fld} {u : Value} {j st0 : Nat} {d : Dr} {cs : List Value} {L : List Fm} {σ : Ws} {f : Fld} {r : Option Rec.Left} {sub : WSub}
set_option maxRecDepth 20000 in
set_option maxHeartbeats 600000 in
theorem kw_list (h : WrAt w o top L σ 0) (hd : DrAt w o top db fs u j st0 d cs) (hj : d.counts.length = j) (hf : f = fs.getD j zf) (hk : f.kind = 4) (q : Nat) (hq : f.frm = (q : Int)) (q16 : q < 16) (hc0 : ∀ i, 0 ≤ d.counts.getD i 0 ∧ d.counts.getD i 0 ≤ 16777215) (hsh : Tame σ) (hsub : WSubC o top L sub f.n) :
    Calls Tryz.prog 80 #[ptr o.wb, ptr db, fldV f] w fun e w' => KW w o top L 0 db fs u j st0 d (wlist sub f d σ) e w' := by
  obtain ⟨T, hT⟩ : ∃ T : Nat, T = (d.counts.getD q 0).toNat := ⟨_, rfl⟩
  have hcq := hc0 q
  have hTe : d.counts.getD q 0 = (T : Int) := by omega
  obtain ⟨RR, hRR⟩ : ∃ RR, RR = wlist sub f d σ := ⟨_, rfl⟩
  rw [← hRR]
  have HRR : Hid (RR = (wreps sub f.n T σ).map left0) := Lib.hid (by rw [hRR, wlist, hq, Int.toNat_natCast, ← hT])
  obtain ⟨W1, hW1⟩ : ∃ W1, W1 = w.alloc (.cells #[.int .i64 f.kind, .int .i64 f.n, .int .i64 f.frm, .string f.text] 56) := ⟨_, rfl⟩
  have hb : Below w.heap.size w W1 := by rw [hW1]; exact bx _
  have hsz : w.heap.size < W1.heap.size := by rw [hW1]; simp
  obtain ⟨hs1, hn1, h1⟩ := h.below hb
  have hd1 := hd.step hs1
  have hnk : (fs.getD j zf).kind ≠ 2 := by rw [← hf, hk]; decide
  have hbc := box_cells w f
  rw [← hW1] at hbc
  obtain ⟨y0, y1, y2, y3⟩ := hbc
  rw [hq] at y2
  have z3 : W1.cell? ⟨db, 3 + q, none⟩ = some (.int .i64 (T : Nat)) := by rw [hd1.cell q, hd1.cnt q q16, hTe]
  have hq16 : (q : Int) < 16 := by omega
  have hT9 : T ≤ 16777215 := by omega
  have HS := Lib.hid (And.intro hs1 (And.intro h1 (And.intro (hd1.skip_ hj hnk) (And.intro hsh (hn1 w.heap.size (Nat.le_refl _) hsz)))))
  have HD := Lib.hid hd
  have HY1 := Lib.hid y1
  have HSUB := Lib.hid hsub
  clear h hd hT hTe hRR hb hs1 hn1 h1 hd1 hnk hcq hc0 hj hf hk hq hsh hsub
  go_enter Tryz.func80, Tryz.ntmps80
  go_wp2_with fail
  rw [← hW1]
  clear hW1
  refine wp_region_held_drew (S := (fun W : World => W.cell? ⟨w.heap.size, 2, none⟩ = some (.int .i64 (q : Nat)) ∧ W.cell? ⟨db, 3 + q, none⟩ = some (.int .i64 (T : Nat)))) (by kernel_rfl) ⟨y2, z3⟩ (fun hHeld => ?_)
  refine takeH 0 (y := by intro wS hSw; obtain ⟨s0, s1⟩ := hSw; go_simp; (try with_reducible rfl)) (h := ?_)
  (try simp only [pA, pB, pC, pD])
  refine takeH 1 (y := by intro wS hSw; obtain ⟨s0, s1⟩ := hSw; go_simp; (try with_reducible rfl)) (h := ?_)
  (try simp only [pA, pB, pC, pD])
  refine takeH 2 (y := by intro wS hSw; obtain ⟨s0, s1⟩ := hSw; go_simp; (try with_reducible rfl)) (h := ?_)
  (try simp only [pA, pB, pC, pD])
  refine takeH 3 (y := by intro wS hSw; obtain ⟨s0, s1⟩ := hSw; go_simp; (try with_reducible rfl)) (h := ?_)
  (try simp only [pA, pB, pC, pD])
  refine takeH 4 (y := by intro wS hSw; obtain ⟨s0, s1⟩ := hSw; go_simp; (try with_reducible rfl)) (h := ?_)
  (try simp only [pA, pB, pC, pD])
  refine takeH 5 (y := by intro wS hSw; obtain ⟨s0, s1⟩ := hSw; go_simp; (try with_reducible rfl)) (h := ?_)
  (try simp only [pA, pB, pC, pD])
  refine takeH 6 (y := by intro wS hSw; obtain ⟨s0, s1⟩ := hSw; go_simp; (try with_reducible rfl)) (h := ?_)
  (try simp only [pA, pB, pC, pD])
  refine takeH 7 (y := by intro wS hSw; obtain ⟨s0, s1⟩ := hSw; go_simp; (try with_reducible rfl)) (h := ?_)
  (try simp only [pA, pB, pC, pD])
  refine wpAnyH_done (by kernel_rfl) ?_ _
  go_wp2_with fail
  clear y0 y1 y2 y3 z3
  go_loopw [13] (fun i wr => ∃ (n : Nat) (σ1 : Ws), n ≤ T ∧ i = .int .i64 n ∧ Hid (StepW o NoX W1 wr ∧ WrAt wr o top L σ1 0 ∧ Tame σ1 ∧ wreps sub f.n (T - n) σ1 = wreps sub f.n T σ)) (fun i _ => T - (intOf i).toNat)
  case atStart =>
    obtain ⟨t1, -, t3⟩ := HS.out.2.1.below (drewN_below W1 1)
    exact ⟨0, σ, Nat.zero_le _, rfl, Lib.hid ⟨t1, t3, HS.out.2.2.2.1, rfl⟩⟩
  case round =>
    obtain ⟨n, σ1, hn, rfl, HJ⟩ := hrel
    by_cases hlt : n < T
    · have hl2 : (n : Int) < (T : Int) := by omega
      have z1 : wr.cell? ⟨w.heap.size, 1, none⟩ = some (.int .i64 f.n) := by rw [World.cell?_of_block (w := W1) (HJ.out.1.same HS.out.2.2.2.2)]; exact HY1.out
      have hre : wreps sub f.n (T - n) σ1 = (sub f.n σ1).bind fun σ2 => wreps sub f.n (T - (n + 1)) σ2 := by
        obtain ⟨m, hm⟩ : ∃ m, T - n = m + 1 := ⟨T - n - 1, by omega⟩
        rw [hm, show T - (n + 1) = m by omega]; rfl
      have HRE := Lib.hid hre
      clear hre
      go_wp2_with fail
      refine (HSUB.out.run wr σ1 HJ.out.2.1 HJ.out.2.2.1).mono ?_
      rcases hr : sub f.n σ1 with _ | σ2
      · rintro e w5 ⟨hs, rfl⟩
        exact ⟨rfl, KW.stop (by rw [HRR.out, ← HJ.out.2.2.2, HRE.out, hr]; rfl) (HD.out.wide (HS.out.1.trans (HJ.out.1.trans hs)))⟩
      · rintro e w5 ⟨hs, rfl, hw5⟩
        have HK := Lib.hid (And.intro (HJ.out.1.trans hs) (And.intro hw5 (And.intro ((HSUB.out.grows _ _ hr HJ.out.2.2.1).2) (show wreps sub f.n (T - (n + 1)) σ2 = wreps sub f.n T σ by rw [← HJ.out.2.2.2, HRE.out, hr]; rfl))))
        clear hs hw5 hr
        go_wp2_with fail
        exact ⟨⟨n + 1, σ2, by omega, by go_num, HK⟩, by simp [intOf]; omega⟩
    · obtain rfl : n = T := by omega
      have HY : Hid (KW w o top L 0 db fs u j st0 d RR (.returned (.tuple #[])) wr) := Lib.hid (KW.yes (p := left0 σ1) (by rw [HRR.out, ← HJ.out.2.2.2, Nat.sub_self]; rfl) (HD.out.wide (HS.out.1.trans HJ.out.1)) HJ.out.2.1 (HS.out.2.2.1.step HJ.out.1))
      go_wp2_with fail
      first | go_end0 | go_ret
      exact HY.out
end
end WrK
section WrL
open Go.RowKit Fx Rec

section
variable {w w' : World} {o : Wo} {top db : Nat} {fs : List Fld} {u : Value} {j st0 : Nat} {d : Dr} {cs : List Value} {L : List Fm} {σ : Ws} {f : Fld} {r : Option Rec.Left} {sub : WSub} {k : Nat}
theorem WrAt.stream_ (h : WrAt w o top L σ k) : ∃ a c, w.cell? ⟨o.wb, 4, none⟩ = some (.slice a σ.st.length c) ∧ σ.st.length ≤ 65536 := by
  obtain ⟨hf, vv, vst, vch, vs, chs, hm⟩ := h
  obtain ⟨a, c, hvst, _⟩ := hm.slice_
  exact ⟨a, c, by rw [hm.blk.cell, hvst]; rfl, hm.len⟩
set_option maxRecDepth 20000 in
set_option maxHeartbeats 600000 in
theorem kw_inside (h : WrAt w o top L σ 0) (hd : DrAt w o top db fs u j st0 d cs) (hj : d.counts.length = j) (hf : f = fs.getD j zf) (hk : f.kind = 5) (q : Nat) (hq : From fs d f q) (hroom : Room fs d σ.st.length) (hsh : Tame σ) (hsub : WSubC o top L sub f.n) :
    Calls Tryz.prog 81 #[ptr o.wb, ptr db, fldV f] w fun e w' => KW w o top L 0 db fs u j st0 d (winside sub f d σ) e w' := by
  obtain ⟨am, ham⟩ : ∃ am, am = d.lens.getD q (0, 0) := ⟨_, rfl⟩
  have hR := hroom q hq.lt hq.wt hq.k2
  rw [← ham] at hR
  obtain ⟨RR, hRR⟩ : ∃ RR, RR = winside sub f d σ := ⟨_, rfl⟩
  rw [← hRR]
  have HRR : Hid (RR = (sub f.n σ).bind fun σ1 => (fill σ1 am ((σ1.st.length : Int) - σ.st.length)).map left0) := Lib.hid (by rw [hRR, winside, hq.eq, Int.toNat_natCast, ham])
  obtain ⟨W1, hW1⟩ : ∃ W1, W1 = w.alloc (.cells #[.int .i64 f.kind, .int .i64 f.n, .int .i64 f.frm, .string f.text] 56) := ⟨_, rfl⟩
  have hb : Below w.heap.size w W1 := by rw [hW1]; exact bx _
  have hsz : w.heap.size < W1.heap.size := by rw [hW1]; simp
  obtain ⟨hs1, hn1, h1⟩ := h.below hb
  have hd1 := hd.step hs1
  have hnk : (fs.getD j zf).kind ≠ 2 := by rw [← hf, hk]; decide
  have hbc := box_cells w f
  rw [← hW1] at hbc
  obtain ⟨y0, y1, y2, y3⟩ := hbc
  rw [hq.eq] at y2
  obtain ⟨v, hv1, hv2⟩ := hd1.lens q hq.lt hq.wt hq.k2
  rw [← ham] at hv2
  have z3 : W1.cell? ⟨db, 19 + q, none⟩ = some v := by
    have := hd1.cell (16 + q)
    rw [show 3 + (16 + q) = 19 + q by omega] at this
    rw [this]; exact hv1
  obtain ⟨sa, sc, c4, hle⟩ := h1.stream_
  obtain ⟨n0, hn0⟩ : ∃ n0 : Nat, n0 = σ.st.length := ⟨_, rfl⟩
  rw [← hn0] at c4 hle
  have hq16 : (q : Int) < 16 := by have := hq.q16; omega
  have HS := Lib.hid (And.intro hs1 (And.intro h1 (And.intro (hd1.skip_ hj hnk) (And.intro hsh (hn1 w.heap.size (Nat.le_refl _) hsz)))))
  have HS1 := Lib.hid hd1
  have HD := Lib.hid hd
  have HV := Lib.hid (And.intro hv2 (And.intro hR hn0))
  have HY2 := Lib.hid (And.intro y2 z3)
  have HSUB := Lib.hid hsub
  obtain ⟨xa, ya, za, rfl, -⟩ := hv2
  have c4x := c4
  have y1x := y1
  rw [hW1] at c4x y1x
  clear h hd ham hRR hb hs1 hn1 h1 hd1 hnk hj hf hk hq hsh hsub hv1 hR hroom hn0 z3 y2
  go_enter Tryz.func81, Tryz.ntmps81
  go_wp2_with fail
  rw [← hW1]
  clear hW1 c4x y1x
  refine (HSUB.out.run W1 σ HS.out.2.1 HS.out.2.2.2.1).mono ?_
  rcases hr : sub f.n σ with _ | σ1
  · rintro e w5 ⟨hs, rfl⟩
    exact ⟨rfl, KW.stop (by rw [HRR.out, hr]; rfl) (HD.out.wide (HS.out.1.trans hs))⟩
  · rintro e w5 ⟨hs, rfl, hw5⟩
    obtain ⟨sa5, sc5, c5, hle5⟩ := hw5.stream_
    obtain ⟨n5, hn5⟩ : ∃ n5 : Nat, n5 = σ1.st.length := ⟨_, rfl⟩
    rw [← hn5] at c5 hle5
    have hg := HSUB.out.grows _ _ hr HS.out.2.2.2.1
    have z2 : w5.cell? ⟨w.heap.size, 2, none⟩ = some (.int .i64 (q : Nat)) := by rw [World.cell?_of_block (w := W1) (hs.same HS.out.2.2.2.2)]; exact HY2.out.1
    have z3 : w5.cell? ⟨db, 19 + q, none⟩ = some (.func (.func 110) #[] #[ptr xa, ptr ya, ptr za]) := by rw [World.cell?_of_block (w := W1) (hs.same HS1.out.safe)]; exact HY2.out.2
    have hn05 : n0 ≤ n5 := by rw [HV.out.2.2, hn5]; exact hg.1
    have H5 := Lib.hid (And.intro (HS.out.1.trans hs) (And.intro hw5 (And.intro (HS.out.2.2.1.step hs) (And.intro hr (And.intro hn5 (HV.out.1.step hs))))))
    clear hs hw5 hr hg hn5 c4 y0 y1 y3
    go_wp2_with fail
    refine wp_region_T 14 (fun W : World => W.cell? ⟨w.heap.size, 2, none⟩ = some (.int .i64 (q : Nat)) ∧ W.cell? ⟨db, 19 + q, none⟩ = some (.func (.func 110) #[] #[ptr xa, ptr ya, ptr za]) ∧ W.cell? ⟨o.wb, 4, none⟩ = some (.slice sa5 n5 sc5)) (by kernel_rfl) ⟨z2, z3, c5⟩ (fun hHeld => ?_)
    refine anyT 0 (h := ?_)
    (try simp only [pA, pB, pC, pD])
    refine anyT 1 (h := ?_)
    (try simp only [pA, pB, pC, pD])
    refine takeT 2 (y := by intro wS hSw; obtain ⟨s0, s1, s2⟩ := hSw; go_simp; (try with_reducible rfl)) (h := ?_)
    (try simp only [pA, pB, pC, pD])
    refine anyT 3 (h := ?_)
    (try simp only [pA, pB, pC, pD])
    refine anyT 4 (h := ?_)
    (try simp only [pA, pB, pC, pD])
    refine takeT 5 (y := by intro wS hSw; obtain ⟨s0, s1, s2⟩ := hSw; go_simp; (try with_reducible rfl)) (h := ?_)
    (try simp only [pA, pB, pC, pD])
    refine takeT 6 (y := by intro wS hSw; obtain ⟨s0, s1, s2⟩ := hSw; go_simp; (try with_reducible rfl)) (h := ?_)
    (try simp only [pA, pB, pC, pD])
    refine anyT 7 (h := ?_)
    (try simp only [pA, pB, pC, pD])
    refine anyT 8 (h := ?_)
    (try simp only [pA, pB, pC, pD])
    refine anyT 9 (h := ?_)
    (try simp only [pA, pB, pC, pD])
    refine takeT 10 (y := by intro wS hSw; obtain ⟨s0, s1, s2⟩ := hSw; go_simp; (try with_reducible rfl)) (h := ?_)
    (try simp only [pA, pB, pC, pD])
    refine takeT 11 (y := by intro wS hSw; obtain ⟨s0, s1, s2⟩ := hSw; go_simp; (try with_reducible rfl)) (h := ?_)
    (try simp only [pA, pB, pC, pD])
    refine anyT 12 (h := ?_)
    (try simp only [pA, pB, pC, pD])
    refine takeT 13 (y := by intro wS hSw; obtain ⟨s0, s1, s2⟩ := hSw; go_simp; (try with_reducible rfl)) (h := ?_)
    (try simp only [pA, pB, pC, pD])
    refine wpAnyT_ready (rs := [14]) (by kernel_rfl) (by simp) ?_
    refine AllReadyT.cons (o := ?oB23) ?hB23 ?kB23 AllReadyT.nil
    case hB23 => (simp only [List.getElem?_toArray, List.getElem?_cons_zero, List.getElem?_cons_succ]; rfl)
    case kB23 =>
      intro K hK
      go_simp
      obtain ⟨t1, -, t3⟩ := H5.out.2.1.below (drewN_below w5 1)
      have e5 : IntKind.i64.wrap ((n5 : Int) - (n0 : Int)) = (n5 : Int) - (n0 : Int) := wr64 (by omega) (by omega)
      rw [e5]
      have hA := HV.out.2.1
      have hB := H5.out.2.2.2.2.1
      have hC := HV.out.2.2
      refine (laid_any (a := am.1) (m := am.2) t3 (H5.out.2.2.2.2.2.step t1) hA.1 hA.2.1 (by omega) (Nat.zero_le _) ((n5 : Int) - (n0 : Int)) (by omega) (by omega)).mono ?_
      rcases hr : fill σ1 (am.1, am.2) ((n5 : Int) - (n0 : Int)) with _ | σ3
      · rintro e w6 ⟨hs, rfl⟩
        exact ⟨rfl, KW.stop (by rw [HRR.out, H5.out.2.2.2.1]; show (fill σ1 am ((σ1.st.length : Int) - σ.st.length)).map left0 = none; rw [← hB, ← hC, show fill σ1 am ((n5 : Int) - (n0 : Int)) = none from hr]; rfl) (HD.out.wide (H5.out.1.trans (t1.trans hs)))⟩
      · rintro e w6 ⟨hs, rfl, hw6⟩
        have HY : Hid (KW w o top L 0 db fs u j st0 d RR (.returned (.tuple #[])) w6) := Lib.hid (KW.yes (p := left0 σ3) (by rw [HRR.out, H5.out.2.2.2.1]; show (fill σ1 am ((σ1.st.length : Int) - σ.st.length)).map left0 = _; rw [← hB, ← hC, show fill σ1 am ((n5 : Int) - (n0 : Int)) = some σ3 from hr]; rfl) (HD.out.wide (H5.out.1.trans (t1.trans hs))) hw6 ((H5.out.2.2.1.step t1).step hs))
        refine hK.out _ _ (no_more (by kernel_rfl)) ?_
        clear hK K hs hw6 hr t1 t3 hA hB hC
        (try simp only [pA, pB, pC, pD])
        refine wpAnyT_done (by kernel_rfl) ?_ _
        go_wp2_with fail
        first | go_end0 | go_ret
        exact HY.out
end
end WrL
section WrM
open Go.RowKit Fx Rec

theorem infoFn : (Tryz.prog.info? 1).map (fun i => (i.zero, i.size, i.bytes)) = some (some .nilFunc, 1, 8) := by kernel_rfl
theorem run_append_fn (w : World) (ty : TypeId) (v : Value) (n : Nat) (xs : List Value) (hown : w.ownsRow 0 1 1 v n xs) (hn : n ≤ 1000000) (g : Nat) (fn : Fn) (ra ca : Array Value) (hg : w.heap[g]? = some (.cells #[.func fn ra ca] 1 (0, 0))) :
    ∃ v' w', (Builtin.append_ #[120, 120] ty #[v, .slice (some ⟨g, 0, none⟩) 1 1]).run Tryz.prog w = .ok v' w' ∧ Grew w w' 0 1 1 v v' (n + 1) (xs ++ [.func fn ra ca]) := by
  obtain ⟨i0, hi, hz0, hz1, hz2⟩ := info_parts infoFn
  obtain ⟨v', w', h1, h2, h3, _, h5⟩ := run_append_own_at (P := Tryz.prog) w 0 120 ty 1 i0 _ 1 8 Tryz.underlying120 hi hz0 hz1 hz2 rfl (by decide) v n xs hown ⟨g, 0, none⟩ 1 1 [.func fn ra ca] rfl
    (fun j u hu => by
      have hadd : (⟨g, 0, none⟩ : Addr).add j = ⟨g, j, none⟩ := by unfold Addr.add; split <;> simp_all
      rw [hadd, cell_of_row w g j _ _ _ hg]; simpa using hu)
    (fun u hu => by simp at hu; subst hu; rfl) (by unfold maxLen; omega) (by omega) (Nat.zero_le _)
  exact ⟨v', w', h1, h2, h3, h5⟩
section
variable {o : Wo} {w W w1 : World} {top : Nat} {L : List Fm} {σ : Ws} {k : Nat} {vv vst vch vs : Value} {chs : List Value}
/-- A checksum to come has been put behind the others. -/
theorem WrMut.checked (hm : WrMut w o top σ k vv vst vch vs chs) (hb : Below w.heap.size w W) {v1 fv : Value} {c : Nat × Nat × Nat} (hc : ChkAt W o fv c)
    (hG : Grew W w1 0 1 1 vch v1 (σ.checks.length + 1) (chs ++ [fv])) :
    (w1.cell? ⟨o.wb, 6, none⟩ = some vch ∧ w1.frozen? ⟨o.wb, 6, none⟩ = false) ∧ StepW o NoX w (w1.setCell ⟨o.wb, 6, none⟩ v1) ∧ WrMut (w1.setCell ⟨o.wb, 6, none⟩ v1) o top { σ with checks := σ.checks ++ [c] } k vv vst v1 vs (chs ++ [fv]) := by
  obtain ⟨hs0, -, hW⟩ := hm.below hb
  have hg := hG.grown
  have G : ∀ q, q < W.heap.size → vch.ownBlock ≠ some q → w1.heap[q]? = W.heap[q]? := fun q hq hne => hg.block q hq (fun e => hne e.symm)
  have hblk1 : Blk w1 o.wb 122 _ := (G _ hW.blk.lt hW.ch_wb).trans hW.blk
  have hsb1 : Blk w1 o.sb 24 _ := (G _ hW.sums.sb.lt (own_blk_ne hW.ch hW.sums.sb (by decide))).trans hW.sums.sb
  have E : ∀ q, q ≠ o.wb → (w1.setCell ⟨o.wb, 6, none⟩ v1).heap[q]? = w1.heap[q]? := fun q hq => Below.heap_setCell _ _ _ _ hq
  have hblk2 : Blk (w1.setCell ⟨o.wb, 6, none⟩ v1) o.wb 122 #[.map (some o.fb), .map (some o.kb), vv, .int .i64 (σ.parts : Nat), vst, sumW o, v1] := hblk1.set_ 6 v1
  have sums : SumsAt (w1.setCell ⟨o.wb, 6, none⟩ v1) o.sb o.ab (atW o.xb) (sumTo (bytesOf σ.st)) k vs :=
    hW.sums.keep ((E _ hW.sb_wb).trans (G _ hW.sums.sb.lt (own_blk_ne hW.ch hW.sums.sb (by decide)))) ((E _ hW.ab_wb).trans (G _ hW.sums.ab.lt (own_blk_ne hW.ch hW.sums.ab (by decide))))
      fun g hgg => (E g fun e => hW.vs_wb (e ▸ hgg)).trans (G g (own_lt hW.sums.row hgg) fun e => own_own_ne hW.ch hW.sums.row (by decide) e hgg rfl)
  have hk : Kept (Safe W o) W (w1.setCell ⟨o.wb, 6, none⟩ v1) :=
    ((Kept.refl _ _).grown hg (fun q hq => hq.lt) (fun q hq hS => hS.no ((hW.own_ q).2 (.inr (.inr (.inr (.inl hq))))))).setCell hW.safe_wb _
  have hs1 : StepW o NoX W (w1.setCell ⟨o.wb, 6, none⟩ v1) := StepW.make hk fun q h => by
    rcases (own_iff hblk2 sums.sb q).1 h with h | h | h | h | h
    · exact .inl ((hW.own_ q).2 (.inl h))
    · exact .inl ((hW.own_ q).2 (.inr (.inl h)))
    · exact .inl ((hW.own_ q).2 (.inr (.inr (.inl h))))
    · rcases hG.blk with hb' | hb'
      · exact .inl ((hW.own_ q).2 (.inr (.inr (.inr (.inl (hb' ▸ h))))))
      · rw [hb'] at h
        cases h
        exact .inr (Nat.le_refl _)
    · exact .inl ((hW.own_ q).2 (.inr (.inr (.inr (.inr h)))))
  refine ⟨⟨by rw [hblk1.cell]; rfl, hblk1.frozen 6⟩, hs0.trans hs1, { hW with blk := hblk2, vals := hW.vals.step fun b h1 h2 => hs1.same (hW.sv b h1 h2).1, sv := fun b h1 h2 => ⟨hs1.safe _ (hW.sv b h1 h2).1, (hW.sv b h1 h2).2⟩, st := ?_, sums := sums, ch := ?_, chks := ?_ }⟩
  · exact own_keep hW.st fun g cur hgg hh => (E g fun e => hW.st_wb (e ▸ hgg)).trans (G g (lt_of_heap hh) fun e => own_own_ne hW.ch hW.st (by decide) e hgg rfl)
  · rw [List.length_append, List.length_singleton]
    exact own_keep hG.own fun g cur _ hh => E g (Blk.ne_ (t := 1) hh hblk1 (by decide))
  · have hcl : chs.length = σ.checks.length := by simpa using hW.ch.1
    intro i hi
    by_cases e : i < σ.checks.length
    · have h1 := (hW.chks i e).step hs1
      simp only [List.getD, List.getElem?_append_left e, List.getElem?_append_left (show i < chs.length by omega)]
      exact h1
    · have e2 : i = σ.checks.length := by
        have : (σ.checks ++ [c]).length = σ.checks.length + 1 := by simp
        have h9 : i < (σ.checks ++ [c]).length := hi
        omega
      subst e2
      have h1 := hc.step hs1
      simp only [List.getD, List.getElem?_concat_length, Option.getD_some]
      rw [← hcl, List.getElem?_concat_length]
      exact h1
end
end WrM
section WrN
open Go.RowKit Fx Rec

theorem step_append_fn {ops : Array Oper} {o : Oper} {a : Act} {w : World} {K : Act → World → Prop} {Q : Exit → Act → World → Prop} {E : Prop}
    (hg : o.guard = none) (s x : Operand) (hop : o.op = Op.call { callee := Callee.builtin Builtin.append, args := #[s, x], argTypes := #[120, 120] })
    (v : Value) (n : Nat) (xs : List Value) (hs : a.eval s = v) (hown : w.ownsRow 0 1 1 v n xs) (hn : n ≤ 1000000) (g : Nat) (fn : Fn) (ra ca : Array Value) (hx : a.eval x = .slice (some ⟨g, 0, none⟩) 1 1)
    (hb : w.heap[g]? = some (.cells #[.func fn ra ca] 1 (0, 0)))
    (hK : ∀ v' w', Grew w w' 0 1 1 v v' (n + 1) (xs ++ [.func fn ra ca]) → K (a.put o.dst v') w') :
    if Region.wanted o (yielded ops a.tmps) = true then Oper.wp Tryz.prog o a w K Q else E := by
  have hw : Region.wanted o (yielded ops a.tmps) = true := by simp [Region.wanted, hg]
  rw [if_pos hw]
  obtain ⟨v', w', hr, h2⟩ := run_append_fn w o.type v n xs hown hn g fn ra ca hb
  unfold Oper.wp
  simp [execOp, hop, resolve, invoke, builtin, hs, hx, hr, Result.andThen]
  exact hK _ _ h2
section
variable {w w' : World} {o : Wo} {top db : Nat} {fs : List Fld} {u : Value} {j st0 : Nat} {d : Dr} {cs : List Value} {L : List Fm} {σ : Ws} {f : Fld} {r : Option Rec.Left} {k : Nat}
set_option maxRecDepth 20000 in
set_option maxHeartbeats 600000 in
theorem kw_check (h : WrAt w o top L σ k) (hd : DrAt w o top db fs u j st0 d cs) (hj : d.counts.length = j) (hf : f = fs.getD j zf) (hk : f.kind = 6) (f1 : 1 ≤ f.n) (f3 : f.n ≤ 3) (hcn : σ.checks.length ≤ 5000) :
    Calls Tryz.prog 82 #[ptr o.wb, ptr db, fldV f] w fun e w' => KW w o top L k db fs u j st0 d (wcheck f st0 σ) e w' := by
  obtain ⟨RR, hRR⟩ : ∃ RR, RR = wcheck f st0 σ := ⟨_, rfl⟩
  rw [← hRR]
  have HRR := Lib.hid hRR
  obtain ⟨sa, sc, c4, hle⟩ := h.stream_
  obtain ⟨n, hn⟩ : ∃ n : Nat, n = σ.st.length := ⟨_, rfl⟩
  rw [← hn] at c4 hle
  obtain ⟨W1, hW1⟩ : ∃ W1, W1 = ((w.alloc (.cells #[ptr o.wb] 90)).alloc (.cells #[ptr db] 147)).alloc (.cells #[.int .i64 f.kind, .int .i64 f.n, .int .i64 f.frm, .string f.text] 56) := ⟨_, rfl⟩
  have hlw : o.wb < w.heap.size := by
    obtain ⟨_, _, _, _, _, _, hm⟩ := h
    exact hm.blk.lt
  have hb1 : Below w.heap.size w W1 := by
    rw [hW1]
    exact ((bx _).trans ((bx _).mono (by simp))).trans ((bx _).mono (by simp; omega))
  have hs3 : W1.heap.size = w.heap.size + 3 := by rw [hW1]; simp
  have q0 : Blk W1 w.heap.size 90 #[ptr o.wb] := by
    rw [hW1]
    exact (heap_alloc_old _ _ (by simp; omega)).trans ((heap_alloc_old _ _ (by simp)).trans (Blk.new w _ _))
  have q1 : Blk W1 (w.heap.size + 1) 147 #[ptr db] := by
    rw [hW1]
    have := Blk.new (w.alloc (.cells #[ptr o.wb] 90)) 147 #[ptr db]
    simp only [World.size_alloc] at this
    exact (heap_alloc_old _ _ (by simp)).trans this
  have q2 : Blk W1 (w.heap.size + 1 + 1) 56 (fldC f).toArray := by
    rw [hW1]
    have := Blk.new ((w.alloc (.cells #[ptr o.wb] 90)).alloc (.cells #[ptr db] 147)) 56 (fldC f).toArray
    simpa [fldC] using this
  have c4x : W1.cell? ⟨o.wb, 4, none⟩ = some (.slice sa n sc) := by rw [World.cell?_of_block (w := w) (hb1.block _ hlw)]; exact c4
  rw [hW1] at c4x
  have HQ := Lib.hid (And.intro hb1 (And.intro hs3 (And.intro q0 (And.intro q1 q2))))
  clear hb1 hs3 q0 q1 q2
  have HH := Lib.hid (And.intro h (And.intro hd (And.intro hj (And.intro hf (And.intro hk (And.intro hn hcn))))))
  clear h hd hj hf hk hn hRR hcn
  go_enter Tryz.func82, Tryz.ntmps82
  go_wp2_with fail
  rw [← hW1]
  clear hW1 c4x
  obtain ⟨W2, hW2⟩ : ∃ W2, W2 = W1.alloc (.cells #[.int .i64 (n : Nat)] 3) := ⟨_, rfl⟩
  rw [← hW2]
  have hb2 : Below W1.heap.size W1 W2 := by rw [hW2]; exact bx _
  have q3 : Blk W2 (w.heap.size + 1 + 1 + 1) 3 #[.int .i64 (n : Nat)] := by
    have := Blk.new W1 3 #[.int .i64 (n : Nat)]
    rw [HQ.out.2.1] at this
    rw [hW2]; exact this
  have hs4 : W2.heap.size = w.heap.size + 4 := by rw [hW2]; simp [HQ.out.2.1]
  have hbw : Below w.heap.size w W2 := HQ.out.1.trans (hb2.mono (by rw [HQ.out.2.1]; omega))
  obtain ⟨t1, t2, t3⟩ := HH.out.1.below hbw
  have H2 := Lib.hid (And.intro t1 (And.intro t2 (And.intro t3 (And.intro hb2 (And.intro q3 hs4)))))
  clear t1 t2 t3 hb2 q3 hbw hW2
  refine (leave_any H2.out.2.2.1 f.n f.n.toNat (by omega) (by omega)).mono ?_
  rcases hr : addW σ (List.replicate f.n.toNat 0) with _ | σ1
  · rintro e w5 ⟨hs, rfl⟩
    exact ⟨rfl, KW.stop (by rw [HRR.out, wcheck, hr]; rfl) (HH.out.2.1.wide (H2.out.1.trans hs))⟩
  · rintro e w5 ⟨hs, hw5, v, rfl, hl5⟩
    have HL := Lib.hid hl5
    obtain ⟨xa, ya, za, rfl, -⟩ := hl5
    have k0 := H2.out.2.1 w.heap.size (Nat.le_refl _) (by omega)
    have k1 := H2.out.2.1 (w.heap.size + 1) (by omega) (by omega)
    have k2 := H2.out.2.1 (w.heap.size + 1 + 1) (by omega) (by omega)
    have k3 := H2.out.2.1 (w.heap.size + 1 + 1 + 1) (by omega) (by omega)
    have p0 : Blk w5 w.heap.size 90 #[ptr o.wb] := (hs.same k0).trans ((H2.out.2.2.2.1.block _ HQ.out.2.2.1.lt).trans HQ.out.2.2.1)
    have p1 : Blk w5 (w.heap.size + 1) 147 #[ptr db] := (hs.same k1).trans ((H2.out.2.2.2.1.block _ HQ.out.2.2.2.1.lt).trans HQ.out.2.2.2.1)
    have p2 : Blk w5 (w.heap.size + 1 + 1) 56 (fldC f).toArray := (hs.same k2).trans ((H2.out.2.2.2.1.block _ HQ.out.2.2.2.2.lt).trans HQ.out.2.2.2.2)
    have p3 : Blk w5 (w.heap.size + 1 + 1 + 1) 3 #[.int .i64 (n : Nat)] := (hs.same k3).trans H2.out.2.2.2.2.1
    have hd5 := (HH.out.2.1.step H2.out.1).step hs
    have hsk := hd5.skip_ HH.out.2.2.1 (by rw [← HH.out.2.2.2.1, HH.out.2.2.2.2.1]; decide)
    have hch1 := (addW_st hr).1
    obtain ⟨hf5, vv, vst, vch, vs, chs, hm5⟩ := hw5
    obtain ⟨ca, cc, hvch⟩ : ∃ ca cc, vch = .slice ca σ1.checks.length cc := by
      rcases hm5.ch.2 with ⟨rfl, h0⟩ | ⟨g, cap, cur, rfl, _⟩
      · exact ⟨none, 0, by rw [h0]⟩
      · exact ⟨_, _, rfl⟩
    obtain ⟨m, hm⟩ : ∃ m, m = σ1.checks.length := ⟨_, rfl⟩
    have hm9 : m ≤ 5000 := by rw [hm, hch1]; exact HH.out.2.2.2.2.2.2
    rw [← hm] at hvch
    subst hvch
    -- every world with new blocks behind w5
    have HN : Hid (∀ W, Below w5.heap.size w5 W → w5.heap.size < W.heap.size → Blk W w5.heap.size 124 #[.func (.func 110) #[] #[ptr xa, ptr ya, ptr za]] →
        ChkAt W o (.func (.func 102) #[] #[ptr w5.heap.size, ptr w.heap.size, ptr (w.heap.size + 1 + 1 + 1), ptr (w.heap.size + 1), ptr (w.heap.size + 1 + 1)]) (st0, σ.st.length, f.n.toNat)) := Lib.hid fun W hb hl hB => by
      obtain ⟨r1, r2, -⟩ := hm5.below hb
      have hnn : f.n = ((f.n.toNat : Nat) : Int) := by omega
      refine ⟨_, _, _, _, _, db, _, f, rfl, HL.out.step r1, ⟨hB, r2 _ (Nat.le_refl _) hl⟩, ⟨(r1.same (hs.safe _ k0)).trans p0, r1.safe _ (hs.safe _ k0)⟩, ⟨(r1.same (hs.safe _ k3)).trans (by have := p3; rw [HH.out.2.2.2.2.2.1] at this; exact this), r1.safe _ (hs.safe _ k3)⟩,
        ⟨(r1.same (hs.safe _ k1)).trans p1, r1.safe _ (hs.safe _ k1)⟩, ⟨(r1.same (hs.safe _ k2)).trans p2, hnn, r1.safe _ (hs.safe _ k2)⟩, ?_, r1.safe _ hd5.safe⟩
      rw [World.cell?_of_block (w := w5) (r1.same hd5.safe), hd5.blk.cell]; rfl
    go_wp2_with fail
    obtain ⟨W3, hW3⟩ : ∃ W3, W3 = w5.alloc (.cells #[.func (.func 110) #[] #[ptr xa, ptr ya, ptr za]] 124) := ⟨_, rfl⟩
    rw [← hW3]
    have hb3 : Below w5.heap.size w5 W3 := by rw [hW3]; exact bx _
    have hB3 : Blk W3 w5.heap.size 124 #[.func (.func 110) #[] #[ptr xa, ptr ya, ptr za]] := by rw [hW3]; exact Blk.new w5 _ _
    have hs6 : W3.heap.size = w5.heap.size + 1 := by rw [hW3]; simp
    have HF : Hid (∀ W, Below w5.heap.size w5 W → W.cell? ⟨w.heap.size, 0, none⟩ = some (ptr o.wb) ∧ W.cell? ⟨o.wb, 6, none⟩ = some (.slice ca m cc)) := Lib.hid fun W hb =>
      ⟨by rw [World.cell?_of_block (w := w5) (hb.block _ p0.lt), p0.cell]; rfl, by rw [World.cell?_of_block (w := w5) (hb.block _ hm5.blk.lt), hm5.blk.cell]; rfl⟩
    have H5 := Lib.hid (And.intro (H2.out.1.trans hs) (And.intro hf5 (And.intro hm5 (And.intro hsk (And.intro hr (And.intro hm (And.intro hb3 (And.intro hB3 hs6))))))))
    have HP0 := Lib.hid p0
    clear hs hf5 hm5 hsk hr hm hb3 hB3 hd5 hch1 k0 k1 k2 k3 p0 p1 p2 p3 hW3
    refine wp_region_T 10 (fun W : World => W.cell? ⟨w.heap.size, 0, none⟩ = some (ptr o.wb) ∧ W.cell? ⟨o.wb, 6, none⟩ = some (.slice ca m cc)) (by kernel_rfl) (HF.out _ H5.out.2.2.2.2.2.2.1.drew) (fun hHeld => ?_)
    refine takeT 0 (y := by intro wS hSw; obtain ⟨s0, s1⟩ := hSw; go_simp; (try with_reducible rfl)) (h := ?_)
    (try simp only [pA, pB, pC, pD])
    refine takeT 1 (y := by intro wS hSw; obtain ⟨s0, s1⟩ := hSw; go_simp; (try with_reducible rfl)) (h := ?_)
    (try simp only [pA, pB, pC, pD])
    refine anyT 2 (h := ?_)
    (try simp only [pA, pB, pC, pD])
    refine anyT 3 (h := ?_)
    (try simp only [pA, pB, pC, pD])
    refine takeT 4 (y := by intro wS hSw; obtain ⟨s0, s1⟩ := hSw; go_simp; (try with_reducible rfl)) (h := ?_)
    (try simp only [pA, pB, pC, pD])
    refine takeT 5 (y := by intro wS hSw; obtain ⟨s0, s1⟩ := hSw; go_simp; (try with_reducible rfl)) (h := ?_)
    (try simp only [pA, pB, pC, pD])
    refine wpAnyT_ready (rs := [6]) (by kernel_rfl) (by simp) ?_
    refine AllReadyT.cons (o := ?oB9) ?hB9 ?kB9 AllReadyT.nil
    case hB9 => (simp only [List.getElem?_toArray, List.getElem?_cons_zero, List.getElem?_cons_succ]; rfl)
    case kB9 =>
      intro K hK
      go_simp
      refine hK.out _ _ (fun _ => HF.out _ ((H5.out.2.2.2.2.2.2.1.alloc (by have := H5.out.2.2.2.2.2.2.2.2; omega) _).drew)) ?_
      clear hK K
      (try simp only [pA, pB, pC, pD])
      have hb1 : (W3.alloc (.cells #[(.func (.func 102) #[] #[ptr w5.heap.size, ptr w.heap.size, ptr (w.heap.size + 1 + 1 + 1), ptr (w.heap.size + 1), ptr (w.heap.size + 1 + 1)])] 1)).drew.heap[W3.heap.size]? = some (.cells #[(.func (.func 102) #[] #[ptr w5.heap.size, ptr w.heap.size, ptr (w.heap.size + 1 + 1 + 1), ptr (w.heap.size + 1), ptr (w.heap.size + 1 + 1)])] 1 (0, 0)) := heap_alloc_new W3 _
      have HB1 : Hid (Below w5.heap.size w5 (W3.alloc (.cells #[(.func (.func 102) #[] #[ptr w5.heap.size, ptr w.heap.size, ptr (w.heap.size + 1 + 1 + 1), ptr (w.heap.size + 1), ptr (w.heap.size + 1 + 1)])] 1)).drew) := Lib.hid ((H5.out.2.2.2.2.2.2.1.alloc (by have := H5.out.2.2.2.2.2.2.2.2; omega) _).drew)
      have HCK : Hid (ChkAt (W3.alloc (.cells #[(.func (.func 102) #[] #[ptr w5.heap.size, ptr w.heap.size, ptr (w.heap.size + 1 + 1 + 1), ptr (w.heap.size + 1), ptr (w.heap.size + 1 + 1)])] 1)).drew o (.func (.func 102) #[] #[ptr w5.heap.size, ptr w.heap.size, ptr (w.heap.size + 1 + 1 + 1), ptr (w.heap.size + 1), ptr (w.heap.size + 1 + 1)]) (st0, σ.st.length, f.n.toNat)) := Lib.hid (HN.out _ HB1.out (by have := H5.out.2.2.2.2.2.2.2.2; show w5.heap.size < (W3.alloc _).heap.size; simp; omega) ((heap_alloc_old _ _ (by have := H5.out.2.2.2.2.2.2.2.2; omega)).trans H5.out.2.2.2.2.2.2.2.1))
      generalize hW4 : (W3.alloc (.cells #[(.func (.func 102) #[] #[ptr w5.heap.size, ptr w.heap.size, ptr (w.heap.size + 1 + 1 + 1), ptr (w.heap.size + 1), ptr (w.heap.size + 1 + 1)])] 1)).drew = W4 at *
      rw [hs6] at hb1
      have hrow : W4.ownsRow 0 1 1 (.slice ca m cc) m chs := by
        have h9 := (H5.out.2.2.1.below HB1.out).2.2.ch
        rw [← H5.out.2.2.2.2.2.1] at h9
        exact h9
      refine wpAnyT_ready (rs := [7]) (by kernel_rfl) (by simp) ?_
      refine AllReadyT.cons (o := ?oB10) ?hB10 ?kB10 AllReadyT.nil
      case hB10 => (simp only [List.getElem?_toArray, List.getElem?_cons_zero, List.getElem?_cons_succ]; rfl)
      case kB10 =>
        intro K hK
        refine step_append_fn rfl (.tmp 21) (.tmp 23) rfl _ m chs rfl hrow (by omega) (w5.heap.size + 1) _ _ _ rfl hb1 (fun v1 w1 hG => ?_)
        have hG2 : Grew W4 w1 0 1 1 (.slice ca m cc) v1 (m + 1) (chs ++ [(.func (.func 102) #[] #[ptr w5.heap.size, ptr w.heap.size, ptr (w.heap.size + 1 + 1 + 1), ptr (w.heap.size + 1), ptr (w.heap.size + 1 + 1)])]) := hG
        have hC := H5.out.2.2.1.checked HB1.out HCK.out (by rw [← H5.out.2.2.2.2.2.1]; exact hG)
        obtain ⟨g1, cp1, rfl⟩ : ∃ g1 cp1, v1 = .slice (some ⟨g1, 0, none⟩) (m + 1) cp1 := by
          rcases hG.own.2 with ⟨_, h0⟩ | ⟨g, cap, cur, rfl, _⟩
          · omega
          · exact ⟨g, cap, rfl⟩
        have y0 := hC.1.1
        have y1 := hC.1.2
        have z0 : w1.cell? ⟨w.heap.size, 0, none⟩ = some (ptr o.wb) := by
          have pb : Blk W4 w.heap.size 90 #[ptr o.wb] := (HB1.out.block _ HP0.out.lt).trans HP0.out
          rw [World.cell?_of_block (w := W4) (a := ⟨w.heap.size, 0, none⟩) (hG2.grown.block _ pb.lt (fun e => own_blk_ne hrow pb (by decide) e.symm)), pb.cell]; rfl
        have hF1 := And.intro z0 y0
        refine hK.out _ _ (fun _ => hF1) ?_
        clear hK K
        (try simp only [pA, pB, pC, pD])
        have HY : Hid (KW w o top L k db fs u j st0 d RR (.returned (.tuple #[])) (w1.setCell ⟨o.wb, 6, none⟩ (.slice (some ⟨g1, 0, none⟩) (m + 1) cp1))) := Lib.hid (KW.yes (p := left0 { σ1 with checks := σ1.checks ++ [(st0, σ.st.length, f.n.toNat)] }) (by rw [HRR.out, wcheck, H5.out.2.2.2.2.1]; rfl) (HH.out.2.1.wide (H5.out.1.trans hC.2.1)) ⟨H5.out.2.1.step hC.2.1 (fun _ h => h.elim), _, _, _, _, _, hC.2.2⟩ (H5.out.2.2.2.1.step hC.2.1))
        clear hC hG hG2 hb1 hW4 hHeld hrow z0
        refine anyT 8 (h := ?_)
        (try simp only [pA, pB, pC, pD])
        refine anyT 9 (h := ?_)
        (try simp only [pA, pB, pC, pD])
        refine wpAnyT_ready (rs := [10]) (by kernel_rfl) (by simp) ?_
        refine AllReadyT.cons (o := ?oB13) ?hB13 ?kB13 AllReadyT.nil
        case hB13 => (simp only [List.getElem?_toArray, List.getElem?_cons_zero, List.getElem?_cons_succ]; rfl)
        case kB13 =>
          intro K hK
          go_simp
          refine hK.out _ _ (no_more (by kernel_rfl)) ?_
          clear hK K
          (try simp only [pA, pB, pC, pD])
          refine wpAnyT_done (by kernel_rfl) ?_ _
          go_wp2_with fail
          first | go_end0 | go_ret
          exact HY.out
end
end WrN
end Go.Proofs.YtdndmhlmbpgdeaaGreatDoor
