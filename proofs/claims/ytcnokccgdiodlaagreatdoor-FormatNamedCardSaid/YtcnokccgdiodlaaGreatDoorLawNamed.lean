/- The law FormatNamed: it returns true. Conditions: a list of four-number rows that can be read; an int; what the functions of texts read of memory. -/
import Derived.Test.YtcnokccgdiodlaaGreatDoorLawSane
import Derived.Test.YtcnokccgdiodlaaGreatDoorRefRow
import Derived.Test.YtcnokccgdiodlaaGreatDoorLawTabs
import Derived.Test.YtcnokccgdiodlaaGreatDoorRefI
import Derived.Lib.QuietBelow
import Derived.Deep.OwnRows
namespace Go.Proofs.YtcnokccgdiodlaaGreatDoor
open Go.RowKit Go.Shelf Fx Go.Sort

/-- A row of bools. -/
def KeepAt (w : World) (kb m : Nat) (κ : Nat → Bool) : Prop := ∃ cs : Array Value, w.heap[kb]? = some (.cells cs 4 (0, 0)) ∧ cs.size = m ∧ ∀ i, i < m → cs[i]? = some (.bool (κ i))
theorem KeepAt.cell {w : World} {kb m : Nat} {κ : Nat → Bool} (h : KeepAt w kb m κ) {i : Nat} (hi : i < m) : w.cell? ⟨kb, i, none⟩ = some (.bool (κ i)) := by
  obtain ⟨cs, h1, _, h3⟩ := h
  exact (cell_of_row _ _ _ _ _ _ h1).trans (h3 i hi)
theorem KeepAt.frozen {w : World} {kb m : Nat} {κ : Nat → Bool} (h : KeepAt w kb m κ) (i : Nat) : w.frozen? ⟨kb, i, none⟩ = false := by
  obtain ⟨cs, h1, _, _⟩ := h
  exact Blk.frozen (w := w) h1 i
theorem KeepAt.below {w w' : World} {kb m : Nat} {κ : Nat → Bool} (h : KeepAt w kb m κ) (hb : Below w.heap.size w w') : KeepAt w' kb m κ := by
  obtain ⟨cs, h1, h2, h3⟩ := h
  exact ⟨cs, (hb.block _ (lt_of_heap h1)).trans h1, h2, h3⟩
theorem KeepAt.put {w : World} {kb m : Nat} {κ : Nat → Bool} (h : KeepAt w kb m κ) (q : Nat) : KeepAt (w.setCell ⟨kb, q, none⟩ (.bool true)) kb m (fun i => decide (i = q) || κ i) := by
  obtain ⟨cs, h1, h2, h3⟩ := h
  refine ⟨cs.setIfInBounds q (.bool true), Blk.set_ (w := w) h1 q _, by simpa using h2, fun i hi => ?_⟩
  by_cases e : i = q
  · subst e
    rw [Array.getElem?_setIfInBounds_self_of_lt (by omega)]
    simp
  · rw [Array.getElem?_setIfInBounds_ne (fun h => e h.symm), h3 i hi]
    simp [e]
theorem keep_made (w : World) (m : Nat) : KeepAt (w.alloc (.cells (madeCells #[.bool false] m) 4)) w.heap.size m (fun _ => false) := by
  refine ⟨madeCells #[.bool false] m, heap_alloc_new _ _, by simp [madeCells], fun i hi => ?_⟩
  simp [madeCells, hi, Nat.mod_one]
/-- What one format names is kept. -/
def NamesKept (κ : Nat → Bool) (L : List Fm) (x : Nat) : Prop := ∀ k, k < (L.getD x zm).fs.length → isNest ((L.getD x zm).fs.getD k zf) → ∀ j, j < x → (L.getD j zm).id = ((L.getD x zm).fs.getD k zf).n → κ j = true
theorem NamesKept.mono {κ κ' : Nat → Bool} {L : List Fm} {x : Nat} (h : NamesKept κ L x) (hm : ∀ j, κ j = true → κ' j = true) : NamesKept κ' L x := fun k hk hn j hj he => hm j (h k hk hn j hj he)
/-- What stands in the inner loop. -/
structure NI (w2 W : World) (L : List Fm) (m KB i y z gb : Nat) (g : Fld) (κ : Nat → Bool) : Prop where
  k : KeepAt W KB m κ
  b : Below w2.heap.size w2 W
  o : ∀ x : Nat, (i : Int) < x → x < m → κ x = true → NamesKept κ L x
  t : κ i = true
  y : ∀ q, q < y → isNest ((L.getD i zm).fs.getD q zf) → ∀ j, j < i → (L.getD j zm).id = ((L.getD i zm).fs.getD q zf).n → κ j = true
  z : isNest g → ∀ j, j < z → (L.getD j zm).id = g.n → κ j = true
  g : W.heap[gb]? = some (.cells (fldCs g) 56 (0, 0))
theorem NI.below {w2 W W' : World} {L : List Fm} {m KB i y z gb : Nat} {g : Fld} {κ : Nat → Bool} (h : NI w2 W L m KB i y z gb g κ) (hb : Below W.heap.size W W') : NI w2 W' L m KB i y z gb g κ :=
  ⟨h.k.below hb, h.b.trans (hb.mono h.b.size), h.o, h.t, h.y, h.z, (hb.block _ (lt_of_heap h.g)).trans h.g⟩
theorem NI.skip {w2 W : World} {L : List Fm} {m KB i y z gb : Nat} {g : Fld} {κ : Nat → Bool} (h : NI w2 W L m KB i y z gb g κ) (hn : isNest g → (L.getD z zm).id = g.n → False) : NI w2 W L m KB i y (z + 1) gb g κ :=
  ⟨h.k, h.b, h.o, h.t, h.y, fun h1 j hj he => by
    rcases Nat.lt_succ_iff_lt_or_eq.1 hj with h2 | rfl
    · exact h.z h1 j h2 he
    · exact (hn h1 he).elim, h.g⟩
theorem NI.put {w2 W : World} {L : List Fm} {m KB i y z gb : Nat} {g : Fld} {κ : Nat → Bool} (h : NI w2 W L m KB i y z gb g κ) (hlo : w2.heap.size ≤ KB) (hz : z < i) : NI w2 (W.setCell ⟨KB, z, none⟩ (.bool true)) L m KB i y (z + 1) gb g (fun j => decide (j = z) || κ j) := by
  have mono : ∀ j, κ j = true → (decide (j = z) || κ j) = true := fun j hj => by rw [hj, Bool.or_true]
  have hne : gb ≠ KB := by
    obtain ⟨cs, h1, _⟩ := h.k
    exact Blk.ne_ (w := W) h.g h1 (by decide)
  refine ⟨h.k.put z, h.b.setCell (p := ⟨KB, z, none⟩) hlo _, fun x h1 h2 h3 => ?_, mono i h.t, fun q hq hn j hj he => mono j (h.y q hq hn j hj he), fun h1 j hj he => ?_, (Below.heap_setCell _ _ _ _ hne).trans h.g⟩
  · have : x ≠ z := by omega
    simp only [decide_eq_false this, Bool.false_or] at h3
    exact (h.o x h1 h2 h3).mono mono
  · rcases Nat.lt_succ_iff_lt_or_eq.1 hj with h2 | rfl
    · exact mono j (h.z h1 j h2 he)
    · simp
theorem keepL_len (κ : Nat → Bool) (L : List Fm) : ∀ x, (keepL κ L x).length ≤ x
  | 0 => by simp [keepL]
  | x + 1 => by
    have := keepL_len κ L x
    unfold keepL
    split
    · simp; omega
    · omega
theorem infoBool : (Tryz.prog.info? 4).map (fun i => (i.zero, i.size, i.bytes)) = some (some (.bool false), 1, 1) := by kernel_rfl
set_option maxRecDepth 100000 in
set_option maxHeartbeats 8000000 in
theorem named_law (v : Value) (n : Nat) (c : Int) (er : Addr) (w : World) (hQ : QsAt w v n) (c1 : -9223372036854775808 ≤ c) (c2 : c ≤ 9223372036854775807) (hT : Txt w er) :
    Calls Tryz.prog 9 #[v, .int .i64 c] w fun e w' => e = .returned (.bool true) ∧ Below w.heap.size w w' := by
  have HT := Lib.hid hT
  have HQ := Lib.hid (And.intro hQ (And.intro c1 c2))
  clear hT hQ c1 c2
  go_enter Tryz.func9, Tryz.ntmps9
  go_wp2_with fail
  refine (sane_any er w HT.out).mono ?_
  rintro e w1 ⟨rfl, hB⟩
  have B1 : Hid (Below w.heap.size w w1) := Lib.hid hB
  clear hB
  go_wp2_with fail
  refine (rMake_any v n w1 (HQ.out.1.below B1.out)).mono ?_
  rintro e w2 ⟨⟨u, L, rfl, hM, vs, hO⟩, hB⟩
  have B2 : Hid (Below w.heap.size w w2) := Lib.hid (B1.out.trans (hB.mono B1.out.size))
  have hV := hO.fms
  obtain ⟨m, hm⟩ : ∃ m, m = L.length := ⟨_, rfl⟩
  have hm6 : m ≤ 6 := by rw [hm]; exact hM.few
  have hcases : u = .slice none 0 0 ∧ m = 0 ∨ ∃ b cp, u = .slice (some ⟨b, 0, none⟩) m cp ∧ m ≤ cp ∧ cp ≤ 9223372036854775807 := by
    rcases hO.row.2 with ⟨h, h0⟩ | ⟨g, cap, cur, rfl, _, _, hl, hx, _⟩
    · exact .inl ⟨h, by omega⟩
    · exact .inr ⟨g, cap, by rw [hm], by omega, by unfold maxLen at hx; omega⟩
  have HM := Lib.hid (And.intro hM (And.intro hm hV))
  clear hB hO hV hM hm B1
  by_cases hm0 : m = 0
  · subst hm0
    have hlen0 : ∃ x c, u = .slice x 0 c := by
      rcases hcases with ⟨h, _⟩ | ⟨b, cp, h, _⟩
      · exact ⟨_, _, h⟩
      · exact ⟨_, _, h⟩
    obtain ⟨x, c, rfl⟩ := hlen0
    go_wp2_with fail
    go_ret
    exact ⟨rfl, B2.out⟩
  · obtain ⟨ub, cp, rfl, h1, h2⟩ : ∃ b cp, u = .slice (some ⟨b, 0, none⟩) m cp ∧ m ≤ cp ∧ cp ≤ 9223372036854775807 := by
      rcases hcases with ⟨_, h⟩ | h
      · exact absurd h hm0
      · exact h
    obtain ⟨x, hx⟩ : ∃ x, pickI c (m : Int) = x := ⟨_, rfl⟩
    have hx0 : 0 ≤ x := by rw [← hx]; exact pickI_lo (by omega)
    have hx1 : x < (m : Int) := by rw [← hx]; exact pickI_hi (by omega)
    obtain ⟨q, rfl⟩ : ∃ q : Nat, x = q := ⟨x.toNat, by omega⟩
    have hqm : q < m := by omega
    have HX := Lib.hid hx
    have hmi : ((m : Int) == 0) = false := by rw [beq_eq_false_iff_ne]; omega
    clear hx hcases hm0
    obtain ⟨i0, hi, hz0, hz1, hz2⟩ := info_parts infoBool
    have HI0 := Lib.hid (And.intro hi (And.intro hz0 (And.intro hz1 hz2)))
    clear hi hz0 hz1 hz2
    go_wp2_with (first | (at_make; refine wpList_make_row w2 rfl (.tmp 23) (.tmp 23) 54 rfl 4 i0 (.bool false) Tryz.underlying54 HI0.out.1 HI0.out.2.1 HI0.out.2.2.1 rfl .i64 .i64 m rfl rfl (by rw [HI0.out.2.2.2]; omega) (by omega) ?_))
    obtain ⟨w3, hw3⟩ : ∃ w3, w3 = w2.alloc (.cells (madeCells #[.bool false] m) 4) := ⟨_, rfl⟩
    rw [← hw3]
    obtain ⟨KB, hKB⟩ : ∃ KB, KB = w2.heap.size := ⟨_, rfl⟩
    have K3 : Hid (KeepAt w3 KB m (fun _ => false) ∧ Below w2.heap.size w2 w3 ∧ w2.heap.size ≤ KB) := Lib.hid ⟨by rw [hw3, hKB]; exact keep_made w2 m, by rw [hw3]; exact bx _, by omega⟩
    rw [← hKB]
    clear hw3
    refine (lpick_any c _ _ w3 HQ.out.2.1 HQ.out.2.2 (by omega) (by omega) HX.out).mono ?_
    rintro e w' ⟨rfl, rfl⟩
    obtain ⟨w3, rfl⟩ : ∃ w3, w3 = w' := ⟨_, rfl⟩
    have kc := K3.out.1.cell hqm
    have kz := K3.out.1.frozen q
    have K4 : Hid (KeepAt (w3.setCell ⟨KB, q, none⟩ (.bool true)) KB m (fun i => decide (i = q) || false) ∧ Below w2.heap.size w2 (w3.setCell ⟨KB, q, none⟩ (.bool true))) := Lib.hid ⟨K3.out.1.put q, K3.out.2.1.setCell (p := ⟨KB, q, none⟩) K3.out.2.2 _⟩
    have hKlo : Hid (w2.heap.size ≤ KB) := Lib.hid K3.out.2.2
    clear hKB K3
    go_wp2_with fail
    obtain ⟨w4, hw4⟩ : ∃ w4, w4 = w3.setCell ⟨KB, q, none⟩ (.bool true) := ⟨_, rfl⟩
    rw [← hw4] at K4 ⊢
    clear hw4 kc kz
    go_loopw [8] (fun i wr => ∃ (x : Int) (κ : Nat → Bool), -1 ≤ x ∧ x < m ∧ i = .int .i64 x ∧ Hid (KeepAt wr KB m κ ∧ Below w2.heap.size w2 wr ∧ ∀ y : Nat, x < y → y < m → κ y = true → NamesKept κ L y)) (fun i _ => (intOf i + 1).toNat)
    case atStart => exact ⟨(m : Int) - 1, _, by omega, by omega, by go_num, Lib.hid ⟨K4.out.1, K4.out.2, fun y h1 h2 => by omega⟩⟩
    case round =>
      obtain ⟨x, κ, hxa, hxb, rfl, HI⟩ := hrel
      by_cases hx0 : 0 ≤ x
      · obtain ⟨i, rfl⟩ : ∃ i : Nat, x = i := ⟨x.toNat, by omega⟩
        have him : i < m := by omega
        have hil : i < L.length := by have := HM.out.2.1; omega
        obtain ⟨nf, hnf⟩ : ∃ nf, nf = (L.getD i zm).fs.length := ⟨_, rfl⟩
        have hnf6 : nf ≤ 6 := by rw [hnf]; exact HM.out.1.fs i hil
        obtain ⟨b', off', e0, -, -, lb, -, -, hfm⟩ := HM.out.2.2.at_ (by omega)
        cases e0
        obtain ⟨fu, hfu⟩ := hfm i hil
        obtain ⟨fa, fcap, rfl, hfl⟩ := hfu.fs.slice_
        rw [← hnf] at hfl hfu
        have c1 := hfu.c1
        rw [Nat.zero_add] at c1
        have lb2 := World.block_lt_of_cell? (h := c1)
        have HF := Lib.hid (And.intro hfu.fs (And.intro hnf c1))
        unfold maxLen at hfl
        clear hfu hfm c1 hnf
        go_wp2_with fail
        go_loopw [9] (fun k wq => ∃ (y : Nat) (κ : Nat → Bool), y ≤ nf ∧ k = .int .i64 y ∧ Hid (KeepAt wq KB m κ ∧ Below w2.heap.size w2 wq ∧ (∀ x : Nat, (i : Int) < x → x < m → κ x = true → NamesKept κ L x) ∧ (κ i = true → ∀ q, q < y → isNest ((L.getD i zm).fs.getD q zf) → ∀ j, j < i → (L.getD j zm).id = ((L.getD i zm).fs.getD q zf).n → κ j = true))) (fun k _ => nf - (intOf k).toNat)
        case atStart => exact ⟨0, κ, Nat.zero_le _, rfl, Lib.hid ⟨HI.out.1, HI.out.2.1, HI.out.2.2, fun _ q hq => absurd hq (by omega)⟩⟩
        case round =>
          obtain ⟨y, κ, hy, rfl, HY⟩ := hrel
          obtain ⟨wq, rfl⟩ : ∃ wq, wq = wr := ⟨_, rfl⟩
          have c1 := (HY.out.2.1.cell (p := ⟨ub, i * 2 + 1, none⟩) lb2).trans HF.out.2.2
          have lb3 := World.block_lt_of_cell? (h := c1)
          have kc := HY.out.1.cell him
          have lK := World.block_lt_of_cell? (h := kc)
          obtain ⟨kb, hkb⟩ : ∃ kb, kb = κ i := ⟨_, rfl⟩
          rw [← hkb] at kc
          have HKB := Lib.hid hkb
          clear hkb
          by_cases hyn : y < nf
          · cases kb with
            | false =>
              go_wp2_with fail
              exact ⟨⟨(i : Int) - 1, κ, by omega, by omega, by go_num, Lib.hid ⟨HY.out.1, HY.out.2.1, fun x h1 h2 h3 => by
                by_cases e : x = i
                · subst e; rw [← HKB.out] at h3; cases h3
                · exact HY.out.2.2.1 x (by omega) h2 h3⟩⟩, by simp [intOf]⟩
            | true =>
              obtain ⟨fb, fo, rfl, -, lfb, -, -, hfl2⟩ := HF.out.1.at_ (by have := HF.out.2.1; omega)
              obtain ⟨⟨gk, gn, gf, gt⟩, hg⟩ : ∃ g, g = (L.getD i zm).fs.getD y zf := ⟨_, rfl⟩
              have hgA := (hfl2 y (by have := HF.out.2.1; omega)).of_block (w' := wq) (HY.out.2.1.block fb lfb)
              rw [← hg] at hgA
              obtain ⟨g0, g1, g2, g3⟩ := hgA
              have lgb := World.block_lt_of_cell? (h := g0)
              have HG := Lib.hid hg
              clear hfl2 hg
              go_wp2_with fail
              obtain ⟨wg, hwg⟩ : ∃ wg, wg = wq.alloc (.cells #[.int .i64 gk, .int .i64 gn, .int .i64 gf, .string gt] 56) := ⟨_, rfl⟩
              rw [← hwg]
              obtain ⟨gb, hgb⟩ : ∃ gb, gb = wq.heap.size := ⟨_, rfl⟩
              rw [← hgb]
              have N0 : Hid (NI w2 wg L m KB i y 0 gb ⟨gk, gn, gf, gt⟩ κ) := Lib.hid (by
                have hb : Below wq.heap.size wq wg := by rw [hwg]; exact bx _
                exact ⟨HY.out.1.below hb, HY.out.2.1.trans (hb.mono HY.out.2.1.size), HY.out.2.2.1, HKB.out.symm, HY.out.2.2.2 HKB.out.symm, fun _ j hj => absurd hj (by omega), by rw [hwg, hgb]; exact heap_alloc_new _ _⟩)
              clear hwg hgb g0 g1 g2 g3 lgb c1 kc lb3 lK
              go_loopw [11] (fun j wz => ∃ (z : Nat) (κ : Nat → Bool), z ≤ i ∧ j = .int .i64 z ∧ Hid (NI w2 wz L m KB i y z gb ⟨gk, gn, gf, gt⟩ κ)) (fun j _ => i - (intOf j).toNat)
              case atStart => exact ⟨0, κ, Nat.zero_le _, rfl, N0⟩
              case round =>
                obtain ⟨z, κ, hz, rfl, HZ⟩ := hrel
                obtain ⟨wz, rfl⟩ : ∃ wz, wz = wr := ⟨_, rfl⟩
                by_cases hzi : z < i
                · have hzl : z < L.length := by omega
                  obtain ⟨b', off', e0, -, -, lbz, -, -, hfm⟩ := HM.out.2.2.at_ (by omega)
                  cases e0
                  obtain ⟨zu, hzu⟩ := hfm z hzl
                  have zc := hzu.c0
                  rw [Nat.zero_add] at zc
                  have zc2 := (HZ.out.b.cell (p := ⟨ub, z * 2, none⟩) lbz).trans zc
                  obtain ⟨X, hX⟩ : ∃ X, X = (L.getD z zm).id := ⟨_, rfl⟩
                  rw [← hX] at zc2
                  have y0 : wz.cell? ⟨gb, 0, none⟩ = some (.int .i64 gk) := cell_of_row _ _ _ _ _ _ HZ.out.g
                  have y1 : wz.cell? ⟨gb, 1, none⟩ = some (.int .i64 gn) := cell_of_row _ _ _ _ _ _ HZ.out.g
                  have f0 := fun d os => cell_regrown y0 d os
                  have f1 := fun d os => cell_regrown y1 d os
                  have f2 := fun d os => cell_regrown zc2 d os
                  have kcz := fun (d : Nat) (os : Array Obj) => (HZ.out.k.below (below_regrown wz d os)).cell (show z < m by omega)
                  have kzz := fun (d : Nat) (os : Array Obj) => (HZ.out.k.below (below_regrown wz d os)).frozen z
                  have HX2 := Lib.hid hX
                  have hzm : z < m := by omega
                  clear hzu hfm zc zc2 y0 y1 hX
                  by_cases h4 : gk = 4
                  · have d4 : (gk == 4) = true := by rw [beq_iff_eq]; exact h4
                    by_cases hxn : X = gn
                    · have dx : (X == gn) = true := by rw [beq_iff_eq]; exact hxn
                      clear h4 hxn
                      go_wp2_with fail
                      refine wp_region_quiet_below (by kernel_rfl) (by kernel_rfl) ?_
                      repeat (first | go_big_quiet_step (fail) | quiet_step (fail))
                      refine wpQuiet_nil ?_
                      intro _ hw'
                      obtain ⟨⟨dq, osq⟩, hw''⟩ := hw'
                      subst hw''
                      have HP := Lib.hid ((HZ.out.below (below_regrown wz dq osq)).put hKlo.out hzi)
                      have p1 := kcz dq osq
                      have p2 := kzz dq osq
                      clear f0 f1 f2 kcz kzz
                      go_wp2_with fail
                      exact ⟨⟨z + 1, _, by omega, by go_num, HP⟩, by simp [intOf]; omega⟩
                    · have dx : (X == gn) = false := by rw [beq_eq_false_iff_ne]; exact hxn
                      have HN : Hid (isNest (⟨gk, gn, gf, gt⟩ : Fld) → (L.getD z zm).id = gn → False) := Lib.hid (fun _ he => hxn (by rw [HX2.out]; exact he))
                      clear h4 hxn
                      go_wp2_with fail
                      refine wp_region_quiet_below (by kernel_rfl) (by kernel_rfl) ?_
                      repeat (first | go_big_quiet_step (fail) | quiet_step (fail))
                      refine wpQuiet_nil ?_
                      intro _ hw'
                      obtain ⟨⟨dq, osq⟩, hw''⟩ := hw'
                      subst hw''
                      have HP := Lib.hid ((HZ.out.below (below_regrown wz dq osq)).skip HN.out)
                      clear f0 f1 f2 kcz kzz HN
                      go_wp2_with fail
                      exact ⟨⟨z + 1, κ, by omega, by go_num, HP⟩, by simp [intOf]; omega⟩
                  · have d4 : (gk == 4) = false := by rw [beq_eq_false_iff_ne]; exact h4
                    by_cases h5 : gk = 5
                    · have d5 : (gk == 5) = true := by rw [beq_iff_eq]; exact h5
                      by_cases hxn : X = gn
                      · have dx : (X == gn) = true := by rw [beq_iff_eq]; exact hxn
                        clear h4 h5 hxn
                        go_wp2_with fail
                        refine wp_region_quiet_below (by kernel_rfl) (by kernel_rfl) ?_
                        repeat (first | go_big_quiet_step (fail) | quiet_step (fail))
                        refine wpQuiet_nil ?_
                        intro _ hw'
                        obtain ⟨⟨dq, osq⟩, hw''⟩ := hw'
                        subst hw''
                        have HP := Lib.hid ((HZ.out.below (below_regrown wz dq osq)).put hKlo.out hzi)
                        have p1 := kcz dq osq
                        have p2 := kzz dq osq
                        clear f0 f1 f2 kcz kzz
                        go_wp2_with fail
                        exact ⟨⟨z + 1, _, by omega, by go_num, HP⟩, by simp [intOf]; omega⟩
                      · have dx : (X == gn) = false := by rw [beq_eq_false_iff_ne]; exact hxn
                        have HN : Hid (isNest (⟨gk, gn, gf, gt⟩ : Fld) → (L.getD z zm).id = gn → False) := Lib.hid (fun _ he => hxn (by rw [HX2.out]; exact he))
                        clear h4 h5 hxn
                        go_wp2_with fail
                        refine wp_region_quiet_below (by kernel_rfl) (by kernel_rfl) ?_
                        repeat (first | go_big_quiet_step (fail) | quiet_step (fail))
                        refine wpQuiet_nil ?_
                        intro _ hw'
                        obtain ⟨⟨dq, osq⟩, hw''⟩ := hw'
                        subst hw''
                        have HP := Lib.hid ((HZ.out.below (below_regrown wz dq osq)).skip HN.out)
                        clear f0 f1 f2 kcz kzz HN
                        go_wp2_with fail
                        exact ⟨⟨z + 1, κ, by omega, by go_num, HP⟩, by simp [intOf]; omega⟩
                    · have d5 : (gk == 5) = false := by rw [beq_eq_false_iff_ne]; exact h5
                      have HN : Hid (isNest (⟨gk, gn, gf, gt⟩ : Fld) → (L.getD z zm).id = gn → False) := Lib.hid (fun hn _ => by rcases hn with h | h; exact h4 h; exact h5 h)
                      clear h4 h5
                      go_wp2_with fail
                      refine wp_region_quiet_below (by kernel_rfl) (by kernel_rfl) ?_
                      repeat (first | go_big_quiet_step (fail) | quiet_step (fail))
                      refine wpQuiet_nil ?_
                      intro _ hw'
                      obtain ⟨⟨dq, osq⟩, hw''⟩ := hw'
                      subst hw''
                      have HP := Lib.hid ((HZ.out.below (below_regrown wz dq osq)).skip HN.out)
                      clear f0 f1 f2 kcz kzz HN
                      go_wp2_with fail
                      exact ⟨⟨z + 1, κ, by omega, by go_num, HP⟩, by simp [intOf]; omega⟩
                · obtain rfl : z = i := by omega
                  go_wp2_with fail
                  refine ⟨⟨y + 1, κ, by omega, by go_num, Lib.hid ⟨HZ.out.k, HZ.out.b, HZ.out.o, fun _ q hq hn j hj he => ?_⟩⟩, by simp [intOf]; omega⟩
                  rcases Nat.lt_succ_iff_lt_or_eq.1 hq with h2 | rfl
                  · exact HZ.out.y q h2 hn j hj he
                  · rw [← HG.out] at hn he
                    exact HZ.out.z hn j hj he
          · obtain rfl : y = nf := by omega
            go_wp2_with fail
            exact ⟨⟨(i : Int) - 1, κ, by omega, by omega, by go_num, Lib.hid ⟨HY.out.1, HY.out.2.1, fun x h1 h2 h3 => by
              by_cases e : x = i
              · subst e
                exact fun q hq => HY.out.2.2.2 h3 q (by rw [HF.out.2.1]; exact hq)
              · exact HY.out.2.2.1 x (by omega) h2 h3⟩⟩, by simp [intOf]⟩
      · obtain rfl : x = -1 := by omega
        have HC : Hid (KeepAt wr KB m κ ∧ Below w2.heap.size w2 wr ∧ Closed κ L) := Lib.hid ⟨HI.out.1, HI.out.2.1, fun i hi hk k hkl hn j hj he => HI.out.2.2 i (by omega) (by have := HM.out.2.1; omega) hk k hkl hn j hj he⟩
        clear HI
        go_wp2_with fail
        obtain ⟨ws, rfl⟩ : ∃ ws, ws = wr := ⟨_, rfl⟩
        have HV := Lib.hid (HM.out.2.2.below HC.out.2.1)
        go_loopw [12, 13] (fun u i wt => ∃ (x : Nat) (vs : List Value), x ≤ m ∧ i = .int .i64 x ∧ Hid (Cp ws wt u (keepL κ L x) vs ∧ KeepAt wt KB m κ)) (fun _ i _ => m - (intOf i).toNat)
        case atStart => exact ⟨0, [], Nat.zero_le _, rfl, Lib.hid ⟨cp_nil ws, HC.out.1⟩⟩
        case round =>
          obtain ⟨x, vs, hx, rfl, HI⟩ := hrel
          obtain ⟨wt, rfl⟩ : ∃ wt, wt = wr := ⟨_, rfl⟩
          by_cases hxm : x < m
          · have hxl : x < L.length := by have := HM.out.2.1; omega
            have kc := HI.out.2.cell hxm
            have lK := World.block_lt_of_cell? (h := kc)
            obtain ⟨kb, hkb⟩ : ∃ kb, kb = κ x := ⟨_, rfl⟩
            rw [← hkb] at kc
            have HKB := Lib.hid hkb
            clear hkb
            cases kb with
            | false =>
              have HJ : Hid (Cp ws wt u12 (keepL κ L (x + 1)) vs ∧ KeepAt wt KB m κ) := Lib.hid ⟨by unfold keepL; rw [← HKB.out]; exact HI.out.1, HI.out.2⟩
              go_wp2_with fail
              exact ⟨⟨x + 1, vs, by omega, by go_num, HJ⟩, by simp [intOf]; omega⟩
            | true =>
              obtain ⟨b', off', e0, -, -, lb, -, -, hfm⟩ := HV.out.at_ (by omega)
              cases e0
              obtain ⟨fu, hfu⟩ := hfm x hxl
              obtain ⟨fa, fcap, rfl, hfl⟩ := hfu.fs.slice_
              obtain ⟨nf, hnf⟩ : ∃ nf, nf = (L.getD x zm).fs.length := ⟨_, rfl⟩
              rw [← hnf] at hfu
              have a0 := (HI.out.1.b.cell (p := ⟨ub, 0 + x * 2, none⟩) lb).trans hfu.c0
              have a1 := (HI.out.1.b.cell (p := ⟨ub, 0 + x * 2 + 1, none⟩) lb).trans hfu.c1
              obtain ⟨X, hX⟩ : ∃ X, X = (L.getD x zm).id := ⟨_, rfl⟩
              rw [← hX] at a0
              rw [Nat.zero_add] at a0 a1
              have lb2 := World.block_lt_of_cell? (h := a0)
              have HF := Lib.hid (And.intro hfu.fs (And.intro hfu.own hX))
              have hkl := keepL_len κ L x
              have HO := Lib.hid (HI.out.1.below (bx (.cells #[.int .i64 X, .slice fa nf fcap] 34)))
              have HS : Hid (∀ v' w', Grew (wt.alloc (.cells #[.int .i64 X, .slice fa nf fcap] 34)) w' 0 34 2 u12 v' ((keepL κ L x).length + 1) (flatM (keepL κ L x) vs ++ [.int .i64 X, .slice fa nf fcap]) →
                  Hid (Cp ws w' v' (keepL κ L (x + 1)) (vs ++ [.slice fa nf fcap]) ∧ KeepAt w' KB m κ)) := Lib.hid fun v' w' hG => Lib.hid ⟨by
                have h := cp_snoc HO.out HF.out.1 HF.out.2.1 hG
                have e : keepL κ L (x + 1) = keepL κ L x ++ [⟨X, (L.getD x zm).fs⟩] := by
                  rw [keepL, ← HKB.out, if_pos rfl, HF.out.2.2]
                rw [e]; exact h, by
                obtain ⟨cs, h1, h2, h3⟩ := HI.out.2.below (bx (.cells #[.int .i64 X, .slice fa nf fcap] 34))
                exact ⟨cs, hG.blkOther HO.out.row.row h1 (by decide), h2, h3⟩⟩
              clear hX hfu hfm hfl hnf
              go_wp2_with (at_builtin; refine wpList_append_fmt rfl (.tmp 98) (.tmp 103) rfl u12 (keepL κ L x).length (flatM (keepL κ L x) vs) rfl HO.out.row.row (by omega) wt.heap.size X (.slice fa nf fcap) rfl rfl (heap_alloc_new _ _) ?_; intro v2 wB hG; have HE := HS.out v2 wB hG; clear hG)
              exact ⟨⟨x + 1, _, by omega, by go_num, HE⟩, by simp [intOf]; omega⟩
          · obtain rfl : x = m := by omega
            have hlm : L.length = x := HM.out.2.1.symm
            obtain ⟨n1, n2, n3, n4⟩ := named HM.out.1.ok HC.out.2.2
            rw [hlm] at n1 n2 n3 n4
            have hIK : Hid (IntsL (keepL κ L x)) := Lib.hid fun i hi => by
              obtain ⟨j, hj, e⟩ := mem_getD (z := zm) (n4 _ (getD_mem (z := zm) hi))
              rw [← e]
              exact HM.out.1.ints j hj
            have HNM := Lib.hid n2
            have hB0 := HI.out.1.b
            have HCK := Lib.hid HI.out.1
            have VA := Lib.hid (HV.out.below hB0)
            have BA : Hid (Below w.heap.size w wt) := Lib.hid (B2.out.trans ((HC.out.2.1.trans (hB0.mono HC.out.2.1.size)).mono B2.out.size))
            obtain ⟨na, nc, hu12, hnl⟩ := HI.out.1.fms.slice_
            obtain ⟨nk, hnk⟩ : ∃ nk, nk = (keepL κ L x).length := ⟨_, rfl⟩
            rw [← hnk] at hu12 hnl n3
            have HNK := Lib.hid hnk
            have hvK : Hid (vd (keepL κ L x) = true) := Lib.hid (vd_iff.2 n1)
            clear n1 n2 n4 HI HV hB0 hnk
            subst hu12
            go_wp2_with fail
            refine (Valid_any _ (keepL κ L x) true er wt (HT.out.below BA.out).err HCK.out.fms hIK.out hvK.out).mono ?_
            rintro e w5 ⟨rfl, hB⟩
            have H5 : Hid (Below w.heap.size w w5 ∧ FmsAt (· < w5.heap.size) w5 (.slice na nk nc) (keepL κ L x) ∧ FmsAt (· < w5.heap.size) w5 (.slice (some ⟨ub, 0, none⟩) x cp) L) := Lib.hid ⟨BA.out.trans (hB.mono BA.out.size), HCK.out.fms.below hB, VA.out.below hB⟩
            clear hB BA VA HCK
            go_wp2_with fail
            go_loopw [14] (fun i wt => ∃ z : Nat, z ≤ nk ∧ i = .int .i64 z ∧ Hid (Below w.heap.size w wt ∧ FmsAt (· < wt.heap.size) wt (.slice na nk nc) (keepL κ L x) ∧ FmsAt (· < wt.heap.size) wt (.slice (some ⟨ub, 0, none⟩) x cp) L)) (fun i _ => nk - (intOf i).toNat)
            case atStart => exact ⟨0, Nat.zero_le _, rfl, H5⟩
            case round =>
              obtain ⟨z, hz, rfl, HZ⟩ := hrel
              obtain ⟨wz, rfl⟩ : ∃ wz, wz = wr := ⟨_, rfl⟩
              by_cases hzn : z < nk
              · have hzl : z < (keepL κ L x).length := by have := HNK.out; omega
                obtain ⟨mb, mo, rfl, -, -, lmb, mm1, mm2, hfm⟩ := HZ.out.2.1.at_ (by omega)
                obtain ⟨fu, hfu⟩ := hfm z hzl
                have c0 := hfu.c0
                have hid := (hIK.out z hzl).1
                have hle := HNM.out _ (getD_mem (z := zm) hzl)
                obtain ⟨X, hX⟩ : ∃ X, X = ((keepL κ L x).getD z zm).id := ⟨_, rfl⟩
                rw [← hX] at c0 hid hle
                have HID := Lib.hid hid
                obtain ⟨R, hR⟩ : ∃ R, least L X = R := ⟨_, rfl⟩
                rw [hR] at hle
                have g0 := fun d os => cell_regrown c0 d os
                have HL1 : Hid (∀ d os, Calls Tryz.prog 19 #[.slice (some ⟨mb, mo, none⟩) nk nc, .int .i64 X] (grow (redrawn wz d) os) fun e w' => e = .returned (.int .i64 R) ∧ Below (grow (redrawn wz d) os).heap.size (grow (redrawn wz d) os) w') := Lib.hid fun d os =>
                  Least_any _ (keepL κ L x) X R er _ ((HT.out.below HZ.out.1).below (below_regrown wz d os)).err (HZ.out.2.1.below (below_regrown wz d os)) hIK.out HID.out.1 HID.out.2 hle
                have HL2 : Hid (∀ d os, Calls Tryz.prog 19 #[.slice (some ⟨ub, 0, none⟩) x cp, .int .i64 X] (grow (redrawn wz d) os) fun e w' => e = .returned (.int .i64 R) ∧ Below (grow (redrawn wz d) os).heap.size (grow (redrawn wz d) os) w') := Lib.hid fun d os =>
                  Least_any _ L X R er _ ((HT.out.below HZ.out.1).below (below_regrown wz d os)).err (HZ.out.2.2.below (below_regrown wz d os)) HM.out.1.ints HID.out.1 HID.out.2 hR
                have HL : Hid (∀ d os (u : Value), u = .slice (some ⟨mb, mo, none⟩) nk nc ∨ u = .slice (some ⟨ub, 0, none⟩) x cp → Calls Tryz.prog 19 #[u, .int .i64 X] (grow (redrawn wz d) os) fun e w' => e = .returned (.int .i64 R) ∧ Below (grow (redrawn wz d) os).heap.size (grow (redrawn wz d) os) w') := Lib.hid fun d os u hu => by
                  rcases hu with rfl | rfl
                  · exact HL1.out d os
                  · exact HL2.out d os
                unfold maxLen at mm2
                clear hX hR hle hid c0 hfu hfm hnl HL1 HL2
                go_wp2_with fail
                refine wp_region_quiet_below (by kernel_rfl) (by kernel_rfl) ?_
                repeat (first | go_big_quiet_step (first | (go_at_call 19; exact Calls.regrown_of (HL.out _ _ _ (by first | exact .inl rfl | exact .inr rfl)))) | quiet_step (first | (go_at_call 19; exact Calls.regrown_of (HL.out _ _ _ (by first | exact .inl rfl | exact .inr rfl)))))
                refine wpQuiet_nil ?_
                intro _ hw'
                obtain ⟨⟨dq, osq⟩, hw''⟩ := hw'
                subst hw''
                have HE : Hid (Below w.heap.size w (grow (redrawn wz dq) osq) ∧ FmsAt (· < (grow (redrawn wz dq) osq).heap.size) (grow (redrawn wz dq) osq) (.slice (some ⟨mb, mo, none⟩) nk nc) (keepL κ L x) ∧ FmsAt (· < (grow (redrawn wz dq) osq).heap.size) (grow (redrawn wz dq) osq) (.slice (some ⟨ub, 0, none⟩) x cp) L) := Lib.hid
                  ⟨HZ.out.1.trans ((below_regrown wz dq osq).mono HZ.out.1.size), HZ.out.2.1.below (below_regrown wz dq osq), HZ.out.2.2.below (below_regrown wz dq osq)⟩
                clear HL g0 HZ
                go_wp2_with fail
                exact ⟨⟨z + 1, by omega, by go_num, HE⟩, by simp [intOf]; omega⟩
              · obtain rfl : z = nk := by omega
                go_wp2_with fail
                go_ret
                exact ⟨rfl, HZ.out.1⟩
end Go.Proofs.YtcnokccgdiodlaaGreatDoor
