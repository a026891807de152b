/- What package format calls in the library: numbers' texts, cuts, counts, clones, and a Builder of the call's own. Conditions: ints; the table of powers, the variables of errors and the limit of a search hold what they hold. -/
import Derived.Test.YtcnokccgdiodlaaGreatDoorFmtN
import Derived.Shelf.Strconv.AtoiAll
import Derived.Shelf.Strconv.Itoa3
import Derived.Shelf.Strings.Cut
import Derived.Shelf.Strings.Count
import Derived.Shelf.Strings.Builder1
import Derived.Shelf.Lay
import Derived.Lib.AtoiErrMem
import Derived.Lib.AppendIntMem
import Derived.Lib.SmallJoins
import Derived.Ground.NamesProg
namespace Go.Proofs.YtcnokccgdiodlaaGreatDoor
open Go.RowKit Go.Shelf Fx

shelf_lay LaysC.n172 Nm 172 at Tryz as laysAtoi
shelf_lay LaysM.n171 Nm 171 at Tryz as laysItoa
shelf_lay Lays.n145 Nm 145 at Tryz as laysCut
shelf_lay Lays.n138 Nm 138 at Tryz as laysCount
shelf_lay Lays.n169 Nm 169 at Tryz as laysStr
theorem extra169 : Builder.Extra Tryz.prog laysStr_ren where
  sizeBuilder := by kernel_rfl
  liesBuilder := by kernel_rfl
  t5 := Tryz.underlying5
  a5 := run_isAgg_plain Tryz.underlying5 rfl
  z5 := fun _ => by kernel_rfl
  v5 := fun _ => by kernel_rfl
  infoByte := by kernel_rfl
  cellsByte := by kernel_rfl
  sizeByte := by kernel_rfl
  neB5 := by decide

/-- A Builder of the call's own that holds these bytes. -/
abbrev IsB (B b : Nat) (bs : List Value) (w : World) : Prop := Lib.IsBuilder 99 5 B b bs w
theorem bString_any (B b : Nat) (l : List UInt8) (w : World) (h : IsB B b (Lib.byteCells l) w) (hB : B ≤ w.heap.size) :
    Calls Tryz.prog 63 #[.pointer (some ⟨b, 0, none⟩)] w fun e w' => e = .returned (.string ⟨l.toArray⟩) ∧ Below B w w' := Any.Builder_String_any laysStr extra169 B b l w h hB
theorem sizeBuilder : (Tryz.prog.info? 99).map (·.size) = some 2 := by kernel_rfl
theorem liesBuilder : liesAt Tryz.prog Tryz.prog.depth 99 (2 / Tryz.prog.cellsOf 99) 0 99 1 = true := by kernel_rfl
theorem infoByte : (Tryz.prog.info? 5).map (fun i => (i.zero, i.size, i.bytes)) = some (some (.int .u8 0), 1, 1) := by kernel_rfl
/-- Blocks that are not the Builder's and hold no bytes are as they were. -/
def Others (b : Nat) (w w' : World) : Prop := ∀ (g : Nat) (cur : Array Value) (t : TypeId) (fr : Nat × Nat), t ≠ 5 → g ≠ b → w.heap[g]? = some (Obj.cells cur t fr) → w'.heap[g]? = w.heap[g]?
set_option maxRecDepth 100000 in
theorem check_any (B b : Nat) (bs : List Value) (w : World) (h : IsB B b bs w) :
    Calls Tryz.prog 77 #[.pointer (some ⟨b, 0, none⟩)] w fun e w' => e = .returned (.tuple #[]) ∧ Lib.BuilderAt 99 5 B b (.pointer (some ⟨b, 0, none⟩)) bs w' ∧ Below B w w' ∧ ∀ g, g ≠ b → w'.heap[g]? = w.heap[g]? := by
  obtain ⟨j, hj, hjs⟩ := Option.map_eq_some_iff.1 sizeBuilder
  rcases h with h | h
  · have c0 := h.cell0
    have z0 := h.frozen0
    have hlt := h.lt
    have hsh := h.shape
    have e1 := Lib.run_to_unsafe w ⟨b, 0, none⟩ Tryz.underlying97 Tryz.underlying117 hj (by rw [hjs]; decide) hsh (Nat.zero_lt_succ 1)
    have e2 := @run_callFunc_extern Tryz.prog 99 _ Extern.AbiNoEscape.same Tryz.func99 (by kernel_rfl) (by kernel_rfl) (by kernel_rfl) (by kernel_rfl)
    have e3 := Lib.run_from_unsafe w ⟨b, 0, none⟩ Tryz.underlying117 Tryz.underlying97 hj hsh liesBuilder
    have e4 : ∀ v w, (Extern.AbiNoEscape.same #[v]).run Tryz.prog w = .ok v w := fun _ _ => rfl
    have e5 := fun w => Lib.run_neq_ptr_same (P := Tryz.prog) w (⟨b, 0, none⟩ : Addr) Tryz.underlying97 hj
    have HH := Lib.hid h
    clear h hsh
    go_enter Tryz.func77, Tryz.ntmps77
    go_wp2
    go_end0
    exact ⟨rfl, HH.out.used _, (Below.refl B w).setCell (p := ⟨b, 0, none⟩) HH.out.1 _, fun g hg => Below.heap_setCell _ _ _ _ hg⟩
  · have c0 := h.cell0
    have hlt := h.lt
    have e5 := fun w => Lib.run_neq_ptr_same (P := Tryz.prog) w (⟨b, 0, none⟩ : Addr) Tryz.underlying97 hj
    have HH := Lib.hid h
    clear h
    go_enter Tryz.func77, Tryz.ntmps77
    go_wp2
    go_end0
    exact ⟨rfl, HH.out, Below.refl B w, fun _ _ => rfl⟩

theorem blk_lt {w : World} {b : Nat} {cs : Array Value} {t : TypeId} {fr : Nat × Nat} (h : w.heap[b]? = some (.cells cs t fr)) : b < w.heap.size := lt_of_heap h
set_option maxRecDepth 100000 in
set_option maxHeartbeats 1000000 in
theorem wByte_any (B b : Nat) (bs : List Value) (c : Int) (w : World) (h : IsB B b bs w) (hlen : bs.length + 1 ≤ 100000000) (hB : B ≤ w.heap.size) :
    Calls Tryz.prog 101 #[.pointer (some ⟨b, 0, none⟩), .int .u8 c] w fun e w' => e = .returned .nilIface ∧ IsB B b (bs ++ [.int .u8 c]) w' ∧ Below B w w' := by
  obtain ⟨i0, hi, hz0, hz1, hz2⟩ := info_parts infoByte
  go_enter Tryz.func101, Tryz.ntmps101
  go_wp2_with fail
  refine (check_any B b bs _ h).mono ?_
  rintro e w1 ⟨rfl, ⟨hb, v, hbk, hown, hne⟩, hb1, hot⟩
  have hot' := Lib.hid hot
  clear hot
  have c1 : w1.cell? ⟨b, 1, none⟩ = some v := cell_of_row _ _ _ _ _ _ hbk
  have hlt := blk_lt hbk
  have hs1 := hb1.size
  go_wp2_with (at_builtin; refine wpList_append_own _ rfl _ _ 44 rfl B 5 i0 (.int .u8 0) 1 1 Tryz.underlying44 hi hz0 hz1 hz2 rfl (by decide) _ _ _ rfl (hown.alloc _) ⟨w1.heap.size, 0, none⟩ 1 1 [.int .u8 c] rfl rfl ?c1 ?c2 ?c3 ?c4 ?c5 ?_)
  case c1 =>
    intro j u hj
    match j, hj with
    | 0, hj => simp at hj; subst hj; simp [Addr.add]
  case c2 => intro u hu; simp at hu; subst hu; rfl
  case c3 => unfold maxLen; omega
  case c4 => omega
  case c5 => simp; omega
  intro v2 w2 hown2 hgrow _
  have hb2 : w2.heap[b]? = some (.cells #[.pointer (some ⟨b, 0, none⟩), v] 99 (0, 0)) := by
    rw [hgrow.block b (by simp; omega) (fun e => hne e.symm), Below.heap_alloc w1 _ b hlt]
    exact hbk
  have d1 : w2.cell? ⟨b, 1, none⟩ = some v := cell_of_row _ _ _ _ _ _ hb2
  have f1 : w2.frozen? ⟨b, 1, none⟩ = false := Blk.frozen (w := w2) hb2 1
  obtain ⟨g, cap, rfl⟩ : ∃ g cap, v2 = .slice (some ⟨g, 0, none⟩) (bs.length + 1) cap := by
    rcases hown2.2 with ⟨_, h0⟩ | ⟨g, cap, cur, hv, _⟩
    · omega
    · exact ⟨g, cap, hv⟩
  have HX : Hid (IsB B b (bs ++ [.int .u8 c]) (w2.setCell ⟨b, 1, none⟩ (.slice (some ⟨g, 0, none⟩) (bs.length + 1) cap))) := Lib.hid (.inr (Lib.BuilderAt.put (T := 99) (e := 5) hb hb2 (bs' := bs ++ [.int .u8 c]) (by simpa using hown2) (by decide)))
  have HY : Hid (Below B w (w2.setCell ⟨b, 1, none⟩ (.slice (some ⟨g, 0, none⟩) (bs.length + 1) cap))) := Lib.hid (((hb1.alloc (by omega) _).grown hgrow (by simp; omega) (fun k hk => (hown.lt k hk).1)).setCell (p := ⟨b, 1, none⟩) hb _)
  clear hgrow hown2 hown hot'
  go_wp2
  go_ret
  exact ⟨rfl, HX.out, HY.out⟩
set_option maxRecDepth 100000 in
set_option maxHeartbeats 1000000 in
theorem wStr_any (B b : Nat) (bs : List Value) (s : ByteArray) (w : World) (h : IsB B b bs w) (hlen : bs.length + s.size ≤ 100000000) (hB : B ≤ w.heap.size) :
    Calls Tryz.prog 60 #[.pointer (some ⟨b, 0, none⟩), .string s] w fun e w' => e = .returned (.tuple #[.int .i64 s.size, .nilIface]) ∧ IsB B b (bs ++ Lib.strCells s) w' ∧ Below B w w' ∧ Others b w w' := by
  obtain ⟨i0, hi, hz0, hz1, hz2⟩ := info_parts infoByte
  go_enter Tryz.func60, Tryz.ntmps60
  go_wp2_with fail
  refine (check_any B b bs _ h).mono ?_
  rintro e w1 ⟨rfl, ⟨hb, v, hbk, hown, hne⟩, hb1, hot⟩
  have hot' := Lib.hid hot
  clear hot
  have c1 : w1.cell? ⟨b, 1, none⟩ = some v := cell_of_row _ _ _ _ _ _ hbk
  have hlt := blk_lt hbk
  have hs1 := hb1.size
  go_wp2_with (at_builtin; refine Lib.wpList_append_own_string _ rfl _ _ 44 9 rfl B 5 i0 Tryz.underlying44 Tryz.underlying9 hi hz0 hz1 hz2 _ _ _ rfl hown s rfl ?c3 ?c4 ?c5 ?_)
  case c3 => unfold maxLen; omega
  case c4 => omega
  case c5 => omega
  intro v2 w2 hown2 hgrow _
  have hb2 : w2.heap[b]? = some (.cells #[.pointer (some ⟨b, 0, none⟩), v] 99 (0, 0)) := by
    rw [hgrow.block b hlt (fun e => hne e.symm)]
    exact hbk
  have d1 : w2.cell? ⟨b, 1, none⟩ = some v := cell_of_row _ _ _ _ _ _ hb2
  have f1 : w2.frozen? ⟨b, 1, none⟩ = false := Blk.frozen (w := w2) hb2 1
  obtain ⟨ao, n, cap, rfl⟩ : ∃ ao n cap, v2 = .slice ao n cap := by
    rcases hown2.2 with ⟨hv, _⟩ | ⟨g, cap, cur, hv, _⟩
    · exact ⟨_, _, _, hv⟩
    · exact ⟨_, _, _, hv⟩
  have HX : Hid (IsB B b (bs ++ Lib.strCells s) (w2.setCell ⟨b, 1, none⟩ (.slice ao n cap))) := Lib.hid (.inr (Lib.BuilderAt.put (T := 99) (e := 5) hb hb2 (bs' := bs ++ Lib.strCells s) (by simpa [Lib.strCells_length] using hown2) (by decide)))
  have HY : Hid (Below B w (w2.setCell ⟨b, 1, none⟩ (.slice ao n cap))) := Lib.hid ((hb1.grown hgrow (by omega) (fun k hk => (hown.lt k hk).1)).setCell (p := ⟨b, 1, none⟩) hb _)
  have HZ : Hid (Others b w (w2.setCell ⟨b, 1, none⟩ (.slice ao n cap))) := Lib.hid (fun g cur t fr ht hg hh => by
    have e1 : (w2.setCell ⟨b, 1, none⟩ (.slice ao n cap)).heap[g]? = w2.heap[g]? := Below.heap_setCell _ _ _ _ hg
    have hh1 : w1.heap[g]? = some (Obj.cells cur t fr) := (hot'.out g hg).trans hh
    have e2 : w2.heap[g]? = w1.heap[g]? := hgrow.block g (lt_of_heap hh1) (fun e => by
      obtain ⟨cur', h2⟩ := own_heap hown e.symm
      rw [hh1] at h2
      cases h2
      exact ht rfl)
    rw [e1, e2, hot'.out g hg])
  clear hgrow hown2 hown hot'
  go_wp2
  go_ret2
  exact ⟨rfl, HX.out, HY.out, HZ.out⟩

/-! texts of numbers, cuts, counts -/
theorem gPow : Tryz.prog.globalNamed "internal/strconv.uint64pow10" = some 4 := by kernel_rfl
/-- What the functions of texts read of memory. -/
structure Txt (w : World) (a : Addr) : Prop where
  err : ErrAt w a
  tab : Lib.TabIs Tryz.prog w "internal/strconv.uint64pow10" .u64 Lib.pow10Tab
  max : ∃ m, w.cell? ⟨1, 0, none⟩ = some (.int .i64 m)
  syn : ∃ te pe, w.cell? ⟨2, 0, none⟩ = some (.iface te pe)
  rng : ∃ te pe, w.cell? ⟨3, 0, none⟩ = some (.iface te pe)
theorem Txt.below {w w' : World} {a : Addr} (h : Txt w a) (hb : Below w.heap.size w w') : Txt w' a := by
  obtain ⟨m, hm⟩ := h.max
  obtain ⟨t1, p1, h1⟩ := h.syn
  obtain ⟨t2, p2, h2⟩ := h.rng
  refine ⟨h.err.below hb, Go.Joins.tab_stays gPow h.tab hb (Nat.le_refl _), ⟨m, ?_⟩, ⟨t1, p1, ?_⟩, ⟨t2, p2, ?_⟩⟩
  · rw [hb.cell (World.block_lt_of_cell? (h := hm))]; exact hm
  · rw [hb.cell (World.block_lt_of_cell? (h := h1))]; exact h1
  · rw [hb.cell (World.block_lt_of_cell? (h := h2))]; exact h2
theorem itoa_any (n : Int) (S : ByteArray) (a : Addr) (w : World) (n1 : -9223372036854775808 ≤ n) (n2 : n ≤ 9223372036854775807) (hT : Txt w a) (hS : (⟨(Lib.itoa n).toArray⟩ : ByteArray) = S) :
    Calls Tryz.prog 78 #[.int .i64 n] w fun e w' => e = .returned (.string S) ∧ Below w.heap.size w w' := by
  subst hS
  have h : Calls Tryz.prog 78 #[.int .i64 n] w fun e w' => e = .returned (.string ⟨(Lib.itoa n).toArray⟩) ∧ ∃ k os, w' = Sort.grow (w.drewN k) os := Any.strconv_Itoa laysItoa n n1 n2 w hT.tab
  exact h.mono (by rintro e w' ⟨rfl, k, os, rfl⟩; exact ⟨rfl, Lib.below_grow _ w (Nat.le_refl _) k os⟩)
theorem cut_any (s L R : ByteArray) (c : UInt8) (f : Bool) (a : Addr) (w : World) (hs : s.size ≤ 100000000) (hT : Txt w a) (h : Lib.cut s.data.toList [c] = (L.data.toList, R.data.toList, f)) :
    Calls Tryz.prog 67 #[.string s, .string ⟨#[c]⟩] w fun e w' => e = .returned (.tuple #[.string L, .string R, .bool f]) ∧ Below w.heap.size w w' := by
  obtain ⟨m, hm⟩ := hT.max
  have h2 : Calls Tryz.prog 67 #[.string s, .string ⟨#[c]⟩] w fun e w' => e = .returned (.tuple #[.string ⟨(Lib.cut s.data.toList [c]).1.toArray⟩, .string ⟨(Lib.cut s.data.toList [c]).2.1.toArray⟩, .bool (Lib.cut s.data.toList [c]).2.2]) ∧ ∃ n, w' = w.drewN n := Any.strings_Cut laysCut s ⟨#[c]⟩ m w (by omega) hm
  rw [h] at h2
  exact h2.mono fun e w' ⟨he, n, hw⟩ => ⟨he, by rw [hw]; exact Go.Joins.below_draws _ _ _⟩
theorem count_any (s : ByteArray) (c : UInt8) (w : World) :
    Calls Tryz.prog 45 #[.string s, .string ⟨#[c]⟩] w fun e w' => e = .returned (.int .i64 (Lib.countByte s.data.toList c)) ∧ w' = w := Any.strings_Count_one laysCount s c w

/-- What a function that gives an int or stops the reading ends in. -/
def outI (a : Addr) : Option Int → Ending
  | some k => .returned (.int .i64 k)
  | none => .panicked [{ v := errV a, recovered := false }]
theorem number_any (s : ByteArray) (o : Option Int) (a : Addr) (w : World) (hs : s.size ≤ 100000000) (hT : Txt w a) (ho : numO s.data.toList = o) :
    Calls Tryz.prog 72 #[.string s] w fun e w' => e = outI a o ∧ Below w.heap.size w w' := by
  unfold numO at ho
  have HE := Lib.hid hT.err
  obtain ⟨t1, p1, h1⟩ := hT.syn
  obtain ⟨t2, p2, h2⟩ := hT.rng
  cases h : Lib.atoiAll s.data.toList with
  | ok v =>
    rw [h] at ho
    obtain rfl : o = some v := ho.symm
    have hat : Calls Tryz.prog 97 #[.string s] w fun e w' => e = .returned (.tuple #[.int .i64 v, .nilIface]) ∧ (w' = w ∨ ∃ t, w' = Lib.bytesWorld w 5 t) := Any.strconv_Atoi_ok laysAtoi s (by omega) v h w
    have HA := Lib.hid hat
    clear hat h ho h1 h2 hT hs
    go_enter Tryz.func72, Tryz.ntmps72
    go_wp2_with fail
    refine HA.out.mono ?_; rintro e w' ⟨rfl, hw⟩
    have HB : Hid (Below w.heap.size w w') := Lib.hid (by
      rcases hw with rfl | ⟨t, rfl⟩
      · exact Below.refl _ _
      · exact Lib.bytesWorld_below _ _ _)
    clear hw
    go_wp2_with fail
    refine (require_any true a _ (HE.out.below HB.out)).mono ?_
    rintro e w2 ⟨rfl, rfl⟩
    unfold ends
    go_wp2_with fail
    go_ret
    exact ⟨rfl, HB.out⟩
  | «syntax» =>
    rw [h] at ho
    obtain rfl : o = none := ho.symm
    have hat : Calls Tryz.prog 97 #[.string s] w fun e w' => ∃ N, e = .returned (.tuple #[.int .i64 (0), .iface 135 (.pointer (some ⟨N, 0, none⟩))]) ∧ w.heap.size ≤ N ∧ w'.heap[N]? = some (.cells #[.string ⟨#[65, 116, 111, 105]⟩, .string s, .iface t1 p1] 145 (0, 0)) ∧ RowKit.Below w.heap.size w w' := Any.strconv_Atoi_syntax laysAtoi s (by omega) h _ w h1 (.inr ⟨_, _, rfl⟩)
    have HA := Lib.hid hat
    clear hat h ho h1 h2 hT hs
    go_enter Tryz.func72, Tryz.ntmps72
    go_wp2_with fail
    refine HA.out.mono ?_; rintro e w' ⟨N, rfl, -, -, hb⟩
    have HB := Lib.hid hb
    clear hb
    go_wp2_with fail
    refine (require_any false a _ (HE.out.below HB.out)).mono ?_
    rintro e w2 ⟨rfl, rfl⟩
    unfold ends
    go_wp2_with fail
    exact ⟨rfl, rfl, HB.out⟩
  | range =>
    rw [h] at ho
    obtain rfl : o = none := ho.symm
    have hat : Calls Tryz.prog 97 #[.string s] w fun e w' => ∃ N, e = .returned (.tuple #[.int .i64 (Lib.atoiSat s.data.toList), .iface 135 (.pointer (some ⟨N, 0, none⟩))]) ∧ w.heap.size ≤ N ∧ w'.heap[N]? = some (.cells #[.string ⟨#[65, 116, 111, 105]⟩, .string s, .iface t2 p2] 145 (0, 0)) ∧ RowKit.Below w.heap.size w w' := Any.strconv_Atoi_range laysAtoi s (by omega) h _ w h2 (.inr ⟨_, _, rfl⟩)
    have HA := Lib.hid hat
    clear hat h ho h1 h2 hT hs
    go_enter Tryz.func72, Tryz.ntmps72
    go_wp2_with fail
    refine HA.out.mono ?_; rintro e w' ⟨N, rfl, -, -, hb⟩
    have HB := Lib.hid hb
    clear hb
    go_wp2_with fail
    refine (require_any false a _ (HE.out.below HB.out)).mono ?_
    rintro e w2 ⟨rfl, rfl⟩
    unfold ends
    go_wp2_with fail
    exact ⟨rfl, rfl, HB.out⟩
end Go.Proofs.YtcnokccgdiodlaaGreatDoor
