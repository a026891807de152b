/- Whether a field may stand next, by its kind. Conditions: the table lies there; the fields' numbers are ints. -/
import Derived.Test.YtcnokccgdiodlaaGreatDoorFmtE
namespace Go.Proofs.YtcnokccgdiodlaaGreatDoor
open Go.RowKit Fx Go.Sort

theorem TabAt.boxes_ {w : World} {P : Nat → Prop} {tb : Nat} {s : St} (h : TabAt w P tb s) : ∃ b1 b2 c b3, (∀ i, i < 35 → w.cell? ⟨tb, i, none⟩ = (kindsV b1 c b3)[i]?) ∧ Boxes w b1 b2 c b3 ∧ tb < w.heap.size := by
  obtain ⟨cs, mb, b1, b2, c, b3, vF, vs, vO, hC, hO⟩ := h
  exact ⟨b1, b2, c, b3, fun i hi => (hC.blk.cell i).trans (hC.kinds i hi), hC.boxes, hC.blk.lt⟩
set_option maxHeartbeats 1000000 in
theorem counted_any (P : Nat → Prop) (tb c b2 : Nat) (s : St) (f : Fld) (v : Bool) (w : World) (hT : TabAt w P tb s) (hk : w.heap[c]? = some (.cells (sizedV ⟨#[98, 121, 116, 101, 115]⟩ b2) 73 (0, 0)))
    (l2 : w.cell? ⟨b2, 0, none⟩ = some (.int .i64 0)) (h2 : w.cell? ⟨b2 + 1, 0, none⟩ = some (.int .i64 4096)) (hl : s.o.fs.length ≤ 16) (hv : (Fx.sized 0 4096 f || Fx.counted s.o.fs f) = v) :
    Calls Tryz.prog 107 #[adr tb, fldV f, adr c] w fun e w' => e = .returned (.bool v) ∧ Below w.heap.size w w' := by
  have c1 : w.cell? ⟨c, 1, none⟩ = some (clo 103 #[adr b2, adr (b2 + 1)]) := cell_of_row _ _ _ _ _ _ hk
  have hcl := lt_of_heap hk
  have hlt := World.block_lt_of_cell? (h := h2)
  have hlt0 := World.block_lt_of_cell? (h := l2)
  obtain ⟨u, hu⟩ : ∃ u, Fx.sized 0 4096 f = u := ⟨_, rfl⟩
  have HC : Hid (∀ w0, Below w.heap.size w w0 → Calls Tryz.prog 103 #[adr tb, fldV f, adr b2, adr (b2 + 1)] w0 fun e w' => e = .returned (.bool u) ∧ Below w0.heap.size w0 w') := Lib.hid (fun w0 hb =>
    sized_any (adr tb) 0 4096 ⟨b2, 0, none⟩ ⟨b2 + 1, 0, none⟩ f u w0 (((bcell hb).1 _ _ hlt0).trans l2) (((bcell hb).1 _ _ hlt).trans h2) hu)
  have HT := Lib.hid hT
  have HL := Lib.hid hl
  have HV := Lib.hid hv
  have HU := Lib.hid hu
  have HH := Lib.hid hcl
  clear hT hl hv hu hk l2 h2 hlt hlt0
  cases u with
  | true =>
    have HR : Hid (true = v) := Lib.hid (by rw [← HV.out, HU.out]; rfl)
    go_enter Tryz.func107, Tryz.ntmps107
    go_wp2_with fail
    refine (HC.out _ (bx _)).mono ?_
    rintro e w1 ⟨rfl, hB⟩
    go_wp2_with fail
    go_ret
    exact ⟨ret_bool HR.out, (bx _).trans (hB.mono (by simp))⟩
  | false =>
    by_cases h1 : f.n = 0
    · have d1 : ((f.n : Int) == 0) = true := by simpa using h1
      by_cases h2 : f.text.size = 0
      · obtain ⟨e1, e2⟩ := emp_of h2
        obtain ⟨q, hq⟩ : ∃ q, counts s.o.fs f.frm = q := ⟨_, rfl⟩
        have HR : Hid (q = v) := Lib.hid (by rw [← HV.out, HU.out]; unfold counted; rw [decide_eq_true h1, decide_eq_true h2, hq]; rfl)
        have HQ := Lib.hid hq
        clear hq h1 h2
        go_enter Tryz.func107, Tryz.ntmps107
        go_wp2_with fail
        refine (HC.out _ (bx _)).mono ?_
        rintro e w1 ⟨rfl, hB⟩
        obtain ⟨hc, _⟩ := bcell hB
        have x1 : w1.cell? ⟨w.heap.size, 1, none⟩ = some (.int .i64 f.n) := by rw [hc _ _ (by simp)]; simp [go_sem]
        have x2 : w1.cell? ⟨w.heap.size, 2, none⟩ = some (.int .i64 f.frm) := by rw [hc _ _ (by simp)]; simp [go_sem]
        have x3 : w1.cell? ⟨w.heap.size, 3, none⟩ = some (.string f.text) := by rw [hc _ _ (by simp)]; simp [go_sem]
        have HB : Hid (Below w.heap.size w w1) := Lib.hid ((bx _).trans (hB.mono (by simp)))
        clear hc hB
        go_wp2_with fail
        refine (counts_any P tb s f.frm q _ (HT.out.below HB.out) HL.out HQ.out).mono ?_
        rintro e w' ⟨rfl, rfl⟩
        go_wp2_with fail
        go_ret
        exact ⟨ret_bool HR.out, HB.out⟩
      · obtain ⟨e1, e2⟩ := emp_not h2
        have HR : Hid (false = v) := Lib.hid (by rw [← HV.out, HU.out]; unfold counted; rw [decide_eq_true h1, decide_eq_false h2]; rfl)
        clear h1 h2
        go_enter Tryz.func107, Tryz.ntmps107
        go_wp2_with fail
        refine (HC.out _ (bx _)).mono ?_
        rintro e w1 ⟨rfl, hB⟩
        obtain ⟨hc, _⟩ := bcell hB
        have x1 : w1.cell? ⟨w.heap.size, 1, none⟩ = some (.int .i64 f.n) := by rw [hc _ _ (by simp)]; simp [go_sem]
        have x3 : w1.cell? ⟨w.heap.size, 3, none⟩ = some (.string f.text) := by rw [hc _ _ (by simp)]; simp [go_sem]
        have HB : Hid (Below w.heap.size w w1) := Lib.hid ((bx _).trans (hB.mono (by simp)))
        clear hc hB
        go_wp2_with fail
        go_ret
        exact ⟨ret_bool HR.out, HB.out⟩
    · have d1 : ((f.n : Int) == 0) = false := by simpa using h1
      have HR : Hid (false = v) := Lib.hid (by rw [← HV.out, HU.out]; unfold counted; rw [decide_eq_false h1]; rfl)
      clear h1
      go_enter Tryz.func107, Tryz.ntmps107
      go_wp2_with fail
      refine (HC.out _ (bx _)).mono ?_
      rintro e w1 ⟨rfl, hB⟩
      obtain ⟨hc, _⟩ := bcell hB
      have x1 : w1.cell? ⟨w.heap.size, 1, none⟩ = some (.int .i64 f.n) := by rw [hc _ _ (by simp)]; simp [go_sem]
      have HB : Hid (Below w.heap.size w w1) := Lib.hid ((bx _).trans (hB.mono (by simp)))
      clear hc hB
      go_wp2_with fail
      go_ret
      exact ⟨ret_bool HR.out, HB.out⟩

/-! the kinds, as they are called -/
def wordB (K : Nat) : ByteArray := ⟨(wordK K).toArray⟩
def fnR (K : Nat) : FuncId := if K = 1 then 79 else if K = 3 then 107 else if K = 4 then 88 else if K = 5 then 92 else 103
def fnL (K : Nat) : FuncId := if K = 1 then 81 else if K = 4 then 89 else if K = 5 then 94 else 104
def fnW (K : Nat) : FuncId := if K = 1 then 82 else if K = 3 then 109 else if K = 4 ∨ K = 5 then 90 else 105
def fnD (K : Nat) : FuncId := if K = 1 then 84 else if K = 3 then 110 else if K = 4 ∨ K = 5 then 91 else 106
def capR (K b1 c b3 : Nat) : Array Value := if K = 2 then #[adr b1, adr (b1 + 1)] else if K = 3 then #[adr c] else if K = 6 then #[adr b3, adr (b3 + 1)] else #[]
def capW (K c : Nat) : Array Value := if K = 3 then #[adr c] else #[]
/-- The cells of a kind. -/
structure KindAt (w : World) (tb K b1 c b3 : Nat) : Prop where
  c0 : w.cell? ⟨tb, K * 5, none⟩ = some (.string (wordB K))
  c1 : w.cell? ⟨tb, K * 5 + 1, none⟩ = some (clo (fnR K) (capR K b1 c b3))
  c2 : w.cell? ⟨tb, K * 5 + 2, none⟩ = some (clo (fnL K) #[])
  c3 : w.cell? ⟨tb, K * 5 + 3, none⟩ = some (clo (fnW K) (capW K c))
  c4 : w.cell? ⟨tb, K * 5 + 4, none⟩ = some (clo (fnD K) #[])
theorem kindAt_of {w : World} {tb b1 c b3 : Nat} (h : ∀ i, i < 35 → w.cell? ⟨tb, i, none⟩ = (kindsV b1 c b3)[i]?) (K : Nat) (h1 : 1 ≤ K) (h6 : K ≤ 6) : KindAt w tb K b1 c b3 := by
  obtain rfl | rfl | rfl | rfl | rfl | rfl : K = 1 ∨ K = 2 ∨ K = 3 ∨ K = 4 ∨ K = 5 ∨ K = 6 := by omega
  all_goals exact ⟨(h _ (by omega)).trans rfl, (h _ (by omega)).trans rfl, (h _ (by omega)).trans rfl, (h _ (by omega)).trans rfl, (h _ (by omega)).trans rfl⟩
theorem en (f : FuncId) (h : f = 79 ∨ f = 81 ∨ f = 89 ∨ f = 92 ∨ f = 94 ∨ f = 88 ∨ f = 103 ∨ f = 104 ∨ f = 107) : Enters f := by
  rcases h with rfl | rfl | rfl | rfl | rfl | rfl | rfl | rfl | rfl
  · exact enters_of Tryz.func79 (by kernel_rfl) (by kernel_rfl)
  · exact enters_of Tryz.func81 (by kernel_rfl) (by kernel_rfl)
  · exact enters_of Tryz.func89 (by kernel_rfl) (by kernel_rfl)
  · exact enters_of Tryz.func92 (by kernel_rfl) (by kernel_rfl)
  · exact enters_of Tryz.func94 (by kernel_rfl) (by kernel_rfl)
  · exact enters_of Tryz.func88 (by kernel_rfl) (by kernel_rfl)
  · exact enters_of Tryz.func103 (by kernel_rfl) (by kernel_rfl)
  · exact enters_of Tryz.func104 (by kernel_rfl) (by kernel_rfl)
  · exact enters_of Tryz.func107 (by kernel_rfl) (by kernel_rfl)
theorem enR (K : Nat) : Enters (fnR K) := by
  unfold fnR
  apply en
  repeat' split
  all_goals simp
theorem enL (K : Nat) : Enters (fnL K) := by
  unfold fnL
  apply en
  repeat' split
  all_goals simp

/-- What the functions of the kinds answer. -/
theorem right_any (P : Nat → Prop) (tb K b1 b2 c b3 : Nat) (s : St) (f : Fld) (w : World) (hT : TabAt w P tb s) (hX : Boxes w b1 b2 c b3) (hl : s.o.fs.length ≤ 16) (hN : NumsOk s.o.fs) (hf : Ints f) (h1 : 1 ≤ K) (h6 : K ≤ 6) (hK : f.kind = K) :
    Calls Tryz.prog (fnR K) (#[adr tb, fldV f] ++ capR K b1 c b3) w fun e w' => e = .returned (.bool (Fx.right (lm s.d) s.o.fs f)) ∧ Below w.heap.size w w' := by
  unfold Fx.right
  obtain rfl | rfl | rfl | rfl | rfl | rfl : K = 1 ∨ K = 2 ∨ K = 3 ∨ K = 4 ∨ K = 5 ∨ K = 6 := by omega
  · rw [if_pos (by omega)]
    exact literal_any _ f _ w hf.t rfl
  · rw [if_neg (by omega), if_pos (by omega)]
    exact sized_any _ 1 3 ⟨b1, 0, none⟩ ⟨b1 + 1, 0, none⟩ f _ w (box_cell hX.l1) (box_cell hX.h1) rfl
  · rw [if_neg (by omega), if_neg (by omega), if_pos (by omega)]
    exact counted_any P tb c b2 s f _ w hT hX.k (box_cell hX.l2) (box_cell hX.h2) hl rfl
  · rw [if_neg (by omega), if_neg (by omega), if_neg (by omega), if_pos (by omega)]
    exact nests_any P tb s f _ w hT hl hf rfl
  · rw [if_neg (by omega), if_neg (by omega), if_neg (by omega), if_neg (by omega), if_pos (by omega)]
    exact inside_any P tb s f _ w hT hl hN hf rfl
  · rw [if_neg (by omega), if_neg (by omega), if_neg (by omega), if_neg (by omega), if_neg (by omega), if_pos (by omega)]
    exact sized_any _ 1 3 ⟨b3, 0, none⟩ ⟨b3 + 1, 0, none⟩ f _ w (box_cell hX.l3) (box_cell hX.h3) rfl
theorem least_any (P : Nat → Prop) (tb K : Nat) (s : St) (f : Fld) (w : World) (hT : TabAt w P tb s) (hf : Ints f) (h1 : 1 ≤ K) (h6 : K ≤ 6) (hK : f.kind = K) :
    Calls Tryz.prog (fnL K) #[adr tb, fldV f] w fun e w' => e = .returned (.int .i64 (lf (lm s.d) f)) ∧ Below w.heap.size w w' := by
  unfold lf
  obtain rfl | rfl | rfl | rfl | rfl | rfl : K = 1 ∨ K = 2 ∨ K = 3 ∨ K = 4 ∨ K = 5 ∨ K = 6 := by omega
  · rw [if_pos (by omega)]
    exact textLen_any _ f w
  · rw [if_neg (by omega), if_neg (by omega), if_neg (by omega)]
    exact nLen_any _ f w
  · rw [if_neg (by omega), if_neg (by omega), if_neg (by omega)]
    exact nLen_any _ f w
  · rw [if_neg (by omega), if_pos (by omega)]
    exact zeroLen_any _ f w
  · rw [if_neg (by omega), if_neg (by omega), if_pos (by omega)]
    exact lookLen_any P tb s f w hT hf
  · rw [if_neg (by omega), if_neg (by omega), if_neg (by omega)]
    exact nLen_any _ f w
end Go.Proofs.YtcnokccgdiodlaaGreatDoor
