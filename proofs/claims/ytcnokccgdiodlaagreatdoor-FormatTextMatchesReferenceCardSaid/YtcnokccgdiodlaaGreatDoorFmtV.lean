/- What the functions of the kinds read. Conditions: a cutter's boxes; words of limited length; what the functions of texts read of memory. -/
import Derived.Test.YtcnokccgdiodlaaGreatDoorFmtU
namespace Go.Proofs.YtcnokccgdiodlaaGreatDoor
open Go.RowKit Go.Shelf Fx

/-- What a call for a field ends in. -/
def outF (a : Addr) : Option Fld → Ending
  | some f => .returned (fldV f)
  | none => .panicked [{ v := errV a, recovered := false }]
/-- A cutter as a value. -/
abbrev cutV (bm br bp : Nat) : Value := clo 66 #[adr bm, adr br, adr bp]
/-- The parts of a string are no longer than it. -/
def Short (ps : List (List UInt8)) : Prop := ∀ p ∈ ps, p.length ≤ 10000000
theorem infoFld4 : (Tryz.prog.info? 56).map (·.size) = some 4 := by kernel_rfl
theorem fld_one (f : Fld) : (#[Value.int .i64 f.kind, .int .i64 f.n, .int .i64 f.frm, .string f.text] : Array Value).all (·.oneCell') = true := by simp [Value.oneCell']
theorem outS_some (a : Addr) (p : List UInt8) : outS a (some p) = .returned (.string (bs p)) := rfl
abbrev fldCs (f : Fld) : Array Value := #[.int .i64 f.kind, .int .i64 f.n, .int .i64 f.frm, .string f.text]
/-- What stands while words are read. -/
structure RS (w w1 : World) (bm br bp : Nat) (a : Addr) (ps : List (List UInt8)) : Prop where
  k : CutTo bm br w w1
  c : CutAt w1 bm br bp 32 ps
  t : Txt w1 a
  f : w1.heap[w.heap.size]? = some (.cells #[.int .i64 0, .int .i64 0, .int .i64 0, .string ⟨#[]⟩] 56 (0, 0))
  lm : bm < w.heap.size
  lr : br < w.heap.size
section
variable {w w1 w2 : World} {bm br bp : Nat} {a : Addr} {ps ps' : List (List UInt8)}
theorem RS.start (hC : CutAt w bm br bp 32 ps) (hT : Txt w a) : RS w (w.alloc (.cells #[.int .i64 0, .int .i64 0, .int .i64 0, .string ⟨#[]⟩] 56)) bm br bp a ps :=
  ⟨CutTo.of_below (bx _), hC.below (bx _), hT.below (bx _), heap_alloc_new _ _, hC.lt.1, hC.lt.2.1⟩
theorem RS.cut (h : RS w w1 bm br bp a ps) (hk : CutTo bm br w1 w2) (hc : CutAt w2 bm br bp 32 ps') : RS w w2 bm br bp a ps' :=
  ⟨h.k.trans hk, hc, h.t.cut h.c hk, (hk.block _ ⟨lt_of_heap h.f, by have := h.lm; omega, by have := h.lr; omega⟩).trans h.f, h.lm, h.lr⟩
theorem RS.below (h : RS w w1 bm br bp a ps) (hb : Below w1.heap.size w1 w2) : RS w w2 bm br bp a ps := h.cut (CutTo.of_below hb) (h.c.below hb)
theorem RS.next (h : RS w w1 bm br bp a ps) : Calls Tryz.prog 66 #[adr bm, adr br, adr bp] w1 fun e w' => e = outS a ps.head? ∧ RS w w' bm br bp a ps.tail :=
  (next_any bm br bp 32 ps a w1 h.c h.t).mono fun _ _ h1 => ⟨h1.1, h.cut h1.2.2 h1.2.1⟩
theorem RS.number (h : RS w w1 bm br bp a ps) (p : List UInt8) (hp : p.length ≤ 10000000) : Calls Tryz.prog 72 #[.string (bs p)] w1 fun e w' => e = outI a (numO p) ∧ RS w w' bm br bp a ps :=
  (number_any (bs p) (numO p) a w1 (Nat.le_trans hp (by decide)) h.t rfl).mono fun _ _ h1 => ⟨h1.1, h.below h1.2⟩
theorem RS.unhex (h : RS w w1 bm br bp a ps) (p : List UInt8) (hp : p.length ≤ 10000000) : Calls Tryz.prog 85 #[.string (bs p)] w1 fun e w' => e = outS a (unhexO p) ∧ RS w w' bm br bp a ps :=
  (unhex_any (bs p) (unhexO p) a w1 hp h.t rfl).mono fun _ _ h1 => ⟨h1.1, h.below h1.2⟩
theorem RS.done (h : RS w w1 bm br bp a ps) (cs : Array Value) : CutTo bm br w (w1.setRow w.heap.size cs) := by
  refine Kept.trans h.k ⟨rfl, rfl, rfl, by simp, fun k hk => ?_⟩
  simp only [World.setRow, Array.getElem?_modify]
  rw [if_neg (by have := hk.1; omega)]
end
theorem rLit_any (bm br bp : Nat) (ps : List (List UInt8)) (R : Option Fld) (a : Addr) (w : World) (hC : CutAt w bm br bp 32 ps) (hT : Txt w a) (hS : Short ps) (hR : readK 1 ps = R) :
    Calls Tryz.prog 84 #[cutV bm br bp] w fun e w' => e = outF a R ∧ CutTo bm br w w' := by
  have H0 := Lib.hid (RS.start hC hT)
  have HR := Lib.hid hR
  clear hT hR hC
  go_enter Tryz.func84, Tryz.ntmps84
  go_wp2_with fail
  refine H0.out.next.mono ?_
  rintro e w1 ⟨rfl, h1⟩
  have H1 := Lib.hid h1
  clear h1 H0
  cases ps with
  | nil =>
    obtain rfl : R = none := by rw [← HR.out]; rfl
    simp only [List.head?_nil]
    unfold outS
    go_wp2_with fail
    exact ⟨rfl, rfl, H1.out.k⟩
  | cons p r =>
    simp only [List.head?_cons]
    unfold outS
    go_wp2_with fail
    refine (H1.out.unhex p (hS p (by simp))).mono ?_
    rintro e w2 ⟨rfl, h2⟩
    have H2 := Lib.hid h2
    have HRU : Hid ((unhexO p).map (fun l => (⟨0, 0, -1, bs l⟩ : Fld)) = R) := Lib.hid (by rw [← HR.out]; rfl)
    clear h2 H1 HR
    generalize unhexO p = U at HRU
    cases U with
    | none =>
      obtain rfl : R = none := HRU.out.symm
      unfold outS
      go_wp2_with fail
      exact ⟨rfl, rfl, H2.out.k⟩
    | some l =>
      unfold outS
      go_wp2_with (first | (refine wpList_store_row rfl 56 _ _ rfl w.heap.size (fldCs ⟨0, 0, -1, bs l⟩) rfl rfl 56 _ H2.out.f (infoFld4.trans rfl) rfl (fld_one ⟨0, 0, -1, bs l⟩) ?_))
      refine bodyPost_ret (v := fldV ⟨0, 0, -1, bs l⟩) ?_ rfl ⟨?_, H2.out.done _⟩
      · exact results_cell_row rfl _ _ w.heap.size _ _ (0, 0) _ rfl (setRow_heap _ _ _ _ _ _ H2.out.f) Tryz.underlying56 rfl (infoFld4.trans rfl)
      · rw [← HRU.out]; rfl
theorem rNum_any (bm br bp : Nat) (ps : List (List UInt8)) (R : Option Fld) (a : Addr) (w : World) (hC : CutAt w bm br bp 32 ps) (hT : Txt w a) (hS : Short ps) (hR : ((numW ps).map fun n => (⟨0, n, -1, eb⟩ : Fld)) = R) :
    Calls Tryz.prog 106 #[cutV bm br bp] w fun e w' => e = outF a R ∧ CutTo bm br w w' := by
  have H0 := Lib.hid (RS.start hC hT)
  have HR := Lib.hid hR
  clear hT hR hC
  go_enter Tryz.func106, Tryz.ntmps106
  go_wp2_with fail
  refine H0.out.next.mono ?_
  rintro e w1 ⟨rfl, h1⟩
  have H1 := Lib.hid h1
  clear h1 H0
  cases ps with
  | nil =>
    obtain rfl : R = none := by rw [← HR.out]; rfl
    simp only [List.head?_nil]
    unfold outS
    go_wp2_with fail
    exact ⟨rfl, rfl, H1.out.k⟩
  | cons p r =>
    simp only [List.head?_cons]
    unfold outS
    go_wp2_with fail
    refine (H1.out.number p (hS p (by simp))).mono ?_
    rintro e w2 ⟨rfl, h2⟩
    have H2 := Lib.hid h2
    have HRU : Hid ((numO p).map (fun n => (⟨0, n, -1, eb⟩ : Fld)) = R) := Lib.hid (by rw [← HR.out]; rfl)
    clear h2 H1 HR
    generalize numO p = U at HRU
    cases U with
    | none =>
      obtain rfl : R = none := HRU.out.symm
      unfold outI
      go_wp2_with fail
      exact ⟨rfl, rfl, H2.out.k⟩
    | some n =>
      unfold outI
      go_wp2_with (first | (refine wpList_store_row rfl 56 _ _ rfl w.heap.size (fldCs ⟨0, n, -1, eb⟩) rfl rfl 56 _ H2.out.f (infoFld4.trans rfl) rfl (fld_one ⟨0, n, -1, eb⟩) ?_))
      refine bodyPost_ret (v := fldV ⟨0, n, -1, eb⟩) ?_ rfl ⟨?_, H2.out.done _⟩
      · exact results_cell_row rfl _ _ w.heap.size _ _ (0, 0) _ rfl (setRow_heap _ _ _ _ _ _ H2.out.f) Tryz.underlying56 rfl (infoFld4.trans rfl)
      · rw [← HRU.out]; rfl
theorem bs_inj {p q : List UInt8} (h : bs p = bs q) : p = q := by
  have := congrArg (fun s : ByteArray => s.data.toList) h
  simpa using this
theorem rCounted_any (bm br bp : Nat) (ps : List (List UInt8)) (R : Option Fld) (a : Addr) (w : World) (hC : CutAt w bm br bp 32 ps) (hT : Txt w a) (hS : Short ps) (hR : readK 3 ps = R) :
    Calls Tryz.prog 110 #[cutV bm br bp] w fun e w' => e = outF a R ∧ CutTo bm br w w' := by
  have H0 := Lib.hid (RS.start hC hT)
  have HR := Lib.hid hR
  clear hT hR hC
  go_enter Tryz.func110, Tryz.ntmps110
  go_wp2_with fail
  refine H0.out.next.mono ?_
  rintro e w1 ⟨rfl, h1⟩
  have H1 := Lib.hid h1
  clear h1 H0
  cases ps with
  | nil =>
    obtain rfl : R = none := by rw [← HR.out]; rfl
    simp only [List.head?_nil]
    unfold outS
    go_wp2_with fail
    exact ⟨rfl, rfl, H1.out.k⟩
  | cons p r =>
    simp only [List.head?_cons]
    rw [outS_some]
    by_cases hpf : p = wFrom
    · subst hpf
      have HRU : Hid ((numW r).map (fun n => (⟨0, 0, n, eb⟩ : Fld)) = R) := Lib.hid (by rw [← HR.out]; rfl)
      clear HR
      have hst : bs wFrom = (⟨#[102, 114, 111, 109]⟩ : ByteArray) := rfl
      rw [hst]
      go_wp2_with fail
      refine H1.out.next.mono ?_
      rintro e w2 ⟨rfl, h2⟩
      have H2 := Lib.hid h2
      clear h2 H1
      simp only [List.tail_cons] at H2 ⊢
      cases r with
      | nil =>
        obtain rfl : R = none := HRU.out.symm
        simp only [List.head?_nil]
        unfold outS
        go_wp2_with fail
        exact ⟨rfl, rfl, H2.out.k⟩
      | cons q r =>
        simp only [List.head?_cons]
        unfold outS
        go_wp2_with fail
        refine (H2.out.number q (hS q (by simp))).mono ?_
        rintro e w3 ⟨rfl, h3⟩
        have H3 := Lib.hid h3
        have HRV : Hid ((numO q).map (fun n => (⟨0, 0, n, eb⟩ : Fld)) = R) := Lib.hid (by rw [← HRU.out]; rfl)
        clear h3 H2 HRU
        generalize numO q = U at HRV
        cases U with
        | none =>
          obtain rfl : R = none := HRV.out.symm
          unfold outI
          go_wp2_with fail
          exact ⟨rfl, rfl, H3.out.k⟩
        | some n =>
          unfold outI
          go_wp2_with (first | (refine wpList_store_row rfl 56 _ _ rfl w.heap.size (fldCs ⟨0, 0, n, eb⟩) rfl rfl 56 _ H3.out.f (infoFld4.trans rfl) rfl (fld_one ⟨0, 0, n, eb⟩) ?_))
          refine bodyPost_ret (v := fldV ⟨0, 0, n, eb⟩) ?_ rfl ⟨?_, H3.out.done _⟩
          · exact results_cell_row rfl _ _ w.heap.size _ _ (0, 0) _ rfl (setRow_heap _ _ _ _ _ _ H3.out.f) Tryz.underlying56 rfl (infoFld4.trans rfl)
          · rw [← HRV.out]; rfl
    · have HRU : Hid ((numO p).map (fun n => (⟨0, n, -1, eb⟩ : Fld)) = R) := Lib.hid (by
        rw [← HR.out]
        unfold readK
        rw [if_neg (by decide), if_pos rfl]
        simp only
        rw [if_neg hpf])
      have hb : (p == [102, 114, 111, 109]) = false := beq_false_of_ne hpf
      clear HR hpf
      have hp := hS p (by simp)
      go_wp2_with fail
      refine (H1.out.number p hp).mono ?_
      rintro e w2 ⟨rfl, h2⟩
      have H2 := Lib.hid h2
      clear h2 H1
      generalize numO p = U at HRU
      cases U with
      | none =>
        obtain rfl : R = none := HRU.out.symm
        unfold outI
        go_wp2_with fail
        exact ⟨rfl, rfl, H2.out.k⟩
      | some n =>
        unfold outI
        go_wp2_with (first | (refine wpList_store_row rfl 56 _ _ rfl w.heap.size (fldCs ⟨0, n, -1, eb⟩) rfl rfl 56 _ H2.out.f (infoFld4.trans rfl) rfl (fld_one ⟨0, n, -1, eb⟩) ?_))
        refine bodyPost_ret (v := fldV ⟨0, n, -1, eb⟩) ?_ rfl ⟨?_, H2.out.done _⟩
        · exact results_cell_row rfl _ _ w.heap.size _ _ (0, 0) _ rfl (setRow_heap _ _ _ _ _ _ H2.out.f) Tryz.underlying56 rfl (infoFld4.trans rfl)
        · rw [← HRU.out]; rfl
end Go.Proofs.YtcnokccgdiodlaaGreatDoor
