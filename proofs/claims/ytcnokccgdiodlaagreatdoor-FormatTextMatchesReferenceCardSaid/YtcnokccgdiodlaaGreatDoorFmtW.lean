/- What the functions of the kinds read, by kind. Conditions: a cutter's boxes; words of limited length; what the functions of texts read of memory. -/
import Derived.Test.YtcnokccgdiodlaaGreatDoorFmtV
namespace Go.Proofs.YtcnokccgdiodlaaGreatDoor
open Go.RowKit Go.Shelf Fx

/-- What is read behind the first number. -/
def nestR (n : Int) (r' : List (List UInt8)) : Option Fld :=
  match r' with
  | [] => none
  | q :: r'' => if q = wFrom then (numW r'').map fun m => ⟨0, n, m, eb⟩ else none
theorem nestR_spec (p : List UInt8) (r : List (List UInt8)) : readK 4 (p :: r) = match numO p with
    | none => none
    | some n => nestR n r := by
  unfold readK nestR
  rw [if_neg (by decide), if_neg (by decide), if_pos (by decide)]
  rfl
theorem rNested_any (bm br bp : Nat) (ps : List (List UInt8)) (R : Option Fld) (a : Addr) (w : World) (hC : CutAt w bm br bp 32 ps) (hT : Txt w a) (hS : Short ps) (hR : readK 4 ps = R) :
    Calls Tryz.prog 91 #[cutV bm br bp] w fun e w' => e = outF a R ∧ CutTo bm br w w' := by
  have H0 := Lib.hid (RS.start hC hT)
  have HR := Lib.hid hR
  have HE := Lib.hid hT.err
  clear hT hR hC
  go_enter Tryz.func91, Tryz.ntmps91
  go_wp2_with fail
  refine H0.out.next.mono ?_
  rintro e w1 ⟨rfl, h1⟩
  have H1 := Lib.hid h1
  clear h1 H0
  cases ps with
  | nil =>
    obtain rfl : R = none := by rw [← HR.out]; rfl
    simp only [List.head?_nil]
    unfold outS
    go_wp2_with fail
    exact ⟨rfl, rfl, H1.out.k⟩
  | cons p r =>
    simp only [List.head?_cons]
    rw [outS_some]
    go_wp2_with fail
    refine (H1.out.number p (hS p (by simp))).mono ?_
    rintro e w2 ⟨rfl, h2⟩
    have H2 := Lib.hid h2
    have HRU : Hid ((match numO p with | none => none | some n => nestR n r) = R) := Lib.hid (by rw [← HR.out, nestR_spec])
    clear h2 H1 HR
    generalize numO p = U at HRU
    cases U with
    | none =>
      obtain rfl : R = none := HRU.out.symm
      unfold outI
      go_wp2_with fail
      exact ⟨rfl, rfl, H2.out.k⟩
    | some n =>
      have HRV : Hid (nestR n r = R) := HRU
      clear HRU
      unfold outI
      go_wp2_with fail
      refine H2.out.next.mono ?_
      rintro e w3 ⟨rfl, h3⟩
      have H3 := Lib.hid h3
      clear h3 H2
      simp only [List.tail_cons] at H3 ⊢
      cases r with
      | nil =>
        obtain rfl : R = none := HRV.out.symm
        simp only [List.head?_nil]
        unfold outS
        go_wp2_with fail
        exact ⟨rfl, rfl, H3.out.k⟩
      | cons q r =>
        simp only [List.head?_cons]
        rw [outS_some]
        by_cases hqf : q = wFrom
        · subst hqf
          have HRW : Hid ((numW r).map (fun m => (⟨0, n, m, eb⟩ : Fld)) = R) := Lib.hid (by rw [← HRV.out]; simp [nestR])
          have hst : bs wFrom = (⟨#[102, 114, 111, 109]⟩ : ByteArray) := rfl
          rw [hst]
          clear HRV
          go_wp2_with fail
          refine (require_any true a _ H3.out.t.err).mono ?_
          rintro e w4 ⟨rfl, rfl⟩
          unfold ends
          go_wp2_with fail
          refine H3.out.next.mono ?_
          rintro e w4 ⟨rfl, h4⟩
          have H4 := Lib.hid h4
          clear h4 H3
          simp only [List.tail_cons] at H4 ⊢
          cases r with
          | nil =>
            obtain rfl : R = none := HRW.out.symm
            simp only [List.head?_nil]
            unfold outS
            go_wp2_with fail
            exact ⟨rfl, rfl, H4.out.k⟩
          | cons t r =>
            simp only [List.head?_cons]
            rw [outS_some]
            go_wp2_with fail
            refine (H4.out.number t (hS t (by simp))).mono ?_
            rintro e w5 ⟨rfl, h5⟩
            have H5 := Lib.hid h5
            have HRX : Hid ((numO t).map (fun m => (⟨0, n, m, eb⟩ : Fld)) = R) := Lib.hid (by rw [← HRW.out]; rfl)
            clear h5 H4 HRW
            generalize numO t = U at HRX
            cases U with
            | none =>
              obtain rfl : R = none := HRX.out.symm
              unfold outI
              go_wp2_with fail
              exact ⟨rfl, rfl, H5.out.k⟩
            | some m =>
              unfold outI
              go_wp2_with (first | (refine wpList_store_row rfl 56 _ _ rfl w.heap.size (fldCs ⟨0, n, m, eb⟩) rfl rfl 56 _ H5.out.f (infoFld4.trans rfl) rfl (fld_one ⟨0, n, m, eb⟩) ?_))
              refine bodyPost_ret (v := fldV ⟨0, n, m, eb⟩) ?_ rfl ⟨?_, H5.out.done _⟩
              · exact results_cell_row rfl _ _ w.heap.size _ _ (0, 0) _ rfl (setRow_heap _ _ _ _ _ _ H5.out.f) Tryz.underlying56 rfl (infoFld4.trans rfl)
              · rw [← HRX.out]; rfl
        · have hb : (q == [102, 114, 111, 109]) = false := beq_false_of_ne hqf
          obtain rfl : none = R := by rw [← HRV.out]; unfold nestR; simp only; rw [if_neg hqf]
          clear HRV hqf
          go_wp2_with fail
          refine (require_any false a _ H3.out.t.err).mono ?_
          rintro e w4 ⟨rfl, rfl⟩
          unfold ends
          go_wp2_with fail
          exact ⟨rfl, rfl, H3.out.k⟩
theorem readK_num {k : Int} (h1 : k ≠ 1) (h3 : k ≠ 3) (h4 : k ≠ 4) (h5 : k ≠ 5) (r : List (List UInt8)) : readK k r = (numW r).map fun n => ⟨0, n, -1, eb⟩ := by
  unfold readK
  rw [if_neg h1, if_neg h3, if_neg (by omega)]
theorem readK_five (r : List (List UInt8)) : readK 5 r = readK 4 r := by
  unfold readK
  rw [if_neg (by decide), if_neg (by decide), if_pos (by decide), if_neg (by decide), if_neg (by decide), if_pos (by decide)]
/-- What the functions of the kinds read. -/
theorem read_any (K bm br bp : Nat) (ps : List (List UInt8)) (R : Option Fld) (a : Addr) (w : World) (hC : CutAt w bm br bp 32 ps) (hT : Txt w a) (hS : Short ps) (h1 : 1 ≤ K) (h6 : K ≤ 6) (hR : readK K ps = R) :
    Calls Tryz.prog (fnD K) #[cutV bm br bp] w fun e w' => e = outF a R ∧ CutTo bm br w w' := by
  obtain rfl | rfl | rfl | rfl | rfl | rfl : K = 1 ∨ K = 2 ∨ K = 3 ∨ K = 4 ∨ K = 5 ∨ K = 6 := by omega
  · exact rLit_any bm br bp ps R a w hC hT hS hR
  · exact rNum_any bm br bp ps R a w hC hT hS (by rw [← hR]; exact (readK_num (by decide) (by decide) (by decide) (by decide) _).symm)
  · exact rCounted_any bm br bp ps R a w hC hT hS hR
  · exact rNested_any bm br bp ps R a w hC hT hS hR
  · exact rNested_any bm br bp ps R a w hC hT hS (by rw [← hR]; exact (readK_five _).symm)
  · exact rNum_any bm br bp ps R a w hC hT hS (by rw [← hR]; exact (readK_num (by decide) (by decide) (by decide) (by decide) _).symm)
theorem enD (K : Nat) : Enters (fnD K) := by
  unfold fnD
  repeat' split
  · exact enters_of Tryz.func84 (by kernel_rfl) (by kernel_rfl)
  · exact enters_of Tryz.func110 (by kernel_rfl) (by kernel_rfl)
  · exact enters_of Tryz.func91 (by kernel_rfl) (by kernel_rfl)
  · exact enters_of Tryz.func106 (by kernel_rfl) (by kernel_rfl)
end Go.Proofs.YtcnokccgdiodlaaGreatDoor
