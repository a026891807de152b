/- The law FormatTextMatchesReference: it returns true. Conditions: a table and a list of four-number rows that can be read; a text; ints and a byte; what the functions of texts read of memory. -/
import Derived.Test.YtcnokccgdiodlaaGreatDoorLawAgain
import Derived.Test.YtcnokccgdiodlaaGreatDoorRefU
namespace Go.Proofs.YtcnokccgdiodlaaGreatDoor
open Go.RowKit Go.Shelf Fx Go.Sort

/-- What both Parses answer. -/
def Parsed (k z : Int) (l : List Fm) (w : World) (e : Ending) (w' : World) : Prop :=
  (∃ a n c, e = .returned (.tuple #[.slice a n c, .int .i64 k, .int .i64 z]) ∧ FmsAt (· < w'.heap.size) w' (.slice a n c) l) ∧ Below w.heap.size w w'
theorem parsed_of {R : PR} : ∃ (k z : Int) (l : List Fm), ∀ w e w', ParsePost R w e w' → Parsed k z l w e w' := by
  cases R with
  | ok s =>
    refine ⟨0, 0, s.d, fun w e w' h => ?_⟩
    obtain ⟨⟨v, he, hv⟩, hb⟩ := h
    obtain ⟨a, c, rfl, _⟩ := hv.slice_
    exact ⟨⟨a, _, c, he, hv⟩, hb⟩
  | bad k => exact ⟨k, 40, [], fun w e w' h => ⟨⟨none, 0, 0, h.1, .inl ⟨_, _, rfl, rfl⟩⟩, h.2⟩⟩
theorem parse_both (S : ByteArray) (er : Addr) (hS : S.size ≤ 10000000) : ∃ (k z : Int) (l : List Fm), ∀ w : World, Txt w er →
    Calls Tryz.prog 26 #[.string S] w (Parsed k z l w) ∧ Calls Tryz.prog 27 #[.string S] w (Parsed k z l w) := by
  obtain ⟨k, z, l, h⟩ := parsed_of (R := parseO S.data.toList)
  refine ⟨k, z, l, fun w hT => ⟨?_, (rParse_any S w hS).mono fun _ _ h1 => h _ _ _ h1⟩⟩
  have h1 := Parse_any S.data.toList er w hT (by simpa using hS)
  rw [bs_self] at h1
  exact h1.mono fun _ _ h2 => h _ _ _ h2
set_option maxRecDepth 100000 in
set_option maxHeartbeats 8000000 in
theorem textm_law (va vq : Value) (la : List Fm) (x : ByteArray) (n : Nat) (at_ b y : Int) (er : Addr) (w : World) (hA : ArgM w va la) (hI : IntsL la) (hx : x.size ≤ 9223372036854775807) (hQ : QsAt w vq n) (h0 : -9223372036854775808 ≤ at_) (h1 : at_ ≤ 9223372036854775807) (_hb0 : 0 ≤ b) (_hb1 : b ≤ 255) (hy0 : -9223372036854775808 ≤ y) (hy1 : y ≤ 9223372036854775807) (hT : Txt w er) :
    Calls Tryz.prog 4 #[va, .string x, vq, .int .i64 at_, .int .u8 b, .int .i64 y] w fun e w' => e = .returned (.bool true) ∧ Below w.heap.size w w' := by
  have HT := Lib.hid hT
  have HV := Lib.hid (And.intro hA (And.intro hI hQ))
  clear hT hA hI hQ
  go_enter Tryz.func4, Tryz.ntmps4
  go_wp2_with fail
  refine (sane_any er w HT.out).mono ?_
  rintro e w1 ⟨rfl, hB⟩
  have H1 : Hid (Below w.heap.size w w1) := Lib.hid hB
  clear hB
  go_wp2_with fail
  refine (few_any va la w1 (HV.out.1.below H1.out) HV.out.2.1).mono ?_
  rintro e w2 ⟨⟨u1, L1, rfl, hSm, -, vs1, hO1, -⟩, hB⟩
  obtain ⟨fa, fc, rfl, -⟩ := hO1.fms.slice_
  obtain ⟨fn, hfn⟩ : ∃ fn, fn = L1.length := ⟨_, rfl⟩
  rw [← hfn] at hO1 ⊢
  have H2 : Hid (Below w.heap.size w w2 ∧ FmsAt (· < w2.heap.size) w2 (.slice fa fn fc) L1 ∧ Sm L1) := Lib.hid ⟨H1.out.trans (hB.mono H1.out.size), hO1.fms, hSm⟩
  clear hB hO1 hSm hfn
  go_wp2_with fail
  refine (rMake_any vq n w2 (HV.out.2.2.below H2.out.1)).mono ?_
  rintro e w3 ⟨⟨u2, L2, rfl, hMk, vs2, hO2⟩, hB⟩
  obtain ⟨ma, mc, rfl, -⟩ := hO2.fms.slice_
  obtain ⟨mn, hmn⟩ : ∃ mn, mn = L2.length := ⟨_, rfl⟩
  rw [← hmn] at hO2 ⊢
  have H3 : Hid (Below w.heap.size w w3 ∧ FmsAt (· < w3.heap.size) w3 (.slice fa fn fc) L1 ∧ FmsAt (· < w3.heap.size) w3 (.slice ma mn mc) L2 ∧ Mk L2) := Lib.hid ⟨H2.out.1.trans (hB.mono H2.out.1.size), H2.out.2.1.below hB, hO2.fms, hMk⟩
  clear hB hO2 hMk hmn
  obtain ⟨W, hW⟩ : ∃ W, W = w3.alloc (.cells #[.slice fa fn fc, .slice ma mn mc] 22) := ⟨_, rfl⟩
  obtain ⟨G, hG⟩ : ∃ G, G = w3.heap.size := ⟨_, rfl⟩
  have hB3 : Below w3.heap.size w3 W := by rw [hW]; exact bx _
  have hN : W.heap[G]? = some (.cells #[.slice fa fn fc, .slice ma mn mc] 22 (0, 0)) := by rw [hW, hG]; exact heap_alloc_new _ _
  have HCL : Hid (∀ k : Nat, k < 2 → ∃ ta tn tc l, W.cell? ⟨G, k, none⟩ = some (.slice ta tn tc) ∧ FmsAt (· < W.heap.size) W (.slice ta tn tc) l ∧ IntsL l ∧ l.length ≤ 1000) := Lib.hid fun k hk => by
    obtain rfl | rfl : k = 0 ∨ k = 1 := by omega
    · exact ⟨fa, fn, fc, L1, cell_of_row _ _ _ _ _ _ hN, H3.out.2.1.below hB3, H2.out.2.2.ints, by have := H2.out.2.2.few; omega⟩
    · exact ⟨ma, mn, mc, L2, cell_of_row _ _ _ _ _ _ hN, H3.out.2.2.1.below hB3, H3.out.2.2.2.ints, by have := H3.out.2.2.2.few; omega⟩
  have HW : Hid (Below w.heap.size w W ∧ G < W.heap.size) := Lib.hid ⟨H3.out.1.trans (hB3.mono H3.out.1.size), lt_of_heap hN⟩
  clear hB3 hN
  go_wp2_with fail
  rw [← hW, ← hG]
  clear hW hG H1 H2 H3
  go_loopw [39] (fun i wr => ∃ k : Nat, k ≤ 2 ∧ i = .int .i64 k ∧ Hid (Below W.heap.size W wr)) (fun i _ => 2 - (intOf i).toNat)
  case atStart => exact ⟨0, by omega, rfl, Lib.hid (Below.refl _ _)⟩
  case round =>
    obtain ⟨k, hk, rfl, HI⟩ := hrel
    obtain ⟨wo, rfl⟩ : ∃ wo : World, wo = wr := ⟨_, rfl⟩
    by_cases hk2 : k < 2
    · obtain ⟨ta, tn, tc, l, cx, hF, hIl, hll⟩ := HCL.out k hk2
      have cx := (HI.out.cell (p := ⟨G, k, none⟩) HW.out.2).trans cx
      have lG := World.block_lt_of_cell? (h := cx)
      obtain ⟨S, hS⟩ : ∃ S, printT l = S := ⟨_, rfl⟩
      obtain ⟨z, hz⟩ : ∃ z, printE l = z := ⟨_, rfl⟩
      have HP : Hid (∀ V : World, Below W.heap.size W V → (Calls Tryz.prog 24 #[.slice ta tn tc] V fun e w' => e = .returned (.tuple #[.string S, .int .i64 z]) ∧ Below V.heap.size V w') ∧ (Calls Tryz.prog 25 #[.slice ta tn tc] V fun e w' => e = .returned (.tuple #[.string S, .int .i64 z]) ∧ Below V.heap.size V w')) := Lib.hid fun V hV =>
        ⟨Print_any _ l S z er V ((HT.out.below HW.out.1).below hV) (hF.below hV) hIl hS hz, rPrint_any _ l S z V (hF.below hV) hIl hll hS hz⟩
      clear hF hIl hll hS hz
      go_wp2_with fail
      refine (HP.out wo HI.out).1.mono ?_
      rintro e w5 ⟨rfl, hB⟩
      have H5 : Hid (Below W.heap.size W w5) := Lib.hid (HI.out.trans (hB.mono HI.out.size))
      clear hB
      go_wp2_with fail
      refine (HP.out w5 H5.out).2.mono ?_
      rintro e w6 ⟨rfl, hB⟩
      have H6 : Hid (Below W.heap.size W w6) := Lib.hid (H5.out.trans (hB.mono H5.out.size))
      clear hB HP H5
      go_wp2_with fail
      exact ⟨⟨k + 1, by omega, by go_num, H6⟩, by simp [intOf]; omega⟩
    · obtain rfl : k = 2 := by omega
      have HB0 : Hid (Below w.heap.size w wo) := Lib.hid (HW.out.1.trans (HI.out.mono HW.out.1.size))
      clear HCL HI
      go_wp2_with fail
      refine (rMake_any vq n wo (HV.out.2.2.below HB0.out)).mono ?_
      rintro e w4 ⟨⟨u3, L3, rfl, hMk, vs3, hO3⟩, hB⟩
      obtain ⟨ma3, mc3, rfl, -⟩ := hO3.fms.slice_
      obtain ⟨mn3, hmn⟩ : ∃ mn, mn = L3.length := ⟨_, rfl⟩
      rw [← hmn] at hO3 ⊢
      have H4 : Hid (Below w.heap.size w w4 ∧ Mk L3 ∧ FmsAt (· < w4.heap.size) w4 (.slice ma3 mn3 mc3) L3) := Lib.hid ⟨HB0.out.trans (hB.mono HB0.out.size), hMk, hO3.fms⟩
      obtain ⟨T, hTx⟩ : ∃ T, T = bs (text L3) := ⟨_, rfl⟩
      have hTs : T.size ≤ 200000 := by rw [hTx]; exact vd_text_small hMk.ok
      have HPR := rPrint_ok _ L3 w4 H4.out.2.2 hMk.ints (vd_iff.2 hMk.ok)
      rw [← hTx] at HPR
      have HPR := Lib.hid HPR
      clear hB hO3 hMk hmn hTx
      go_wp2_with fail
      refine HPR.out.mono ?_
      rintro e w5 ⟨rfl, hB⟩
      have H5 : Hid (Below w.heap.size w w5) := Lib.hid (H4.out.1.trans (hB.mono H4.out.1.size))
      clear hB HPR H4
      obtain ⟨R, hR⟩ : ∃ R, pickI at_ ((T.size : Int) + 1) = R := ⟨_, rfl⟩
      have hR0 : 0 ≤ R := by rw [← hR]; exact pickI_lo (by omega)
      have hR1 : R < (T.size : Int) + 1 := by rw [← hR]; exact pickI_hi (by omega)
      obtain ⟨r, rfl⟩ : ∃ r : Nat, R = r := ⟨R.toNat, by omega⟩
      have HPK := Lib.hid (fun V => lpick_any at_ ((T.size : Int) + 1) r V h0 h1 (by omega) (by omega) hR)
      have hw0 : IntKind.i64.wrap ((T.size : Int) + 1) = (T.size : Int) + 1 := IntWalk.i64_in _ ⟨by omega, by omega⟩
      clear hR
      go_wp2_with fail
      refine (HPK.out w5).mono ?_
      rintro e w6 ⟨rfl, rfl⟩
      have hrt : (r : Int) ≤ T.size := by omega
      have hrt2 : 0 ≤ (r : Int) ∧ (r : Int) ≤ T.size := by omega
      obtain ⟨B1, hB1⟩ : ∃ B1, B1 = bs [UInt8.ofNat b.toNat] := ⟨_, rfl⟩
      have hB1s : B1.size = 1 := by rw [hB1]; rfl
      have hcv : ∀ w3 : World, (convert 44 9 (.slice (some ⟨w3.heap.size, 0, none⟩) 1 1)).run Tryz.prog (w3.alloc (.cells #[.int .u8 b] 5)).drew = .ok (.string B1) (w3.alloc (.cells #[.int .u8 b] 5)).drew := fun w3 => by
        rw [hB1]
        exact run_convert_bytes_arg (P := Tryz.prog) _ 44 5 Tryz.underlying44 Tryz.underlying5 w3.heap.size 0 1 1 [b] rfl (fun i hi => by
          obtain rfl : i = 0 := by omega
          have h := cell_of_row (w3.alloc (.cells #[.int .u8 b] 5)) w3.heap.size 0 _ _ _ (heap_alloc_new _ _)
          exact h) 9 Tryz.underlying9
      have HCV := Lib.hid hcv
      have hes : (T.extract 0 r).size ≤ 200000 := by rw [ByteArray.size_extract]; omega
      have hes2 : (T.extract (r + 1) T.size).size ≤ 200000 := by rw [ByteArray.size_extract]; omega
      have hes3 : (T.extract r T.size).size ≤ 200000 := by rw [ByteArray.size_extract]; omega
      have HSS : Hid (((T.extract 0 r ++ B1) ++ T.extract (r + 1) T.size).size ≤ 400001 ∧ ((T.extract 0 r ++ B1) ++ T.extract r T.size).size ≤ 400001 ∧ (T.extract 0 r ++ T.extract (r + 1) T.size).size ≤ 400001) := Lib.hid (by simp only [ByteArray.size_append]; omega)
      clear hB1 hcv HPK hw0
      have hcw := HCV.out w6
      go_wp2_with fail
      go_cut [23] from 73 to 83 (fun s wx => ∃ T2, s = .string T2 ∧ Hid (T2.size ≤ 400001 ∧ Below w.heap.size w wx))
      case first =>
        go_region
        all_goals
          go_wp2_with fail
          go_meet
          case rel => exact ⟨_, rfl, Lib.hid ⟨HSS.out.2.1, H5.out.trans ((bx _).drew.mono H5.out.size)⟩⟩
      case rest =>
        obtain ⟨T2, rfl, HC⟩ := hcut
        obtain ⟨ws, rfl⟩ : ∃ ws, ws = wc := ⟨_, rfl⟩
        obtain ⟨Q, hQ⟩ : ∃ Q, pickI y 3 = Q := ⟨_, rfl⟩
        have HPY := Lib.hid (fun V => lpick_any y 3 Q V hy0 hy1 (by omega) (by omega) hQ)
        have hw1 : IntKind.i64.wrap ((r : Int) + 1) = (r : Int) + 1 := IntWalk.i64_in _ ⟨by omega, by omega⟩
        have hcs := HCV.out ws
        clear hQ hcw
        obtain ⟨p, hp⟩ : ∃ p, p = (decide (Q = 0) && decide (r < T.size)) := ⟨_, rfl⟩
        go_upto_region 13 with fail
        go_cut [92] from 84 to 92 (fun t wx => t = .bool p ∧ wx = ws)
        case first =>
          by_cases q0 : Q = 0
          · have d0 : (Q == 0) = true := by rw [beq_iff_eq]; exact q0
            by_cases hr : r < T.size
            · have hri : (r : Int) < T.size := by omega
              have HPV : Hid (p = true) := Lib.hid (by rw [hp, decide_eq_true q0, decide_eq_true hr]; rfl)
              clear q0 hp hr
              go_wp2_with fail
              refine (HPY.out ws).mono ?_
              rintro e w7 ⟨rfl, rfl⟩
              go_wp2_with fail
              go_meet
              case rel => exact ⟨by rw [HPV.out], rfl⟩
            · have hri : ¬ (r : Int) < T.size := by omega
              have HPV : Hid (p = false) := Lib.hid (by rw [hp, decide_eq_false hr]; simp)
              clear q0 hp hr
              go_wp2_with fail
              refine (HPY.out ws).mono ?_
              rintro e w7 ⟨rfl, rfl⟩
              go_wp2_with fail
              go_meet
              case rel => exact ⟨by rw [HPV.out, decide_eq_false (show ¬ r < T.size by omega)], rfl⟩
          · have d0 : (Q == 0) = false := by rw [beq_eq_false_iff_ne]; exact q0
            have HPV : Hid (p = false) := Lib.hid (by rw [hp, decide_eq_false q0]; rfl)
            clear q0 hp
            go_wp2_with fail
            refine (HPY.out ws).mono ?_
            rintro e w7 ⟨rfl, rfl⟩
            go_wp2_with fail
            go_meet
            case rel => exact ⟨by rw [HPV.out], rfl⟩
        case rest =>
          obtain ⟨rfl, rfl⟩ := hcut
          obtain ⟨wt, rfl⟩ : ∃ wt, wt = wc := ⟨_, rfl⟩
          go_upto_if 92 with fail
          go_cut [23] from 93 to 121 (fun s wx => ∃ T3, s = .string T3 ∧ Hid (T3.size ≤ 400001 ∧ Below w.heap.size w wx))
          case first =>
            cases p with
            | true =>
              have hr : r < T.size := by simp at hp; exact hp.2
              have hri : (r : Int) < T.size := by omega
              have hrt1 : (r : Int) + 1 ≤ T.size := by omega
              have hrt3 : 0 ≤ (r : Int) + 1 ∧ (r : Int) + 1 ≤ T.size := by omega
              clear hp hr
              go_wp2_with fail
              go_region
              all_goals
                go_wp2_with fail
                go_meet
                case rel => exact ⟨_, rfl, Lib.hid ⟨HSS.out.2.2, HC.out.2.drew⟩⟩
            | false =>
              clear hp
              go_wp2_with fail
              refine (HPY.out wt).mono ?_
              rintro e w8 ⟨rfl, rfl⟩
              by_cases q1 : Q = 1
              · have d1 : (Q == 1) = true := by rw [beq_iff_eq]; exact q1
                by_cases hr : r < T.size
                · have hri : (r : Int) < T.size := by omega
                  have hrt1 : (r : Int) + 1 ≤ T.size := by omega
                  have hrt3 : 0 ≤ (r : Int) + 1 ∧ (r : Int) + 1 ≤ T.size := by omega
                  clear q1 hr
                  go_wp2_with fail
                  go_region
                  all_goals
                    go_wp2_with fail
                    go_meet
                    case rel => exact ⟨_, rfl, Lib.hid ⟨HSS.out.1, HC.out.2.trans ((bx _).drew.mono HC.out.2.size)⟩⟩
                · have hri : ¬ (r : Int) < T.size := by omega
                  have d2 : decide (r < T.size) = false := decide_eq_false hr
                  clear q1
                  go_wp2_with fail
                  go_meet
                  case rel => exact ⟨_, rfl, HC⟩
              · have d1 : (Q == 1) = false := by rw [beq_eq_false_iff_ne]; exact q1
                clear q1
                go_wp2_with fail
                go_meet
                case rel => exact ⟨_, rfl, HC⟩
          case rest =>
            obtain ⟨T3, rfl, HD⟩ := hcut
            obtain ⟨wu, rfl⟩ : ∃ wu, wu = wc := ⟨_, rfl⟩
            clear hcs hes hes2 hes3 hw1 hrt hrt2 hR0 hR1 HSS HPY HCV HC hp
            obtain ⟨M, hM⟩ : ∃ M : Nat, min (x.size : Int) 3000 = M := ⟨(min (x.size : Int) 3000).toNat, by omega⟩
            have hMx : (M : Int) ≤ x.size := by omega
            have hM3 : M ≤ 3000 := by omega
            obtain ⟨A, hA⟩ : ∃ A, A = x.extract 0 M := ⟨_, rfl⟩
            have hAs : A.size ≤ 3000 := by rw [hA, ByteArray.size_extract]; omega
            obtain ⟨wb, hwb⟩ : ∃ wb, wb = wu.alloc (.cells #[.string A, .string T3, .string T] 9) := ⟨_, rfl⟩
            have hB0 : Below wu.heap.size wu wb := by rw [hwb]; exact bx _
            obtain ⟨H, hH⟩ : ∃ H, H = wu.heap.size := ⟨_, rfl⟩
            have hN : wb.heap[H]? = some (.cells #[.string A, .string T3, .string T] 9 (0, 0)) := by rw [hwb, hH]; exact heap_alloc_new _ _
            have HCL : Hid (∀ k : Nat, k < 3 → ∃ S : ByteArray, S.size ≤ 400001 ∧ wb.cell? ⟨H, k, none⟩ = some (.string S)) := Lib.hid fun k hk => by
              obtain rfl | rfl | rfl : k = 0 ∨ k = 1 ∨ k = 2 := by omega
              · exact ⟨A, by omega, cell_of_row _ _ _ _ _ _ hN⟩
              · exact ⟨T3, HD.out.1, cell_of_row _ _ _ _ _ _ hN⟩
              · exact ⟨T, by omega, cell_of_row _ _ _ _ _ _ hN⟩
            have HB1 : Hid (Below w.heap.size w wb ∧ H < wb.heap.size) := Lib.hid ⟨HD.out.2.trans (hB0.mono HD.out.2.size), lt_of_heap hN⟩
            clear hB0 hN
            go_wp2_with fail
            rw [← hA, ← hwb, ← hH]
            clear hwb hA hH hM
            go_loopw [131] (fun i wr => ∃ k : Nat, k ≤ 3 ∧ i = .int .i64 k ∧ Hid (Below wb.heap.size wb wr)) (fun i _ => 3 - (intOf i).toNat)
            case atStart => exact ⟨0, by omega, rfl, Lib.hid (Below.refl _ _)⟩
            case round =>
              obtain ⟨k, hk, rfl, HI⟩ := hrel
              obtain ⟨wq, rfl⟩ : ∃ wq : World, wq = wr := ⟨_, rfl⟩
              by_cases hk2 : k < 3
              · obtain ⟨S, hSs, hc⟩ := HCL.out k hk2
                have hcq := (HI.out.cell (p := ⟨H, k, none⟩) HB1.out.2).trans hc
                have hGl := World.block_lt_of_cell? (h := hcq)
                obtain ⟨kk, zz, l, hPB⟩ := parse_both S er (by omega)
                have HPB := Lib.hid hPB
                have HT1 : Hid (Txt wq er) := Lib.hid ((HT.out.below HB1.out.1).below HI.out)
                clear hc hPB
                go_wp2_with fail
                refine (HPB.out wq HT1.out).1.mono ?_
                rintro e w7 ⟨⟨pa, pn, pc, rfl, hF⟩, hB7⟩
                have H7 : Hid (Below wb.heap.size wb w7 ∧ FmsAt (· < w7.heap.size) w7 (.slice pa pn pc) l ∧ Txt w7 er) := Lib.hid ⟨HI.out.trans (hB7.mono HI.out.size), hF, HT1.out.below hB7⟩
                clear hF hB7
                go_wp2_with fail
                refine (HPB.out w7 H7.out.2.2).2.mono ?_
                rintro e w8 ⟨⟨qa, qn, qc, rfl, hF⟩, hB8⟩
                have HSM := Lib.hid (rSame_any _ _ l l true w8 (H7.out.2.1.below hB8) hF (by simp))
                have H8 : Hid (Below wb.heap.size wb w8) := Lib.hid (H7.out.1.trans (hB8.mono H7.out.1.size))
                clear hF hB8 HPB
                go_wp2_with fail
                refine HSM.out.mono ?_
                rintro e w9 ⟨rfl, hB9⟩
                have H9 : Hid (Below wb.heap.size wb w9) := Lib.hid (H8.out.trans (hB9.mono H8.out.size))
                clear hB9 HSM
                go_wp2_with fail
                exact ⟨⟨k + 1, by omega, by go_num, H9⟩, by simp [intOf]; omega⟩
              · obtain rfl : k = 3 := by omega
                go_wp2_with fail
                go_ret
                exact ⟨rfl, HB1.out.1.trans (HI.out.mono HB1.out.1.size)⟩
end Go.Proofs.YtcnokccgdiodlaaGreatDoor
