/- The law FormatParsedAgain: it returns true. Conditions: a text; a list of four-number rows that can be read; an int and a byte; what the functions of texts read of memory. -/
import Derived.Test.YtcnokccgdiodlaaGreatDoorLawArg
import Derived.Test.YtcnokccgdiodlaaGreatDoorLawText
import Derived.Test.YtcnokccgdiodlaaGreatDoorRefP
import Derived.Test.YtcnokccgdiodlaaGreatDoorRefI
namespace Go.Proofs.YtcnokccgdiodlaaGreatDoor
open Go.RowKit Go.Shelf Fx Go.Sort

theorem bs_self (S : ByteArray) : bs S.data.toList = S := by cases S; simp [bs]
theorem count_le (c : UInt8) : ∀ l : List UInt8, (sp c l).length ≤ l.length + 1
  | [] => by simp [sp]
  | a :: l => by
    have h := count_le c l
    unfold sp
    split
    · simp; omega
    · split <;> simp_all <;> omega
theorem vd_text_small {l : List Fm} (h : Ok l) : (text l).length ≤ 200000 := by
  have h2 := text_len h.nice l.length (Nat.le_refl _)
  rw [List.take_length] at h2
  have := h.few
  omega
/-- What Parse answers, in one of two ways. -/
def ParseWay (S : ByteArray) (w : World) (e : Ending) (w' : World) : Prop :=
  ((∃ a n c l, e = .returned (.tuple #[.slice a n c, .int .i64 0, .int .i64 0]) ∧ FmsAt (· < w'.heap.size) w' (.slice a n c) l ∧ Ok l ∧ printT l = S) ∨
    ∃ k : Nat, 1 ≤ k ∧ k ≤ 100000000 ∧ e = .returned (.tuple #[.slice none 0 0, .int .i64 k, .int .i64 40])) ∧ Below w.heap.size w w'
theorem parse_way (S : ByteArray) (er : Addr) (w : World) (hT : Txt w er) (hS : S.size ≤ 10000000) : Calls Tryz.prog 26 #[.string S] w (ParseWay S w) := by
  have h := Parse_any S.data.toList er w hT (by simpa using hS)
  rw [bs_self] at h
  refine h.mono fun e w' hP => ?_
  obtain ⟨hR, hB⟩ := hP
  cases hp : parseO S.data.toList with
  | ok s =>
    rw [hp] at hR
    obtain ⟨v, he, hv⟩ := hR
    obtain ⟨hok, ht⟩ := parse_inv hp
    obtain ⟨a, c, rfl, _⟩ := hv.slice_
    refine ⟨.inl ⟨a, _, c, s.d, he, hv, hok, ?_⟩, hB⟩
    unfold printT
    rw [vd_iff.2 hok, if_pos rfl, ht, bs_self]
  | bad k =>
    rw [hp] at hR
    obtain ⟨h1, h2, _⟩ := parse_bad hp
    have h3 := count_le 10 S.data.toList
    exact ⟨.inr ⟨k, h1, by simp at h3; omega, hR⟩, hB⟩
set_option maxRecDepth 100000 in
set_option maxHeartbeats 8000000 in
theorem again_law (x : ByteArray) (vq : Value) (n : Nat) (at_ b : Int) (er : Addr) (w : World) (hx : x.size ≤ 9223372036854775807) (hQ : QsAt w vq n) (h0 : -9223372036854775808 ≤ at_) (h1 : at_ ≤ 9223372036854775807) (_hb0 : 0 ≤ b) (_hb1 : b ≤ 255) (hT : Txt w er) :
    Calls Tryz.prog 6 #[.string x, vq, .int .i64 at_, .int .u8 b] w fun e w' => e = .returned (.bool true) ∧ Below w.heap.size w w' := by
  have HT := Lib.hid hT
  have HQ := Lib.hid hQ
  clear hT hQ
  go_enter Tryz.func6, Tryz.ntmps6
  go_wp2_with fail
  refine (sane_any er w HT.out).mono ?_
  rintro e w1 ⟨rfl, hB⟩
  have H1 : Hid (Below w.heap.size w w1) := Lib.hid hB
  clear hB
  go_wp2_with fail
  refine (rMake_any vq n w1 (HQ.out.below H1.out)).mono ?_
  rintro e w2 ⟨⟨u, L, rfl, hMk, vs, hO⟩, hB⟩
  obtain ⟨ma, mc, rfl, -⟩ := hO.fms.slice_
  obtain ⟨mn, hmn⟩ : ∃ mn, mn = L.length := ⟨_, rfl⟩
  rw [← hmn] at hO ⊢
  have H2 : Hid (Below w.heap.size w w2 ∧ Mk L ∧ FmsAt (· < w2.heap.size) w2 (.slice ma mn mc) L) := Lib.hid ⟨H1.out.trans (hB.mono H1.out.size), hMk, hO.fms⟩
  obtain ⟨T, hTx⟩ : ∃ T, T = bs (text L) := ⟨_, rfl⟩
  have hTs : T.size ≤ 200000 := by rw [hTx]; exact vd_text_small hMk.ok
  have HPR := rPrint_ok _ L w2 H2.out.2.2 hMk.ints (vd_iff.2 hMk.ok)
  rw [← hTx] at HPR
  have HPR := Lib.hid HPR
  clear hB hO hMk hmn hTx
  go_wp2_with fail
  refine HPR.out.mono ?_
  rintro e w3 ⟨rfl, hB⟩
  have H3 : Hid (Below w.heap.size w w3) := Lib.hid (H2.out.1.trans (hB.mono H2.out.1.size))
  clear hB HPR H2
  go_upto_if 28 with fail
  go_cut [10, 12] from 27 to 45 (fun s i wx => ∃ T2, s = .string T2 ∧ Hid (T2.size ≤ 200000 ∧ Below w.heap.size w wx))
  case first =>
    by_cases hT0 : T.size = 0
    · have he : T.toList.isEmpty = true := by rw [(str_empty T).2 hT0]; rfl
      rw [he]
      simp only [Bool.not_true]
      go_wp2_with fail
      go_meet
      case rel => exact ⟨T, rfl, Lib.hid ⟨hTs, H3.out⟩⟩
    · obtain ⟨q1, q2⟩ := emp_not hT0
      obtain ⟨R, hR⟩ : ∃ R, pickI at_ (T.size : Int) = R := ⟨_, rfl⟩
      have hR0 : 0 ≤ R := by rw [← hR]; exact pickI_lo (by omega)
      have hR1 : R < (T.size : Int) := by rw [← hR]; exact pickI_hi (by omega)
      obtain ⟨r, rfl⟩ : ∃ r : Nat, R = r := ⟨R.toNat, by omega⟩
      have HP := Lib.hid (lpick_any at_ (T.size : Int) r w3 h0 h1 (by omega) (by omega) hR)
      have hw1 : IntKind.i64.wrap ((r : Int) + 1) = (r : Int) + 1 := IntWalk.i64_in _ ⟨by omega, by omega⟩
      have hrt : (r : Int) ≤ T.size := by omega
      have hrt1 : (r : Int) + 1 ≤ T.size := by omega
      obtain ⟨B1, hB1⟩ : ∃ B1, B1 = bs [UInt8.ofNat b.toNat] := ⟨_, rfl⟩
      have hB1s : B1.size = 1 := by rw [hB1]; rfl
      have hcw : (convert 44 9 (.slice (some ⟨w3.heap.size, 0, none⟩) 1 1)).run Tryz.prog (w3.alloc (.cells #[.int .u8 b] 5)).drew = .ok (.string B1) (w3.alloc (.cells #[.int .u8 b] 5)).drew := by
        rw [hB1]
        exact run_convert_bytes_arg (P := Tryz.prog) _ 44 5 Tryz.underlying44 Tryz.underlying5 w3.heap.size 0 1 1 [b] rfl (fun i hi => by
          obtain rfl : i = 0 := by omega
          have h := cell_of_row (w3.alloc (.cells #[.int .u8 b] 5)) w3.heap.size 0 _ _ _ (heap_alloc_new _ _)
          exact h) 9 Tryz.underlying9
      have hes : (T.extract 0 r).size ≤ 200000 := by rw [ByteArray.size_extract]; omega
      have hes2 : (T.extract (r + 1) T.size).size ≤ 200000 := by rw [ByteArray.size_extract]; omega
      have HSS : Hid (((T.extract 0 r ++ B1) ++ T.extract (r + 1) T.size).size ≤ 200000) := Lib.hid (by rw [ByteArray.size_append, ByteArray.size_append, ByteArray.size_extract, ByteArray.size_extract]; omega)
      clear hR hB1
      rw [q2]
      simp only [Bool.not_false]
      go_wp2_with fail
      refine HP.out.mono ?_
      rintro e w4 ⟨rfl, rfl⟩
      clear HP
      go_wp2_with fail
      go_region
      all_goals
        go_wp2_with fail
        go_meet
        case rel => exact ⟨_, rfl, Lib.hid ⟨HSS.out, H3.out.trans ((bx _).drew.mono H3.out.size)⟩⟩
  case rest =>
    obtain ⟨T2, rfl, HC⟩ := hcut
    obtain ⟨ws, rfl⟩ : ∃ ws, ws = wc := ⟨_, rfl⟩
    obtain ⟨M, hM⟩ : ∃ M : Nat, min (x.size : Int) 3000 = M := ⟨(min (x.size : Int) 3000).toNat, by omega⟩
    have hMx : (M : Int) ≤ x.size := by omega
    have hM3 : M ≤ 3000 := by omega
    obtain ⟨A, hA⟩ : ∃ A, A = x.extract 0 M := ⟨_, rfl⟩
    have hAs : A.size ≤ 3000 := by rw [hA, ByteArray.size_extract]; omega
    obtain ⟨wb, hwb⟩ : ∃ wb, wb = ws.alloc (.cells #[.string A, .string T2] 9) := ⟨_, rfl⟩
    have hB0 : Below ws.heap.size ws wb := by rw [hwb]; exact bx _
    obtain ⟨G, hG⟩ : ∃ G, G = ws.heap.size := ⟨_, rfl⟩
    have hN : wb.heap[G]? = some (.cells #[.string A, .string T2] 9 (0, 0)) := by rw [hwb, hG]; exact heap_alloc_new _ _
    have HCL : Hid (∀ k : Nat, k < 2 → ∃ S : ByteArray, S.size ≤ 200000 ∧ wb.cell? ⟨G, k, none⟩ = some (.string S)) := Lib.hid fun k hk => by
      obtain rfl | rfl : k = 0 ∨ k = 1 := by omega
      · exact ⟨A, by omega, cell_of_row _ _ _ _ _ _ hN⟩
      · exact ⟨T2, HC.out.1, cell_of_row _ _ _ _ _ _ hN⟩
    have HB0 : Hid (Below w.heap.size w wb ∧ G < wb.heap.size) := Lib.hid ⟨HC.out.2.trans (hB0.mono HC.out.2.size), lt_of_heap hN⟩
    clear hB0 hN
    go_wp2_with fail
    rw [← hA, ← hwb, ← hG]
    clear hwb hA hG hM
    go_loopw [53] (fun i wr => ∃ k : Nat, k ≤ 2 ∧ i = .int .i64 k ∧ Hid (Below wb.heap.size wb wr)) (fun i _ => 2 - (intOf i).toNat)
    case atStart => exact ⟨0, by omega, rfl, Lib.hid (Below.refl _ _)⟩
    case round =>
      obtain ⟨k, hk, rfl, HI⟩ := hrel
      obtain ⟨wq, rfl⟩ : ∃ wq : World, wq = wr := ⟨_, rfl⟩
      by_cases hk2 : k < 2
      · obtain ⟨S, hSs, hc⟩ := HCL.out k hk2
        have hcq := (HI.out.cell (p := ⟨G, k, none⟩) HB0.out.2).trans hc
        have hGl := World.block_lt_of_cell? (h := hcq)
        have HBQ : Hid (Below w.heap.size w wq) := Lib.hid (HB0.out.1.trans (HI.out.mono HB0.out.1.size))
        have HPW := Lib.hid (parse_way S er wq (HT.out.below HBQ.out) (by omega))
        clear hc
        go_wp2_with fail
        refine HPW.out.mono ?_
        rintro e w5 ⟨⟨a, m, c, l, rfl, hv, hok, hp⟩ | ⟨y, hy1, hy2, rfl⟩, hB5⟩
        · have H5 : Hid (Below wb.heap.size wb w5 ∧ FmsAt (· < w5.heap.size) w5 (.slice a m c) l) := Lib.hid ⟨HI.out.trans (hB5.mono HI.out.size), hv⟩
          have HT5 : Hid (Txt w5 er) := Lib.hid ((HT.out.below HBQ.out).below hB5)
          have hvd := vd_iff.2 hok
          have HIL : Hid (IntsL l) := Lib.hid fun i hi => ⟨hok.nice.id i hi, fun j hj => (hok.nice.fld i hi j hj).1⟩
          have HPR2 := Lib.hid (Print_any _ l S 0 er w5 HT5.out H5.out.2 HIL.out hp (by unfold printE; rw [hvd]; rfl))
          have HVD := Lib.hid hvd
          clear hB5 hv hok hp HPW hvd
          go_wp2_with fail
          refine HPR2.out.mono ?_
          rintro e w6 ⟨rfl, hB6⟩
          have H6 : Hid (Below wb.heap.size wb w6) := Lib.hid (H5.out.1.trans (hB6.mono H5.out.1.size))
          have HVA := Lib.hid (Valid_any _ l true er w6 (HT5.out.below hB6).err (H5.out.2.below hB6) HIL.out HVD.out)
          clear hB6 HPR2
          go_wp2_with fail
          refine HVA.out.mono ?_
          rintro e w7 ⟨rfl, hB7⟩
          have H7 : Hid (Below wb.heap.size wb w7) := Lib.hid (H6.out.trans (hB7.mono H6.out.size))
          clear hB7
          go_wp2_with fail
          exact ⟨⟨k + 1, by omega, by go_num, H7⟩, by simp [intOf]; omega⟩
        · have H5 : Hid (Below wb.heap.size wb w5) := Lib.hid (HI.out.trans (hB5.mono HI.out.size))
          clear hB5 HPW
          go_wp2_with fail
          exact ⟨⟨k + 1, by omega, by go_num, H5⟩, by simp [intOf]; omega⟩
      · obtain rfl : k = 2 := by omega
        go_wp2_with fail
        go_ret
        exact ⟨rfl, HB0.out.1.trans (HI.out.mono HB0.out.1.size)⟩
end Go.Proofs.YtcnokccgdiodlaaGreatDoor
