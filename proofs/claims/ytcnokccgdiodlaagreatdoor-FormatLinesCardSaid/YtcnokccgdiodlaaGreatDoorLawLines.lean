/- The law FormatLines: it returns true. Conditions: a list of four-number rows that can be read; an int, a byte and a text; what the functions of texts read of memory. -/
import Derived.Test.YtcnokccgdiodlaaGreatDoorLawAgain
namespace Go.Proofs.YtcnokccgdiodlaaGreatDoor
open Go.RowKit Go.Shelf Fx Go.Sort

/-- What Parse answers, and what the text is. -/
def ParseTell (S : ByteArray) (w : World) (e : Ending) (w' : World) : Prop :=
  ((∃ a n c, e = .returned (.tuple #[.slice a n c, .int .i64 0, .int .i64 0]) ∧ ∃ s, parseO S.data.toList = .ok s) ∨
    ∃ k : Nat, 1 ≤ k ∧ k ≤ 100000000 ∧ e = .returned (.tuple #[.slice none 0 0, .int .i64 k, .int .i64 40]) ∧ parseO S.data.toList = .bad k) ∧ Below w.heap.size w w'
theorem parse_tell (S : ByteArray) (er : Addr) (w : World) (hT : Txt w er) (hS : S.size ≤ 10000000) : Calls Tryz.prog 26 #[.string S] w (ParseTell S w) := by
  have h := Parse_any S.data.toList er w hT (by simpa using hS)
  rw [bs_self] at h
  refine h.mono fun e w' hP => ?_
  obtain ⟨hR, hB⟩ := hP
  cases hp : parseO S.data.toList with
  | ok s =>
    rw [hp] at hR
    obtain ⟨v, he, hv⟩ := hR
    obtain ⟨a, c, rfl, _⟩ := hv.slice_
    exact ⟨.inl ⟨a, _, c, he, s, hp⟩, hB⟩
  | bad k =>
    rw [hp] at hR
    obtain ⟨h1, h2, _⟩ := parse_bad hp
    have h3 := count_le 10 S.data.toList
    exact ⟨.inr ⟨k, h1, by simp at h3; omega, hR, hp⟩, hB⟩
theorem reads_none {a b : List (List UInt8)} {s s1 : St} (h : reads s (a ++ b) = some s1) : ∃ s2, reads s a = some s2 ∧ reads s2 b = some s1 := by
  rw [reads_append] at h
  cases h2 : reads s a with
  | none => rw [h2] at h; cases h
  | some s2 => rw [h2] at h; exact ⟨s2, rfl, h⟩
/-- The lines ahead of a heading that was read are a text. -/
theorem head_whole {PS : List (List UInt8)} {n k : Nat} {s1 : St} (hp : ∀ q ∈ PS, ∀ x ∈ q, x ≠ (10 : UInt8)) (hr : reads st0 (PS.take (n - 1)) = some s1) (hk : k < n - 1) (hn : n ≤ PS.length) (h6 : (PS.getD k []).take 6 = wFormat) : ∃ s, parseO (put (PS.take k)) = .ok s := by
  have hkl : k < PS.length := by omega
  have e : PS.take (n - 1) = PS.take k ++ (PS.getD k [] :: (PS.take (n - 1)).drop (k + 1)) := by
    have e1 : PS.getD k [] = (PS.take (n - 1))[k]'(by rw [List.length_take]; omega) := by simp [List.getD, List.getElem?_eq_getElem hkl]
    rw [e1, ← List.drop_eq_getElem_cons]
    have e2 : PS.take k = (PS.take (n - 1)).take k := by rw [List.take_take]; congr 1; omega
    rw [e2, List.take_append_drop]
  rw [e] at hr
  obtain ⟨s2, h1, h2⟩ := reads_none hr
  unfold reads at h2
  cases h3 : readO s2 (PS.getD k []) with
  | none => rw [h3] at h2; cases h2
  | some s3 => exact parse_whole (fun q hq => hp q (List.mem_of_mem_take hq)) h1 h3 h6
/-- Up to the line that is named, with whatever follows. -/
theorem bad_again {t : List UInt8} {n : Nat} (h : parseO t = .bad n) (hn : n < (sp 10 t).length) (r : List UInt8) : parseO (put ((sp 10 t).take n) ++ r) = .bad n := by
  obtain ⟨h1, _, s1, h3, h4⟩ := parse_bad h
  obtain ⟨m, rfl⟩ : ∃ m, n = m + 1 := ⟨n - 1, by omega⟩
  have e := take_succ_getD (sp 10 t) [] m (by omega)
  have hno : ∀ q ∈ sp 10 t, ∀ x ∈ q, x ≠ (10 : UInt8) := sp_mem 10 t
  have h5 := parse_more (r := r) (ps := (sp 10 t).take m) (p := (sp 10 t).getD m []) (by rw [← e]; exact fun q hq => hno q (List.mem_of_mem_take hq)) h3 (h4 hn)
  rw [e, h5, List.length_take]
  congr 1; omega
theorem put_take_len {t : List UInt8} (k : Nat) : (put ((sp 10 t).take k)).length ≤ t.length + 1 := by
  have e : put (sp 10 t) = t ++ [10] := by
    rw [← put_jn]
    have key : ∀ ps : List (List UInt8), ps ≠ [] → jn 10 (ps ++ [[]]) = jn 10 ps ++ [10] := fun ps hps => by
      induction ps with
      | nil => exact absurd rfl hps
      | cons p ps ih =>
        cases ps with
        | nil => simp [jn]
        | cons q qs =>
          have h1 : jn 10 (p :: (q :: qs ++ [[]])) = p ++ 10 :: jn 10 (q :: qs ++ [[]]) := jn_cons (by simp)
          have h2 : jn 10 (p :: q :: qs) = p ++ 10 :: jn 10 (q :: qs) := jn_cons (by simp)
          rw [List.cons_append, h1, ih (by simp), h2]; simp
    rw [key _ (sp_ne 10 t), jn_sp]
  have h : put (sp 10 t) = put ((sp 10 t).take k) ++ put ((sp 10 t).drop k) := by rw [← put_append, List.take_append_drop]
  have h2 := congrArg List.length (h.symm.trans e)
  rw [List.length_append, List.length_append] at h2
  simp at h2
  omega
theorem put_snoc (PS : List (List UInt8)) (k : Nat) (h : k < PS.length) : put (PS.take (k + 1)) = put (PS.take k) ++ (PS.getD k [] ++ [10]) := by
  rw [take_succ_getD PS [] k h, put_append]; simp [put]
theorem parse_bad_any (S : ByteArray) (k : Nat) (er : Addr) (w : World) (hT : Txt w er) (hS : S.size ≤ 10000000) (hp : parseO S.data.toList = .bad k) : Calls Tryz.prog 26 #[.string S] w fun e w' => e = .returned (.tuple #[.slice none 0 0, .int .i64 k, .int .i64 40]) ∧ Below w.heap.size w w' := by
  have h := Parse_any S.data.toList er w hT (by simpa using hS)
  rw [bs_self, hp] at h
  exact h
theorem parse_ok_any (S : ByteArray) (s : St) (er : Addr) (w : World) (hT : Txt w er) (hS : S.size ≤ 10000000) (hp : parseO S.data.toList = .ok s) : Calls Tryz.prog 26 #[.string S] w fun e w' => (∃ a n c, e = .returned (.tuple #[.slice a n c, .int .i64 0, .int .i64 0])) ∧ Below w.heap.size w w' := by
  have h := Parse_any S.data.toList er w hT (by simpa using hS)
  rw [bs_self, hp] at h
  refine h.mono fun e w' ⟨⟨v, he, hv⟩, hB⟩ => ⟨?_, hB⟩
  obtain ⟨a, c, rfl, _⟩ := hv.slice_
  exact ⟨a, _, c, he⟩
theorem fmt_toList : (⟨#[102, 111, 114, 109, 97, 116]⟩ : ByteArray).toList = [102, 111, 114, 109, 97, 116] := by rw [ByteArray.toList_eq]
theorem size_bs (l : List UInt8) : (bs l).size = l.length := rfl
set_option maxRecDepth 100000 in
set_option maxHeartbeats 8000000 in
theorem lines_law (vq : Value) (n : Nat) (at_ b : Int) (tl : ByteArray) (er : Addr) (w : World) (hQ : QsAt w vq n) (h0 : -9223372036854775808 ≤ at_) (h1 : at_ ≤ 9223372036854775807) (_hb0 : 0 ≤ b) (_hb1 : b ≤ 255) (hx : tl.size ≤ 9223372036854775807) (hT : Txt w er) :
    Calls Tryz.prog 7 #[vq, .int .i64 at_, .int .u8 b, .string tl] w fun e w' => e = .returned (.bool true) ∧ Below w.heap.size w w' := by
  have HT := Lib.hid hT
  have HQ := Lib.hid hQ
  clear hT hQ
  go_enter Tryz.func7, Tryz.ntmps7
  go_wp2_with fail
  refine (sane_any er w HT.out).mono ?_
  rintro e w1 ⟨rfl, hB⟩
  have H1 : Hid (Below w.heap.size w w1) := Lib.hid hB
  clear hB
  go_wp2_with fail
  refine (rMake_any vq n w1 (HQ.out.below H1.out)).mono ?_
  rintro e w2 ⟨⟨u, L, rfl, hMk, vs, hO⟩, hB⟩
  obtain ⟨ma, mc, rfl, -⟩ := hO.fms.slice_
  obtain ⟨mn, hmn⟩ : ∃ mn, mn = L.length := ⟨_, rfl⟩
  rw [← hmn] at hO ⊢
  have H2 : Hid (Below w.heap.size w w2 ∧ Mk L ∧ FmsAt (· < w2.heap.size) w2 (.slice ma mn mc) L) := Lib.hid ⟨H1.out.trans (hB.mono H1.out.size), hMk, hO.fms⟩
  obtain ⟨T, hTx⟩ : ∃ T, T = bs (text L) := ⟨_, rfl⟩
  have hTs : T.size ≤ 200000 := by rw [hTx]; exact vd_text_small hMk.ok
  have HPR := rPrint_ok _ L w2 H2.out.2.2 hMk.ints (vd_iff.2 hMk.ok)
  rw [← hTx] at HPR
  have HPR := Lib.hid HPR
  clear hB hO hMk hmn hTx
  by_cases hT0 : T.size = 0
  · have he := (emp_of hT0).1
    have he2 := (emp_of hT0).2
    go_wp2_with fail
    refine HPR.out.mono ?_
    rintro e w3 ⟨rfl, hB⟩
    have H3 : Hid (Below w.heap.size w w3) := Lib.hid (H2.out.1.trans (hB.mono H2.out.1.size))
    clear hB HPR H2
    go_wp2_with fail
    go_ret
    exact ⟨rfl, H3.out⟩
  · obtain ⟨q1, q2⟩ := emp_not hT0
    obtain ⟨R, hR⟩ : ∃ R, pickI at_ (T.size : Int) = R := ⟨_, rfl⟩
    have hR0 : 0 ≤ R := by rw [← hR]; exact pickI_lo (by omega)
    have hR1 : R < (T.size : Int) := by rw [← hR]; exact pickI_hi (by omega)
    obtain ⟨r, rfl⟩ : ∃ r : Nat, R = r := ⟨R.toNat, by omega⟩
    have HP := Lib.hid (fun V => lpick_any at_ (T.size : Int) r V h0 h1 (by omega) (by omega) hR)
    have hw1 : IntKind.i64.wrap ((r : Int) + 1) = (r : Int) + 1 := IntWalk.i64_in _ ⟨by omega, by omega⟩
    have hrt : (r : Int) ≤ T.size := by omega
    have hrt1 : (r : Int) + 1 ≤ T.size := by omega
    obtain ⟨B1, hB1⟩ : ∃ B1, B1 = bs [UInt8.ofNat b.toNat] := ⟨_, rfl⟩
    have hB1s : B1.size = 1 := by rw [hB1]; rfl
    have hcv : ∀ w3 : World, (convert 44 9 (.slice (some ⟨w3.heap.size, 0, none⟩) 1 1)).run Tryz.prog (w3.alloc (.cells #[.int .u8 b] 5)).drew = .ok (.string B1) (w3.alloc (.cells #[.int .u8 b] 5)).drew := fun w3 => by
      rw [hB1]
      exact run_convert_bytes_arg (P := Tryz.prog) _ 44 5 Tryz.underlying44 Tryz.underlying5 w3.heap.size 0 1 1 [b] rfl (fun i hi => by
        obtain rfl : i = 0 := by omega
        have h := cell_of_row (w3.alloc (.cells #[.int .u8 b] 5)) w3.heap.size 0 _ _ _ (heap_alloc_new _ _)
        exact h) 9 Tryz.underlying9
    have HCV := Lib.hid hcv
    have hes : (T.extract 0 r).size ≤ 200000 := by rw [ByteArray.size_extract]; omega
    have hes2 : (T.extract (r + 1) T.size).size ≤ 200000 := by rw [ByteArray.size_extract]; omega
    have HSS : Hid (((T.extract 0 r ++ B1) ++ T.extract (r + 1) T.size).size ≤ 200000) := Lib.hid (by rw [ByteArray.size_append, ByteArray.size_append, ByteArray.size_extract, ByteArray.size_extract]; omega)
    clear hR hB1 hcv
    go_wp2_with fail
    refine HPR.out.mono ?_
    rintro e w3 ⟨rfl, hB⟩
    have H3 : Hid (Below w.heap.size w w3) := Lib.hid (H2.out.1.trans (hB.mono H2.out.1.size))
    clear hB HPR H2
    go_wp2_with fail
    refine (HP.out w3).mono ?_
    rintro e w4 ⟨rfl, rfl⟩
    have hcw := HCV.out w4
    clear HP HCV
    go_wp2_with fail
    go_cut [10] from 40 to 52 (fun s wx => ∃ T2, s = .string T2 ∧ Hid (T2.size ≤ 200000 ∧ Below w.heap.size w wx))
    case first =>
      go_region
      all_goals
        go_wp2_with fail
        go_meet
        case rel => exact ⟨_, rfl, Lib.hid ⟨HSS.out, H3.out.trans ((bx _).drew.mono H3.out.size)⟩⟩
    case rest =>
      obtain ⟨T2, rfl, HC⟩ := hcut
      obtain ⟨ws, rfl⟩ : ∃ ws, ws = wc := ⟨_, rfl⟩
      clear hcw HSS hes hes2 hw1 hrt hrt1 hR0 hR1 q1 q2 hT0 hTs H3
      have hT2 := HC.out.1
      have HPT := Lib.hid (parse_tell T2 er ws (HT.out.below HC.out.2) (by omega))
      go_wp2_with fail
      refine HPT.out.mono ?_
      rintro e w5 ⟨⟨a, m, c, rfl, s0, hp⟩ | ⟨y, hy1, hy2, rfl, hp⟩, hB5⟩
      · have H5 : Hid (Below w.heap.size w w5) := Lib.hid (HC.out.2.trans (hB5.mono HC.out.2.size))
        have h10 : ((10 : UInt8).toNat : Int) = 10 := rfl
        have HSP := rSplit_any T2 10 w5 (by omega)
        rw [h10] at HSP
        have HSP := Lib.hid HSP
        clear hB5 HPT hp h10
        go_wp2_with fail
        refine HSP.out.mono ?_
        rintro e w6 ⟨⟨v, ss, rfl, hO, hss⟩, hB6⟩
        have H6 : Hid (Below w.heap.size w w6) := Lib.hid (H5.out.trans (hB6.mono H5.out.size))
        clear hB6 HSP hO
        go_wp2_with fail
        go_ret
        exact ⟨rfl, H6.out⟩
      · have H5 : Hid (Below w.heap.size w w5) := Lib.hid (HC.out.2.trans (hB5.mono HC.out.2.size))
        have h10 : ((10 : UInt8).toNat : Int) = 10 := rfl
        have HSP := rSplit_any T2 10 w5 (by omega)
        rw [h10] at HSP
        have HSP := Lib.hid HSP
        have HPB := Lib.hid hp
        clear hB5 HPT hp h10
        go_wp2_with fail
        refine HSP.out.mono ?_
        rintro e w6 ⟨⟨v, ss, rfl, hO, hss⟩, hB6⟩
        have H6 : Hid (Below w.heap.size w w6) := Lib.hid (H5.out.trans (hB6.mono H5.out.size))
        obtain ⟨va, vc, rfl, hcells⟩ := hO.at_
        have hlen : ss.length = (sp 10 T2.data.toList).length := by rw [← hss]; simp
        have hle : ss.length ≤ T2.data.toList.length + 1 := by rw [hlen]; exact count_le _ _
        have hle2 : ss.length ≤ 200001 := by simp at hle; omega
        obtain ⟨NL, hNL⟩ : ∃ NL, NL = ss.length := ⟨_, rfl⟩
        rw [← hNL] at hlen hle hle2 hcells ⊢
        have hNL0 : 1 ≤ NL := by
          rw [hlen]
          have := List.length_pos_iff.2 (sp_ne 10 T2.data.toList)
          omega
        clear hB6 HSP hO hle
        by_cases hyn : y < NL
        · obtain hc0 | ⟨vb, rfl, -, lvb, m1, m2, hce⟩ := hcells
          · omega
          have HLN : Hid (∀ k, k < NL → (ss.getD k ⟨#[]⟩).data.toList = (sp 10 T2.data.toList).getD k []) := Lib.hid fun k hk => by
            rw [← hss]
            have hk2 : k < ss.length := by omega
            simp [List.getD, List.getElem?_eq_getElem hk2]
          have HKS : Hid (∀ k, k < NL → bs (put ((sp 10 T2.data.toList).take k)) ++ ss.getD k ⟨#[]⟩ ++ (⟨#[10]⟩ : ByteArray) = bs (put ((sp 10 T2.data.toList).take (k + 1)))) := Lib.hid fun k hk => by
            rw [put_snoc _ k (by omega), ← HLN.out k hk]
            generalize ss.getD k ⟨#[]⟩ = Z
            generalize put ((sp 10 T2.data.toList).take k) = Y
            show (bs Y ++ Z) ++ bs [10] = _
            conv => lhs; rw [← bs_self Z]
            rw [bs_append, bs_append, List.append_assoc]
          have HSZ : Hid (∀ k, (bs (put ((sp 10 T2.data.toList).take k))).size ≤ 200001) := Lib.hid fun k => by
            rw [size_bs]
            have h := put_take_len (t := T2.data.toList) k
            simp at h
            omega
          have HLE := Lib.hid hlen
          have HCE := Lib.hid hce
          clear hss hlen hNL hce
          unfold maxLen at m2
          go_wp2_with fail
          go_loop [17, 18, 19] (fun kp hd i => ∃ (k : Nat) (K H : ByteArray), k ≤ y ∧ i = .int .i64 k ∧ kp = .string K ∧ hd = .string H ∧ K.size ≤ 200001 ∧ H.size ≤ 200001 ∧ Hid (K = bs (put ((sp 10 T2.data.toList).take k)) ∧ ∃ s, parseO H.data.toList = .ok s)) (fun _ _ i => y - (intOf i).toNat)
          case atStart => exact ⟨0, _, _, Nat.zero_le _, rfl, rfl, rfl, by decide, by decide, Lib.hid ⟨rfl, parse_nil⟩⟩
          case round =>
            obtain ⟨k, K, H, hk, rfl, rfl, rfl, hKs, hHs, HI⟩ := hrel
            by_cases hky : k < y
            · have hkN : k < NL := by omega
              have hck := HCE.out k hkN
              obtain ⟨S, hS⟩ : ∃ S, S = ss.getD k ⟨#[]⟩ := ⟨_, rfl⟩
              rw [← hS] at hck
              have hK2 : (K ++ S) ++ (⟨#[10]⟩ : ByteArray) = bs (put ((sp 10 T2.data.toList).take (k + 1))) := by rw [HI.out.1, hS]; exact HKS.out k hkN
              have hK2s : ((K ++ S) ++ (⟨#[10]⟩ : ByteArray)).size ≤ 200001 := by rw [hK2]; exact HSZ.out _
              have hSs : S.size ≤ 200001 := by rw [ByteArray.size_append, ByteArray.size_append] at hK2s; omega
              have hKSs : (K ++ S).size ≤ 200001 := by rw [ByteArray.size_append] at hK2s; omega
              have HN : Hid ((K ++ S) ++ (⟨#[10]⟩ : ByteArray) = bs (put ((sp 10 T2.data.toList).take (k + 1)))) := Lib.hid hK2
              have HKZ := Lib.hid hK2s
              have HSD : Hid (S.data.toList = (sp 10 T2.data.toList).getD k []) := Lib.hid (by rw [hS]; exact HLN.out k hkN)
              clear hK2 hK2s hS
              by_cases a1 : (k : Int) < (y : Int) - 1
              · by_cases a2 : (6 : Int) ≤ (S.size : Int)
                · by_cases a3 : S.extract 0 6 = (⟨#[102, 111, 114, 109, 97, 116]⟩ : ByteArray)
                  · have a4 : (S.extract 0 6).toList = [102, 111, 114, 109, 97, 116] := by rw [a3, fmt_toList]
                    have a5 : ((S.extract 0 6).toList == [102, 111, 114, 109, 97, 116]) = true := by rw [a4]; rfl
                    have HW : Hid (∃ s, parseO K.data.toList = .ok s) := Lib.hid (by
                      have h := congrArg (fun z : ByteArray => z.data.toList) a3
                      simp only [ByteArray.data_extract, Array.toList_extract, List.extract_eq_take_drop] at h
                      obtain ⟨s1, hr⟩ : ∃ s1, reads st0 ((sp 10 T2.data.toList).take (y - 1)) = some s1 := by
                        obtain ⟨_, _, s1, h3, _⟩ := parse_bad HPB.out
                        exact ⟨s1, h3⟩
                      have h2 := head_whole (PS := sp 10 T2.data.toList) (n := y) (k := k) (sp_mem 10 _) hr (by omega) (by have := HLE.out; omega) (by rw [← HSD.out]; simpa [wFormat] using h)
                      rw [HI.out.1]
                      exact h2)
                    clear a3
                    go_wp2_with fail
                    exact ⟨⟨k + 1, _, K, by omega, by go_num, rfl, rfl, HKZ.out, hKs, Lib.hid ⟨HN.out, HW.out⟩⟩, by simp [intOf]; omega⟩
                  · have a4 : ¬ (S.extract 0 6).toList = [102, 111, 114, 109, 97, 116] := fun e => a3 (toList_inj.1 (e.trans fmt_toList.symm))
                    have a5 : ((S.extract 0 6).toList == [102, 111, 114, 109, 97, 116]) = false := by rw [beq_eq_false_iff_ne]; exact a4
                    clear a3
                    go_wp2_with fail
                    exact ⟨⟨k + 1, _, H, by omega, by go_num, rfl, rfl, HKZ.out, hHs, Lib.hid ⟨HN.out, HI.out.2⟩⟩, by simp [intOf]; omega⟩
                · go_wp2_with fail
                  exact ⟨⟨k + 1, _, H, by omega, by go_num, rfl, rfl, HKZ.out, hHs, Lib.hid ⟨HN.out, HI.out.2⟩⟩, by simp [intOf]; omega⟩
              · go_wp2_with fail
                exact ⟨⟨k + 1, _, H, by omega, by go_num, rfl, rfl, HKZ.out, hHs, Lib.hid ⟨HN.out, HI.out.2⟩⟩, by simp [intOf]; omega⟩
            · obtain rfl : k = y := by omega
              obtain ⟨M, hM⟩ : ∃ M : Nat, min (tl.size : Int) 300 = M := ⟨(min (tl.size : Int) 300).toNat, by omega⟩
              have hMx : (M : Int) ≤ tl.size := by omega
              obtain ⟨X, hX⟩ : ∃ X, X = tl.extract 0 M := ⟨_, rfl⟩
              have hXs : X.size ≤ 300 := by rw [hX, ByteArray.size_extract]; omega
              have hXs2 : (tl.extract 0 M).size ≤ 300 := by rw [← hX]; exact hXs
              have HP2 := Lib.hid (parse_bad_any (K ++ X) k er w6 (HT.out.below H6.out) (by rw [ByteArray.size_append]; omega) (by
                have e : (K ++ X).data.toList = put ((sp 10 T2.data.toList).take k) ++ X.data.toList := by rw [HI.out.1]; simp
                rw [e]
                exact bad_again HPB.out (by have := HLE.out; omega) _))
              rw [hX] at HP2
              obtain ⟨s, hs⟩ := HI.out.2
              have HP3 := Lib.hid (fun w7 (h7 : Below w6.heap.size w6 w7) => parse_ok_any H s er w7 ((HT.out.below H6.out).below h7) (by omega) hs)
              clear hs hX HI hXs
              go_wp2_with fail
              refine HP2.out.mono ?_
              rintro e w7 ⟨rfl, hB7⟩
              have H7 := Lib.hid hB7
              clear hB7 HP2
              go_wp2_with fail
              refine (HP3.out w7 H7.out).mono ?_
              rintro e w8 ⟨⟨a, m, c, rfl⟩, hB8⟩
              have H8 : Hid (Below w.heap.size w w8) := Lib.hid ((H6.out.trans (H7.out.mono H6.out.size)).trans (hB8.mono (by have := H6.out.size; have := H7.out.size; omega)))
              clear hB8 HP3
              go_wp2_with fail
              go_ret
              exact ⟨rfl, H8.out⟩
        · have hyn2 : (NL : Int) ≤ (y : Int) := by omega
          go_wp2_with fail
          go_ret
          exact ⟨rfl, H6.out⟩
end Go.Proofs.YtcnokccgdiodlaaGreatDoor
