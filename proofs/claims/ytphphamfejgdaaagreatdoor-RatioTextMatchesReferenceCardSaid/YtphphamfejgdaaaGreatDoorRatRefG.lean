/- The reference's Parse. Condition: a text of at most 1000 bytes. (Written by gen_refg.py.) -/
import Derived.Test.YtphphamfejgdaaaGreatDoorRatRefF
namespace Go.Proofs.YtphphamfejgdaaaGreatDoor
open Go.RowKit

theorem run_min_two (ts : Array TypeId) (t : TypeId) (x y : Int) (W : World) : (Builtin.min_ ts t #[.int .i64 x, .int .i64 y]).run Tryz.prog W = .ok (.int .i64 (if y < x then y else x)) W := by
  simp [Builtin.min_, Builtin.min2]
/-- Where the first stroke from j on stands. -/
def slashAt (l : List UInt8) (j : Nat) : Nat := j + Rt.slash (l.drop j)
theorem slashAt_end (l : List UInt8) : slashAt l l.length = l.length := by
  unfold slashAt
  rw [List.drop_length]
  rfl
theorem slashAt_step (l : List UInt8) (j : Nat) (hj : j < l.length) : slashAt l j = if l[j].toNat = 47 then j else slashAt l (j + 1) := by
  unfold slashAt
  rw [List.drop_eq_getElem_cons hj]
  unfold Rt.slash
  rw [List.findIdx_cons]
  by_cases h : l[j].toNat = 47
  · have e : l[j] = 47 := UInt8.toNat_inj.1 h
    rw [if_pos h, e]
    rfl
  · have e : (l[j] == 47) = false := by
      rw [beq_eq_false_iff_ne]
      intro h2
      rw [h2] at h
      exact h rfl
    rw [if_neg h, e, cond_false]
    omega
theorem slashAt_le (l : List UInt8) : ∀ j, j ≤ l.length → slashAt l j ≤ l.length := by
  intro j hj
  unfold slashAt
  have h : Rt.slash (l.drop j) ≤ (l.drop j).length := List.findIdx_le_length
  rw [List.length_drop] at h
  omega
theorem readI_lt (l : List UInt8) (h : l.length ≤ 11) : -100000000000 < Rt.readI l ∧ Rt.readI l < 100000000000 := by
  have h1 := readTo_lt l l.length (Nat.le_refl _)
  unfold readTo at h1
  rw [List.take_length] at h1
  have h2 : 10 ^ l.length ≤ 10 ^ 11 := Nat.pow_le_pow_right (by decide) h
  have h3 : (10 : Nat) ^ 11 = 100000000000 := by decide
  unfold Rt.readI
  split <;> omega

set_option maxRecDepth 20000 in
set_option maxHeartbeats 4000000 in
theorem rparse_any (s : ByteArray) (x y z : Int) (w : World) (hs : s.size ≤ 1000) (hx : Parts (Rt.refO s.data.toList) x y z) :
    Calls Tryz.prog 31 #[.string s] w fun e w' => e = .returned (.tuple #[frac x y, .int .i64 z]) ∧ Below w.heap.size w w' := by
  have HX := Lib.hid hx
  have hsl : s.data.toList.length = s.size := Array.length_toList
  have HSL := Lib.hid hsl
  have HB1 : Hid (Below w.heap.size w (w.alloc (Obj.cells #[Value.int IntKind.i64 0, Value.int IntKind.i64 0] 25))) := Lib.hid ((Below.refl _ _).alloc (Nat.le_refl _) _)
  clear hx
  by_cases hlong : 22 < s.size
  · obtain ⟨rfl, rfl, rfl⟩ : x = 0 ∧ y = 0 ∧ z = 30 := by
      obtain ⟨h1, h2, h3⟩ := HX.out
      have e : Rt.refO s.data.toList = none := by unfold Rt.refO; rw [if_pos (by omega)]
      rw [e] at h1 h2 h3
      exact ⟨h1.symm, h2.symm, h3.symm⟩
    have hl2 : (22 : Int) < (s.size : Int) := by omega
    clear hsl
    go_enter Tryz.func31, Tryz.ntmps31
    go_wp2_with fail
    refine bodyPost_ret (v := .tuple #[frac 0 0, .int .i64 30]) (by simp [results, Tryz.results31, go_sem]) rfl ⟨rfl, ?_⟩
    first | exact HB1.out | exact (HB1.out.setCell (Nat.le_refl _) _).setCell (Nat.le_refl _) _
  · have hl2 : ¬ (22 : Int) < (s.size : Int) := by omega
    have hl3 : (s.size : Int) ≤ 22 := by omega
    have HL := Lib.hid hlong
    have HO : Hid (Parts (Rt.backO (Rt.readI (s.data.toList.take (min (Rt.slash s.data.toList) 11))) (if Rt.slash s.data.toList < s.data.toList.length then Rt.readI ((s.data.toList.drop (Rt.slash s.data.toList + 1)).take 11) else 1) s.data.toList) x y z) := Lib.hid (by
      have h := HX.out
      unfold Rt.refO at h
      rw [if_neg (by omega)] at h
      exact h)
    have HB2 : Hid (Below w.heap.size w ((w.alloc (Obj.cells #[Value.int IntKind.i64 0, Value.int IntKind.i64 0] 25)).alloc (Obj.cells #[Value.int IntKind.i64 0, Value.int IntKind.i64 1] 25))) := Lib.hid (HB1.out.alloc (by simp) _)
    clear hsl hlong HX
    go_enter Tryz.func31, Tryz.ntmps31
    go_wp2
    go_loopw [5, 6] (fun a c wr => ∃ j : Nat, j ≤ s.size ∧ a = .int .i64 (slashAt s.data.toList j : Nat) ∧ c = .int .i64 ((j : Int) - 1) ∧ wr = ((w.alloc (Obj.cells #[Value.int IntKind.i64 0, Value.int IntKind.i64 0] 25)).alloc (Obj.cells #[Value.int IntKind.i64 0, Value.int IntKind.i64 1] 25))) (fun _ c _ => ((intOf c) + 1).toNat)
    case atStart => exact ⟨s.size, by omega, by rw [← HSL.out, slashAt_end], rfl, rfl⟩
    case round =>
      obtain ⟨j, hj, rfl, rfl, rfl⟩ := hrel
      have hAle := slashAt_le s.data.toList j (by rw [HSL.out]; exact hj)
      rw [HSL.out] at hAle
      obtain ⟨A, hA⟩ : ∃ A, slashAt s.data.toList j = A := ⟨_, rfl⟩
      rw [hA] at hAle ⊢
      have HA := Lib.hid hA
      clear hA
      by_cases hj0 : 0 < j
      · obtain ⟨k, rfl⟩ : ∃ k, j = k + 1 := ⟨j - 1, by omega⟩
        have hk : k < s.size := by omega
        have hkl : k < s.data.toList.length := by rw [HSL.out]; exact hk
        have hst := slashAt_step s.data.toList k hkl
        rw [HA.out] at hst
        have ek : (((k + 1 : Nat) : Int) - 1) = (k : Int) := by omega
        rw [ek]
        obtain ⟨b, hb⟩ : ∃ b : Nat, (s.data.toList[k]).toNat = b := ⟨_, rfl⟩
        rw [hb] at hst
        obtain ⟨B, hB⟩ : ∃ B : Int, (b : Int) = B := ⟨_, rfl⟩
        have hb2 : ((s[k]).toNat : Int) = B := by rw [← hB]; exact congrArg _ hb
        have k0 : (0 : Int) ≤ (k : Int) := by omega
        have k1 : (k : Int) < (s.size : Int) := by omega
        obtain ⟨K, hK⟩ : ∃ K : Int, (k : Int) - 1 = K := ⟨_, rfl⟩
        have K1 : -1 ≤ K := by omega
        have K2 : K ≤ 22 := by omega
        by_cases h47 : b = 47
        · rw [if_pos h47] at hst
          have HN := Lib.hid hst
          have b47 : B = 47 := by omega
          subst b47
          clear hst hb hB h47 ek
          go_wp2_with fail
          go_roundw
          case rel => exact ⟨k, by omega, by rw [HN.out], by rw [← hK], by trivial⟩
          case measure => simp only [intOf]; omega
        · rw [if_neg h47] at hst
          have HN := Lib.hid hst
          have b47 : (B == 47) = false := by rw [beq_eq_false_iff_ne]; omega
          clear hst hb hB h47 ek
          go_wp2_with fail
          go_roundw
          case rel => exact ⟨k, by omega, by rw [HN.out], by rw [← hK], by trivial⟩
          case measure => simp only [intOf]; omega
      · obtain rfl : j = 0 := by omega
        have hsl0 : Rt.slash s.data.toList = A := by have := HA.out; unfold slashAt at this; simpa using this
        have HO2 : Hid (Parts (Rt.backO (Rt.readI (s.data.toList.take (min A 11))) (if A < s.size then Rt.readI ((s.data.toList.drop (A + 1)).take 11) else 1) s.data.toList) x y z) := Lib.hid (by
          have h := HO.out
          rw [hsl0, HSL.out] at h
          exact h)
        clear HO HA hsl0 hj hj0
        obtain ⟨m, hm⟩ : ∃ m, m = min A 11 := ⟨_, rfl⟩
        have hmin : ∀ (ts : Array TypeId) (t : TypeId) (W : World), (Builtin.min_ ts t #[.int .i64 (A : Int), .int .i64 11]).run Tryz.prog W = .ok (.int .i64 (m : Int)) W := by
          intro ts t W
          rw [run_min_two, hm]
          congr 2
          split <;> omega
        have m1 : m ≤ 11 := by omega
        have m2 : m ≤ s.size := by omega
        have mA : (0 : Int) ≤ (m : Int) := by omega
        obtain ⟨S1, hS1⟩ : ∃ S, s.extract 0 m = S := ⟨_, rfl⟩
        have hS1s : S1.size ≤ 11 := by rw [← hS1]; simp; omega
        obtain ⟨n, hn⟩ : ∃ n, Rt.readI S1.data.toList = n := ⟨_, rfl⟩
        have hnt : Rt.readI (s.data.toList.take (min A 11)) = n := by
          rw [← hn, ← hS1, ← hm]
          congr 1
          simp
        have hnb := readI_lt S1.data.toList hS1s
        rw [hn] at hnb
        obtain ⟨nb1, nb2⟩ := hnb
        rw [hnt] at HO2
        have HN := Lib.hid (And.intro hS1s hn)
        clear hm hS1s hn hnt
        go_wp2_with fail
        refine (rread_any S1 n _ HN.out.1 HN.out.2).mono ?_
        rintro e w1 ⟨rfl, rfl⟩
        have AI1 : (A : Int) ≤ (s.size : Int) := by omega
        by_cases hAs : A < s.size
        · rw [if_pos hAs] at HO2
          have a1 : (A : Int) < (s.size : Int) := by omega
          obtain ⟨p, hp⟩ : ∃ p, p = min s.size (A + 12) := ⟨_, rfl⟩
          obtain ⟨A1, hA1⟩ : ∃ A1, A + 1 = A1 := ⟨_, rfl⟩
          have hmin2 : ∀ (ts : Array TypeId) (t : TypeId) (W : World), (Builtin.min_ ts t #[.int .i64 (s.size : Int), .int .i64 ((A : Int) + 12)]).run Tryz.prog W = .ok (.int .i64 (p : Int)) W := by
            intro ts t W
            rw [run_min_two, hp]
            congr 2
            split <;> omega
          have p1 : A1 ≤ p := by omega
          have p2 : p ≤ s.size := by omega
          have A1e : (A : Int) + 1 = (A1 : Int) := by omega
          have A12 : (A : Int) + 12 ≤ 9223372036854775807 := by omega
          have A10 : (0 : Int) ≤ (A1 : Int) := by omega
          have p1i : (A1 : Int) ≤ (p : Int) := by omega
          have p2i : (p : Int) ≤ (s.size : Int) := by omega
          obtain ⟨S2, hS2⟩ : ∃ S, s.extract A1 p = S := ⟨_, rfl⟩
          have hS2s : S2.size ≤ 11 := by rw [← hS2]; simp; omega
          obtain ⟨d, hd⟩ : ∃ d, Rt.readI S2.data.toList = d := ⟨_, rfl⟩
          have hdt : Rt.readI ((s.data.toList.drop (A + 1)).take 11) = d := by
            rw [← hd, ← hS2, hA1]
            congr 1
            simp only [ByteArray.data_extract, Array.toList_extract, List.extract_eq_take_drop]
            rw [hp]
            have hln : (s.data.toList.drop A1).length = s.size - A1 := by rw [List.length_drop, HSL.out]
            by_cases h : s.size ≤ A + 12
            · rw [Nat.min_eq_left h, List.take_of_length_le (by omega), List.take_of_length_le (by omega)]
            · rw [Nat.min_eq_right (by omega), show A + 12 - A1 = 11 by omega]
          have hdb := readI_lt S2.data.toList hS2s
          rw [hd] at hdb
          obtain ⟨db1, db2⟩ := hdb
          rw [hdt] at HO2
          have HD := Lib.hid (And.intro hS2s hd)
          clear hp hS2s hd hdt hAs hA1
          go_wp2_with fail
          refine (rread_any S2 d _ HD.out.1 HD.out.2).mono ?_
          rintro e w1 ⟨rfl, rfl⟩
          go_wp2_with fail
          obtain ⟨v, hv⟩ : ∃ v, (Rt.rd n d).isSome = v := ⟨_, rfl⟩
          have HV := Lib.hid hv
          clear hv
          have hb0 : Below w.heap.size w ((w.alloc (Obj.cells #[Value.int IntKind.i64 0, Value.int IntKind.i64 0] 25)).alloc (Obj.cells #[Value.int IntKind.i64 n, Value.int IntKind.i64 d] 25)) := HB1.out.alloc (by simp) _
          refine (rvalid_any n d v _ (by omega) (by omega) (by omega) (by omega) HV.out).mono ?_
          rintro e w2 ⟨rfl, hB⟩
          obtain ⟨hc, hz⟩ := bcell hB
          have t0 : w2.cell? ⟨w.heap.size + 1, 0, none⟩ = some (.int .i64 n) := by rw [hc _ _ (by first | (simp; done) | (simp; omega))]; simp [go_sem]
          have t1 : w2.cell? ⟨w.heap.size + 1, 1, none⟩ = some (.int .i64 d) := by rw [hc _ _ (by first | (simp; done) | (simp; omega))]; simp [go_sem]
          have y0 : w2.cell? ⟨w.heap.size, 0, none⟩ = some (.int .i64 0) := by rw [hc _ _ (by first | (simp; done) | (simp; omega))]; simp [go_sem]
          have z0 : w2.frozen? ⟨w.heap.size, 0, none⟩ = false := by rw [hz _ _ (by first | (simp; done) | (simp; omega))]; simp [go_sem]
          have y1 : w2.cell? ⟨w.heap.size, 1, none⟩ = some (.int .i64 0) := by rw [hc _ _ (by first | (simp; done) | (simp; omega))]; simp [go_sem]
          have z1 : w2.frozen? ⟨w.heap.size, 1, none⟩ = false := by rw [hz _ _ (by first | (simp; done) | (simp; omega))]; simp [go_sem]
          have hsz : w.heap.size + 1 < w2.heap.size := by have := hB.size; simp at this; omega
          have HB3 : Hid (Below w.heap.size w w2) := Lib.hid (hb0.trans (hB.mono (by first | (simp; done) | (simp; omega))))
          clear hB hb0 hc hz
          cases v with
          | false =>
            obtain ⟨rfl, rfl, rfl⟩ : x = 0 ∧ y = 0 ∧ z = 30 := by
              obtain ⟨h1, h2, h3⟩ := HO2.out
              have e : Rt.backO n d s.data.toList = none := by
                unfold Rt.backO
                cases h : Rt.rd n d with
                | none => rfl
                | some q => have := HV.out; rw [h] at this; cases this
              rw [e] at h1 h2 h3
              exact ⟨h1.symm, h2.symm, h3.symm⟩
            clear t0 t1
            go_wp2_with fail
            refine bodyPost_ret (v := .tuple #[frac 0 0, .int .i64 30]) (by simp [results, Tryz.results31, go_sem, y0, y1]) rfl ⟨rfl, ?_⟩
            exact (HB3.out.setCell (by first | (simp; done) | (simp; omega)) _).setCell (by first | (simp; done) | (simp; omega)) _
          | true =>
            obtain ⟨q, hq⟩ : ∃ q, Rt.rd n d = some q := Option.isSome_iff_exists.1 HV.out
            have HQ := Lib.hid (Rt.rd_some hq)
            have HBD := Lib.hid (Rt.rd_bounds hq)
            obtain ⟨T, hT⟩ : ∃ T : ByteArray, ⟨(textI n d).toArray⟩ = T := ⟨_, rfl⟩
            have HTT := Lib.hid hT
            obtain ⟨b2, hb2⟩ : ∃ b2, (T.toList == s.toList) = b2 := ⟨_, rfl⟩
            have HO3 : Hid (Parts (if b2 = true then some q else none) x y z) := Lib.hid (by
              have h := HO2.out
              unfold Rt.backO at h
              rw [hq] at h
              have e1 : Rt.textB q = textI n d := by rw [← textI_of, HQ.out.1, HQ.out.2.1]
              have e2 : (Rt.textB q = s.data.toList) ↔ b2 = true := by
                rw [← hb2, str_beq, decide_eq_true_eq, e1]
                constructor
                · intro h; rw [← HTT.out, h]
                · intro h; rw [← h, ← HTT.out]
              simp only [e2] at h
              exact h)
            have HQ2 := Lib.hid (And.intro HQ.out.1 HQ.out.2.1)
            clear hq hT
            go_wp2_with fail
            refine (rtext_any n d T _ HBD.out.1 HBD.out.2.1 (by have := HBD.out; omega) HBD.out.2.2.2 HTT.out).mono ?_
            rintro e w3 ⟨rfl, hB⟩
            obtain ⟨hc, hz⟩ := bcell hB
            have HB4 : Hid (Below w.heap.size w w3) := Lib.hid (HB3.out.trans (hB.mono HB3.out.size))
            rw [← hc _ _ (by omega)] at t0 t1 y0 y1
            rw [← hz _ _ (by omega)] at z0 z1
            clear hB hc hz hsz
            cases b2 with
            | false =>
              obtain ⟨rfl, rfl, rfl⟩ : x = 0 ∧ y = 0 ∧ z = 30 := ⟨HO3.out.nm.symm, HO3.out.dn.symm, HO3.out.er.symm⟩
              clear t0 t1
              go_wp2_with fail
              refine bodyPost_ret (v := .tuple #[frac 0 0, .int .i64 30]) (by simp [results, Tryz.results31, go_sem, y0, y1]) rfl ⟨rfl, ?_⟩
              exact (HB4.out.setCell (by first | (simp; done) | (simp; omega)) _).setCell (by first | (simp; done) | (simp; omega)) _
            | true =>
              obtain ⟨hx1, hx2, rfl⟩ : n = x ∧ d = y ∧ z = 0 := ⟨HQ2.out.1.symm.trans HO3.out.nm, HQ2.out.2.symm.trans HO3.out.dn, HO3.out.er.symm⟩
              have HXY := Lib.hid (And.intro hx1 hx2)
              clear hx1 hx2
              go_wp2_with fail
              refine bodyPost_ret (v := .tuple #[frac n d, .int .i64 0]) (by simp [results, Tryz.results31, go_sem, y0, y1]) rfl ⟨by rw [← HXY.out.1, ← HXY.out.2], ?_⟩
              exact (HB4.out.setCell (by first | (simp; done) | (simp; omega)) _).setCell (by first | (simp; done) | (simp; omega)) _
        · rw [if_neg hAs] at HO2
          have a1 : ¬ (A : Int) < (s.size : Int) := by omega
          clear hAs
          go_wp2_with fail
          obtain ⟨v, hv⟩ : ∃ v, (Rt.rd n 1).isSome = v := ⟨_, rfl⟩
          have HV := Lib.hid hv
          clear hv
          have hb0 : Below w.heap.size w ((w.alloc (Obj.cells #[Value.int IntKind.i64 0, Value.int IntKind.i64 0] 25)).alloc (Obj.cells #[Value.int IntKind.i64 n, Value.int IntKind.i64 1] 25)) := HB1.out.alloc (by simp) _
          refine (rvalid_any n 1 v _ (by omega) (by omega) (by omega) (by omega) HV.out).mono ?_
          rintro e w2 ⟨rfl, hB⟩
          obtain ⟨hc, hz⟩ := bcell hB
          have t0 : w2.cell? ⟨w.heap.size + 1, 0, none⟩ = some (.int .i64 n) := by rw [hc _ _ (by first | (simp; done) | (simp; omega))]; simp [go_sem]
          have t1 : w2.cell? ⟨w.heap.size + 1, 1, none⟩ = some (.int .i64 1) := by rw [hc _ _ (by first | (simp; done) | (simp; omega))]; simp [go_sem]
          have y0 : w2.cell? ⟨w.heap.size, 0, none⟩ = some (.int .i64 0) := by rw [hc _ _ (by first | (simp; done) | (simp; omega))]; simp [go_sem]
          have z0 : w2.frozen? ⟨w.heap.size, 0, none⟩ = false := by rw [hz _ _ (by first | (simp; done) | (simp; omega))]; simp [go_sem]
          have y1 : w2.cell? ⟨w.heap.size, 1, none⟩ = some (.int .i64 0) := by rw [hc _ _ (by first | (simp; done) | (simp; omega))]; simp [go_sem]
          have z1 : w2.frozen? ⟨w.heap.size, 1, none⟩ = false := by rw [hz _ _ (by first | (simp; done) | (simp; omega))]; simp [go_sem]
          have hsz : w.heap.size + 1 < w2.heap.size := by have := hB.size; simp at this; omega
          have HB3 : Hid (Below w.heap.size w w2) := Lib.hid (hb0.trans (hB.mono (by first | (simp; done) | (simp; omega))))
          clear hB hb0 hc hz
          cases v with
          | false =>
            obtain ⟨rfl, rfl, rfl⟩ : x = 0 ∧ y = 0 ∧ z = 30 := by
              obtain ⟨h1, h2, h3⟩ := HO2.out
              have e : Rt.backO n 1 s.data.toList = none := by
                unfold Rt.backO
                cases h : Rt.rd n 1 with
                | none => rfl
                | some q => have := HV.out; rw [h] at this; cases this
              rw [e] at h1 h2 h3
              exact ⟨h1.symm, h2.symm, h3.symm⟩
            clear t0 t1
            go_wp2_with fail
            refine bodyPost_ret (v := .tuple #[frac 0 0, .int .i64 30]) (by simp [results, Tryz.results31, go_sem, y0, y1]) rfl ⟨rfl, ?_⟩
            exact (HB3.out.setCell (by first | (simp; done) | (simp; omega)) _).setCell (by first | (simp; done) | (simp; omega)) _
          | true =>
            obtain ⟨q, hq⟩ : ∃ q, Rt.rd n 1 = some q := Option.isSome_iff_exists.1 HV.out
            have HQ := Lib.hid (Rt.rd_some hq)
            have HBD := Lib.hid (Rt.rd_bounds hq)
            obtain ⟨T, hT⟩ : ∃ T : ByteArray, ⟨(textI n 1).toArray⟩ = T := ⟨_, rfl⟩
            have HTT := Lib.hid hT
            obtain ⟨b2, hb2⟩ : ∃ b2, (T.toList == s.toList) = b2 := ⟨_, rfl⟩
            have HO3 : Hid (Parts (if b2 = true then some q else none) x y z) := Lib.hid (by
              have h := HO2.out
              unfold Rt.backO at h
              rw [hq] at h
              have e1 : Rt.textB q = textI n 1 := by rw [← textI_of, HQ.out.1, HQ.out.2.1]
              have e2 : (Rt.textB q = s.data.toList) ↔ b2 = true := by
                rw [← hb2, str_beq, decide_eq_true_eq, e1]
                constructor
                · intro h; rw [← HTT.out, h]
                · intro h; rw [← h, ← HTT.out]
              simp only [e2] at h
              exact h)
            have HQ2 := Lib.hid (And.intro HQ.out.1 HQ.out.2.1)
            clear hq hT
            go_wp2_with fail
            refine (rtext_any n 1 T _ HBD.out.1 HBD.out.2.1 (by have := HBD.out; omega) HBD.out.2.2.2 HTT.out).mono ?_
            rintro e w3 ⟨rfl, hB⟩
            obtain ⟨hc, hz⟩ := bcell hB
            have HB4 : Hid (Below w.heap.size w w3) := Lib.hid (HB3.out.trans (hB.mono HB3.out.size))
            rw [← hc _ _ (by omega)] at t0 t1 y0 y1
            rw [← hz _ _ (by omega)] at z0 z1
            clear hB hc hz hsz
            cases b2 with
            | false =>
              obtain ⟨rfl, rfl, rfl⟩ : x = 0 ∧ y = 0 ∧ z = 30 := ⟨HO3.out.nm.symm, HO3.out.dn.symm, HO3.out.er.symm⟩
              clear t0 t1
              go_wp2_with fail
              refine bodyPost_ret (v := .tuple #[frac 0 0, .int .i64 30]) (by simp [results, Tryz.results31, go_sem, y0, y1]) rfl ⟨rfl, ?_⟩
              exact (HB4.out.setCell (by first | (simp; done) | (simp; omega)) _).setCell (by first | (simp; done) | (simp; omega)) _
            | true =>
              obtain ⟨hx1, hx2, rfl⟩ : n = x ∧ 1 = y ∧ z = 0 := ⟨HQ2.out.1.symm.trans HO3.out.nm, HQ2.out.2.symm.trans HO3.out.dn, HO3.out.er.symm⟩
              have HXY := Lib.hid (And.intro hx1 hx2)
              clear hx1 hx2
              go_wp2_with fail
              refine bodyPost_ret (v := .tuple #[frac n 1, .int .i64 0]) (by simp [results, Tryz.results31, go_sem, y0, y1]) rfl ⟨by rw [← HXY.out.1, ← HXY.out.2], ?_⟩
              exact (HB4.out.setCell (by first | (simp; done) | (simp; omega)) _).setCell (by first | (simp; done) | (simp; omega)) _
end Go.Proofs.YtphphamfejgdaaaGreatDoor
