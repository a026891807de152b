/- The reference's text, Print, read. Conditions: ints; texts of at most 1000 bytes. -/
import Derived.Test.YtphphamfejgdaaaGreatDoorRatRefE
namespace Go.Proofs.YtphphamfejgdaaaGreatDoor
open Go.RowKit

set_option maxRecDepth 20000 in
theorem rtext_any (a b : Int) (S : ByteArray) (w : World) (a1 : -1000000000 ≤ a) (a2 : a ≤ 1000000000) (b1 : -1000000000 ≤ b) (b2 : b ≤ 1000000000)
    (hS : (⟨(textI a b).toArray⟩ : ByteArray) = S) :
    Calls Tryz.prog 55 #[frac a b] w fun e w' => e = .returned (.string S) ∧ Below w.heap.size w w' := by
  by_cases hb : b = 1
  · subst hb
    have HS : Hid ((⟨(Lib.itoa a).toArray⟩ : ByteArray) = S) := Lib.hid (by rw [← hS]; unfold textI; rw [if_pos rfl, List.append_nil])
    have HM := Lib.hid (And.intro a1 a2)
    clear a1 a2 b1 b2 hS
    go_enter Tryz.func55, Tryz.ntmps55
    go_wp2_with fail
    have hb0 : Below w.heap.size w (w.alloc (Obj.cells #[Value.int IntKind.i64 a, Value.int IntKind.i64 1] 25)) := (Below.refl _ _).alloc (Nat.le_refl _) _
    refine (rdigits_any a S _ HM.out.1 HM.out.2 HS.out).mono ?_
    rintro e w2 ⟨rfl, hB⟩
    have HB := Lib.hid (hb0.trans (hB.mono (by simp)))
    clear hB hb0
    go_wp2_with fail
    go_ret
    exact ⟨rfl, HB.out⟩
  · obtain ⟨A, hA⟩ : ∃ A : ByteArray, A = ⟨(Lib.itoa a).toArray⟩ := ⟨_, rfl⟩
    obtain ⟨B, hB⟩ : ∃ B : ByteArray, B = ⟨(Lib.itoa b).toArray⟩ := ⟨_, rfl⟩
    have sA : A.size ≤ 11 := by rw [hA]; exact Rt.itoa_len a (by omega)
    have sB : B.size ≤ 11 := by rw [hB]; exact Rt.itoa_len b (by omega)
    have HS : Hid ((A ++ ⟨#[47]⟩) ++ B = S) := Lib.hid (by
      rw [← hS, hA, hB]; unfold textI; rw [if_neg hb]
      rw [ByteArray.ext_iff]
      simp)
    have s1 : ¬ 9223372036854775807 < A.size + 1 := by omega
    have s2 : ¬ 9223372036854775807 < A.size + 1 + B.size := by omega
    have HM := Lib.hid (And.intro (And.intro a1 a2) (And.intro b1 b2))
    have hb0 : Below w.heap.size w (w.alloc (Obj.cells #[Value.int IntKind.i64 a, Value.int IntKind.i64 b] 25)) := (Below.refl _ _).alloc (Nat.le_refl _) _
    obtain ⟨w0, hw0⟩ : ∃ w0, w0 = w.alloc (Obj.cells #[Value.int IntKind.i64 a, Value.int IntKind.i64 b] 25) := ⟨_, rfl⟩
    have hc0 : w0.cell? ⟨w.heap.size, 0, none⟩ = some (.int .i64 a) := by rw [hw0]; simp [go_sem]
    have hc1 : w0.cell? ⟨w.heap.size, 1, none⟩ = some (.int .i64 b) := by rw [hw0]; simp [go_sem]
    have hsz : w.heap.size < w0.heap.size := by rw [hw0]; simp
    rw [← hw0] at hb0
    have HC : Hid (∀ w1, Below w0.heap.size w0 w1 → ∀ n V, (n = a ∧ V = A) ∨ (n = b ∧ V = B) → Calls Tryz.prog 68 #[.int .i64 n] w1 fun e w' => e = .returned (.string V) ∧ w'.cell? ⟨w.heap.size, 0, none⟩ = some (.int .i64 a) ∧ w'.cell? ⟨w.heap.size, 1, none⟩ = some (.int .i64 b) ∧ Below w0.heap.size w0 w') := Lib.hid (by
      intro w1 h1 n V hn
      have hk : ∀ w', Below w0.heap.size w0 w' → w'.cell? ⟨w.heap.size, 0, none⟩ = some (.int .i64 a) ∧ w'.cell? ⟨w.heap.size, 1, none⟩ = some (.int .i64 b) ∧ Below w0.heap.size w0 w' := fun w' h' =>
        ⟨by rw [(bcell h').1 _ _ hsz]; exact hc0, by rw [(bcell h').1 _ _ hsz]; exact hc1, h'⟩
      rcases hn with ⟨rfl, rfl⟩ | ⟨rfl, rfl⟩
      · exact (rdigits_any n _ w1 a1 a2 hA.symm).mono fun e w' ⟨he, hB⟩ => ⟨he, hk w' (h1.trans (hB.mono h1.size))⟩
      · exact (rdigits_any n _ w1 b1 b2 hB.symm).mono fun e w' ⟨he, hB⟩ => ⟨he, hk w' (h1.trans (hB.mono h1.size))⟩)
    have HE := Lib.hid hw0
    have HB0 := Lib.hid hb0
    clear sA sB hA hB a1 a2 b1 b2 hS hb0 hw0
    go_enter Tryz.func55, Tryz.ntmps55
    go_wp2_with fail
    rw [← HE.out]
    go_region_held3 (fun w' => w'.cell? ⟨w.heap.size, 0, none⟩ = some (.int .i64 a) ∧ w'.cell? ⟨w.heap.size, 1, none⟩ = some (.int .i64 b) ∧ Below w0.heap.size w0 w') (first | exact ⟨hc0, hc1, Below.refl _ _⟩ | exact ⟨hc0, hc1, (Below.refl _ _).drew⟩ | (refine ⟨?_, ?_, ?_⟩ <;> assumption)) ((first | (go_at_call 68; refine (HC.out _ (by first | exact Below.refl _ _ | exact (Below.refl _ _).drew | assumption) _ _ (by first | exact .inl ⟨rfl, rfl⟩ | exact .inr ⟨rfl, rfl⟩)).mono ?_; rintro e w5 ⟨rfl, hc5, hd5, hb5⟩)))
    all_goals
      go_wp2_with fail
      go_ret
      exact ⟨by rw [← HS.out]; rfl, HB0.out.trans (Below.mono (by assumption) HB0.out.size)⟩

set_option maxRecDepth 20000 in
set_option maxHeartbeats 1000000 in
theorem rPrint_any (a b : Int) (s : ByteArray) (z : Int) (w : World) (a1 : -9223372036854775808 ≤ a) (a2 : a ≤ 9223372036854775807) (b1 : -9223372036854775808 ≤ b) (b2 : b ≤ 9223372036854775807)
    (hs : strO (printO a b) = s) (hz : errO (printO a b) = z) :
    Calls Tryz.prog 29 #[frac a b] w fun e w' => e = .returned (.tuple #[.string s, .int .i64 z]) ∧ Below w.heap.size w w' := by
  obtain ⟨v, hv⟩ : ∃ v, (Rt.rd a b).isSome = v := ⟨_, rfl⟩
  have HM := Lib.hid (And.intro (And.intro a1 a2) (And.intro (And.intro b1 b2) hv))
  have HX := Lib.hid (And.intro hs hz)
  clear a1 a2 b1 b2 hs hz hv
  go_enter Tryz.func29, Tryz.ntmps29
  go_wp2_with fail
  have hb0 : Below w.heap.size w (w.alloc (Obj.cells #[Value.int IntKind.i64 a, Value.int IntKind.i64 b] 25)) := (Below.refl _ _).alloc (Nat.le_refl _) _
  obtain ⟨⟨a1, a2⟩, ⟨b1, b2⟩, hv⟩ := HM.out
  refine (rvalid_any a b v _ a1 a2 b1 b2 hv).mono ?_
  clear a1 a2 b1 b2 hv
  rintro e w2 ⟨rfl, hB⟩
  obtain ⟨hc, hz⟩ := bcell hB
  have x0 : w2.cell? ⟨w.heap.size, 0, none⟩ = some (.int .i64 a) := by rw [hc _ _ (by first | (simp; done) | (simp; omega))]; simp [go_sem]
  have x1 : w2.cell? ⟨w.heap.size, 1, none⟩ = some (.int .i64 b) := by rw [hc _ _ (by first | (simp; done) | (simp; omega))]; simp [go_sem]
  have HB2 : Hid (Below w.heap.size w w2) := Lib.hid (hb0.trans (hB.mono (by first | (simp; done) | (simp; omega))))
  clear hB hb0 hc hz
  cases v with
  | false =>
    obtain ⟨rfl, rfl⟩ : s = ⟨#[]⟩ ∧ z = 30 := by
      obtain ⟨h1, h2⟩ := HX.out
      have e : printO a b = none := by unfold printO; rw [HM.out.2.2]; rfl
      rw [e] at h1 h2
      exact ⟨h1.symm, h2.symm⟩
    clear x0 x1
    go_wp2_with fail
    go_ret2
    exact ⟨rfl, HB2.out⟩
  | true =>
    obtain ⟨hS, rfl⟩ : (⟨(textI a b).toArray⟩ : ByteArray) = s ∧ z = 0 := by
      obtain ⟨h1, h2⟩ := HX.out
      have e : printO a b = some ⟨(textI a b).toArray⟩ := by unfold printO; rw [HM.out.2.2]; rfl
      rw [e] at h1 h2
      exact ⟨h1, h2.symm⟩
    have HS := Lib.hid hS
    have HBB := Lib.hid (one_bounds HM.out.2.2 rfl)
    clear hS
    go_wp2_with fail
    refine (rtext_any a b s _ HBB.out.1.1 HBB.out.1.2 (by have := HBB.out; omega) HBB.out.2.2 HS.out).mono ?_
    rintro e w3 ⟨rfl, hB⟩
    have HB3 : Hid (Below w.heap.size w w3) := Lib.hid (HB2.out.trans (hB.mono HB2.out.size))
    clear hB
    go_wp2_with fail
    go_ret2
    exact ⟨rfl, HB3.out⟩

/-- read, on so many bytes. -/
def readTo (l : List UInt8) (i : Nat) : Nat := Rt.readN (l.take i)
theorem readN_snoc (l : List UInt8) (c : UInt8) : Rt.readN (l ++ [c]) = if 48 ≤ c.toNat ∧ c.toNat ≤ 57 then 10 * Rt.readN l + (c.toNat - 48) else Rt.readN l := by
  unfold Rt.readN
  rw [List.foldl_append]
  rfl
theorem readTo_succ (l : List UInt8) (i : Nat) (hi : i < l.length) : readTo l (i + 1) = if 48 ≤ (l[i]).toNat ∧ (l[i]).toNat ≤ 57 then 10 * readTo l i + ((l[i]).toNat - 48) else readTo l i := by
  unfold readTo
  rw [← List.take_append_getElem hi, readN_snoc]
theorem readTo_lt (l : List UInt8) (i : Nat) (hi : i ≤ l.length) : readTo l i < 10 ^ i := by
  induction i with
  | zero => simp [readTo, Rt.readN]
  | succ i ih =>
    have h := ih (by omega)
    rw [readTo_succ l i (by omega), Nat.pow_succ]
    split
    · omega
    · omega

set_option maxRecDepth 20000 in
set_option maxHeartbeats 1000000 in
theorem rread_any (s : ByteArray) (n : Int) (w : World) (hs : s.size ≤ 11) (hn : Rt.readI s.data.toList = n) :
    Calls Tryz.prog 59 #[.string s] w fun e w' => e = .returned (.int .i64 n) ∧ w' = w := by
  have HN := Lib.hid hn
  have hs0 : s.data.toList.length = s.size := Array.length_toList
  have HSZ := Lib.hid (And.intro hs hs0)
  clear hn hs hs0
  go_enter Tryz.func59, Tryz.ntmps59
  go_wp2
  go_loopw [3, 4] (fun acc c wr => ∃ i : Nat, i ≤ s.size ∧ c = .int .i64 i ∧ acc = .int .i64 (readTo s.data.toList i) ∧ wr = w) (fun _ c _ => s.size - (intOf c).toNat)
  case atStart => exact ⟨0, by omega, rfl, rfl, rfl⟩
  case round =>
    obtain ⟨i, hi, rfl, rfl, rfl⟩ := hrel
    by_cases hlt : i < s.size
    · have hl : i < s.data.toList.length := by rw [HSZ.out.2]; exact hlt
      have hst := readTo_succ s.data.toList i hl
      have hlt2 := readTo_lt s.data.toList i (by omega)
      have hpow : 10 ^ i ≤ 10 ^ 11 := Nat.pow_le_pow_right (by decide) (by have := HSZ.out.1; omega)
      obtain ⟨b, hb⟩ : ∃ b, (s.data.toList[i]).toNat = b := ⟨_, rfl⟩
      have hbl : b < 256 := by rw [← hb]; exact (s.data.toList[i]).toNat_lt
      obtain ⟨r, hr⟩ : ∃ r, readTo s.data.toList i = r := ⟨_, rfl⟩
      obtain ⟨r2, hr2⟩ : ∃ r, readTo s.data.toList (i + 1) = r := ⟨_, rfl⟩
      rw [hb, hr, hr2] at hst
      rw [hr] at hlt2 ⊢
      have HR2 := Lib.hid hr2
      have hr3 : r < 100000000000 := Nat.lt_of_lt_of_le hlt2 (Nat.le_trans hpow (by decide))
      have i0 : (0 : Int) ≤ (i : Int) := by omega
      have i1 : (i : Int) < (s.size : Int) := by omega
      obtain ⟨B, hB⟩ : ∃ B : Int, (b : Int) = B := ⟨_, rfl⟩
      have hb2 : ((s[i]).toNat : Int) = B := by rw [← hB]; exact congrArg _ hb
      obtain ⟨R, hR⟩ : ∃ R : Int, (r : Int) = R := ⟨_, rfl⟩
      have R1 : 0 ≤ R := by omega
      have R3 : R < 100000000000 := by omega
      have wi : wrap64 ((i : Int) + 1) = ((i + 1 : Nat) : Int) := by have := HSZ.out.1; unfold wrap64; omega
      rw [hR]
      clear hlt2 hpow hb hr hr2
      by_cases hd : 48 ≤ b ∧ b ≤ 57
      · rw [if_pos hd] at hst
        obtain ⟨T, hT⟩ : ∃ T : Int, 10 * R = T := ⟨_, rfl⟩
        obtain ⟨d, hdd⟩ : ∃ d : Int, B - 48 = d := ⟨_, rfl⟩
        obtain ⟨U, hU⟩ : ∃ U : Int, T + d = U := ⟨_, rfl⟩
        have wd : IntKind.u8.wrap d = d := by show d % 256 = _; omega
        have t1 : -9223372036854775808 ≤ T := by omega
        have t2 : T ≤ 9223372036854775807 := by omega
        have d1 : 0 ≤ d := by omega
        have d2 : d ≤ 9 := by omega
        have u1 : -9223372036854775808 ≤ U := by omega
        have u2 : U ≤ 9223372036854775807 := by omega
        have HU : Hid (U = ((readTo s.data.toList (i + 1) : Nat) : Int)) := Lib.hid (by rw [HR2.out]; omega)
        have b1 : (48 : Int) ≤ B := by omega
        have b2 : B ≤ 57 := by omega
        clear hst hd hr3 hB hR
        go_wp2_with fail
        go_roundw
        case rel => exact ⟨i + 1, by omega, by rw [wi], by rw [HU.out], by trivial⟩
        case measure => rw [wi]; simp only [intOf]; omega
      · rw [if_neg hd] at hst
        have HU : Hid (R = ((readTo s.data.toList (i + 1) : Nat) : Int)) := Lib.hid (by rw [HR2.out]; omega)
        clear hst
        by_cases hlo : 48 ≤ b
        · have b1 : (48 : Int) ≤ B := by omega
          have b2 : ¬ B ≤ 57 := by omega
          clear hd hlo hB hR
          go_wp2_with fail
          go_roundw
          case rel => exact ⟨i + 1, by omega, by rw [wi], by rw [HU.out], by trivial⟩
          case measure => rw [wi]; simp only [intOf]; omega
        · have b1 : ¬ (48 : Int) ≤ B := by omega
          clear hd hlo hB hR
          go_wp2_with fail
          go_roundw
          case rel => exact ⟨i + 1, by omega, by rw [wi], by rw [HU.out], by trivial⟩
          case measure => rw [wi]; simp only [intOf]; omega
    · obtain rfl : i = s.size := by omega
      have hall : readTo s.data.toList s.size = Rt.readN s.data.toList := by unfold readTo; rw [← HSZ.out.2, List.take_length]
      have hlt2 := readTo_lt s.data.toList s.size (by rw [HSZ.out.2]; omega)
      have hpow : 10 ^ s.size ≤ 10 ^ 11 := Nat.pow_le_pow_right (by decide) HSZ.out.1
      rw [hall] at hlt2 ⊢
      obtain ⟨r, hr⟩ : ∃ r, Rt.readN s.data.toList = r := ⟨_, rfl⟩
      have hr3 : r < 100000000000 := by rw [← hr]; exact Nat.lt_of_lt_of_le hlt2 (Nat.le_trans hpow (by decide))
      have HI : Hid ((if s.data.toList.head? = some 45 then -(r : Int) else r) = n) := Lib.hid (by rw [← HN.out]; unfold Rt.readI; rw [hr])
      rw [hr]
      clear hall hlt2 hpow hr
      by_cases hz : s.size = 0
      · have he : s = ⟨#[]⟩ := Go.WideShapes.bytes_inj (by
          have := HSZ.out.2
          rw [hz] at this
          exact List.eq_nil_of_length_eq_zero this)
        subst he
        have HE : Hid ((r : Int) = n) := Lib.hid (by rw [← HI.out]; rfl)
        go_wp2_with fail
        go_ret
        exact ⟨by rw [← HE.out]; rfl, rfl⟩
      · have hne : ¬ s.toList = [] := fun h => hz (by rw [ByteArray.toList_eq] at h; have := HSZ.out.2; rw [h] at this; exact this.symm)
        have hni : s.toList.isEmpty = false := by rw [List.isEmpty_eq_false_iff]; exact hne
        have h0 : 0 < s.size := by omega
        have z1 : (0 : Int) < (s.size : Int) := by omega
        obtain ⟨b, hb⟩ : ∃ b, (s[0]).toNat = b := ⟨_, rfl⟩
        have hhd : s.data.toList.head? = some s[0] := by
          rw [List.head?_eq_getElem?, List.getElem?_eq_getElem (by rw [HSZ.out.2]; exact h0)]
          rfl
        have HH := Lib.hid (And.intro hhd hb)
        clear hhd
        by_cases h45 : b = 45
        · have HE : Hid (-(r : Int) = n) := Lib.hid (by
            rw [← HI.out, HH.out.1, if_pos]
            exact congrArg some (UInt8.toNat_inj.1 (HH.out.2.trans h45)))
          obtain ⟨m, hm⟩ : ∃ m : Int, -(r : Int) = m := ⟨_, rfl⟩
          have m1 : -9223372036854775808 ≤ m := by omega
          have m2 : m ≤ 9223372036854775807 := by omega
          have HMN : Hid (m = n) := Lib.hid (hm.symm.trans HE.out)
          subst h45
          go_wp2_with fail
          go_ret
          exact ⟨by rw [← HMN.out]; rfl, rfl⟩
        · have HE : Hid ((r : Int) = n) := Lib.hid (by
            rw [← HI.out, HH.out.1, if_neg]
            intro h
            injection h with h
            rw [h] at HH
            exact h45 HH.out.2.symm)
          have hb45 : ((b : Int) == 45) = false := by rw [beq_eq_false_iff_ne]; omega
          go_wp2_with fail
          go_ret
          exact ⟨by rw [← HE.out]; rfl, rfl⟩
end Go.Proofs.YtphphamfejgdaaaGreatDoor
