/- The library's reading of two hexadecimal digits. Conditions: the variables of errors hold what they hold. -/
import Derived.Test.YtcnokccgdiodlaaGreatDoorFmtS
import Derived.Shelf.Strconv.Lower
import Derived.Lib.ConvBytes
namespace Go.Proofs.YtcnokccgdiodlaaGreatDoor
open Go.RowKit Go.Shelf Fx

shelf_lay Lays.n321 Nm 321 at Tryz as laysLow
theorem lower_any (c lo : Int) (w : World) (h : bits .or .u8 c 32 = lo) : Calls Tryz.prog 131 #[.int .u8 c] w fun e w' => e = .returned (.int .u8 lo) ∧ w' = w := by
  subst h
  exact Any.internal_strconv_lower laysLow c w
/-- The value of some hexadecimal digits behind a value. -/
def hexAcc : List UInt8 → Nat → Option Nat
  | [], a => some a
  | c :: t, a => match hexV c with
    | some d => hexAcc t (16 * a + d)
    | none => none
def lowOk (c : Fin 256) : Bool :=
  let lo := bits .or .u8 (c.val : Int) 32
  decide (0 ≤ lo) && decide (lo ≤ 255) && (if 48 ≤ c.val ∧ c.val ≤ 57 then hexV (UInt8.ofNat c.val) == some (c.val - 48) else if 97 ≤ lo ∧ lo ≤ 102 then hexV (UInt8.ofNat c.val) == some (lo - 87).toNat else hexV (UInt8.ofNat c.val) == none)
theorem low_all : ∀ c : Fin 256, lowOk c = true := by decide +kernel
theorem low_spec (c : UInt8) : 0 ≤ bits .or .u8 (c.toNat : Int) 32 ∧ bits .or .u8 (c.toNat : Int) 32 ≤ 255 ∧ ((48 ≤ c.toNat ∧ c.toNat ≤ 57 → hexV c = some (c.toNat - 48)) ∧
    (¬ (48 ≤ c.toNat ∧ c.toNat ≤ 57) → (97 ≤ bits .or .u8 (c.toNat : Int) 32 ∧ bits .or .u8 (c.toNat : Int) 32 ≤ 102 → hexV c = some (bits .or .u8 (c.toNat : Int) 32 - 87).toNat) ∧
      (¬ (97 ≤ bits .or .u8 (c.toNat : Int) 32 ∧ bits .or .u8 (c.toNat : Int) 32 ≤ 102) → hexV c = none))) := by
  have h := low_all ⟨c.toNat, c.toNat_lt⟩
  unfold lowOk at h
  have e : UInt8.ofNat c.toNat = c := by simp
  simp only [e, Bool.and_eq_true, decide_eq_true_eq] at h
  obtain ⟨⟨h1, h2⟩, h3⟩ := h
  refine ⟨h1, h2, fun hd => ?_, fun hd => ⟨fun hl => ?_, fun hl => ?_⟩⟩
  · rw [if_pos hd] at h3; simpa using h3
  · rw [if_neg hd, if_pos hl] at h3; simpa using h3
  · rw [if_neg hd, if_neg hl] at h3; simpa using h3
/-- What the reading of digits ends in. -/
def outU : Option Nat → Ending
  | some n => .returned (.tuple #[.int .u64 n, .nilIface])
  | none => .returned (.tuple #[.int .u64 (0), .iface 132 (.int .i64 2)])
set_option maxHeartbeats 4000000 in
set_option maxRecDepth 100000 in
theorem pu16_any (t : ByteArray) (R : Option Nat) (w : World) (hsz : t.size = 2) (hR : hexAcc t.data.toList 0 = R) :
    Calls Tryz.prog 119 #[.string t, .int .i64 16, .int .i64 8] w fun e w' => e = outU R ∧ w' = Lib.bytesWorld w 5 t := by
  have hemp : t.toList.isEmpty = false := by
    rw [← decide_eq_emptyBytes]
    exact decide_eq_false (fun h => by rw [h] at hsz; cases hsz)
  have hcv := Lib.run_convert_string_bytes (P := Tryz.prog) w 9 44 5 t (u := .string) Tryz.underlying9 Tryz.underlying44 Tryz.underlying5
  have hB : ∀ j, j < t.size → (Lib.bytesWorld w 5 t).cell? ⟨w.heap.size, j, none⟩ = some (.int .u8 (t.data.toList.getD j 0).toNat) := fun j hj => Lib.bytesWorld_cell w 5 t j hj
  obtain ⟨W1, hW1⟩ : ∃ W1, W1 = Lib.bytesWorld w 5 t := ⟨_, rfl⟩
  rw [← hW1] at hcv hB ⊢
  clear hW1
  obtain ⟨l, hL⟩ : ∃ l, l = t.data.toList := ⟨_, rfl⟩
  have hLn : l.length = 2 := by rw [hL, ← hsz]; simp
  rw [← hL] at hB hR
  rw [hsz] at hB hcv
  clear hL
  have hmv : IntKind.u64.wrap (IntKind.u64.wrap 256 - 1) = 255 := by
    rw [IntKind.wrap_u64, IntKind.wrap_u64]
    decide
  have HR := Lib.hid hR
  clear hR
  go_enter Tryz.func119, Tryz.ntmps119
  go_wp2_with fail
  go_loop [12, 13, 101] (fun vu vn vi => ∃ (k acc : Nat) (a : Int), vu = .bool false ∧ vn = .int .u64 a ∧ vi = .int .i64 k ∧ k ≤ 2 ∧ Hid (a = (acc : Int) ∧ acc < 16 ^ k ∧ hexAcc (l.drop k) acc = R)) (fun _ _ vi => 2 - (intOf vi).toNat)
  case atStart => exact ⟨0, 0, 0, rfl, rfl, rfl, by omega, Lib.hid ⟨rfl, by decide, HR.out⟩⟩
  case round =>
    obtain ⟨k, acc, a, rfl, rfl, rfl, hk, HH⟩ := hrel
    obtain ⟨hae, hacc, hdec⟩ := HH.out
    have a0 : 0 ≤ a := by omega
    clear HH
    by_cases hkn : k < 2
    · have hc := hB k hkn
      have hdrop : l.drop k = l[k]'(by omega) :: l.drop (k + 1) := List.drop_eq_getElem_cons (by omega)
      have hget : l.getD k 0 = l[k]'(by omega) := by simp [List.getD, List.getElem?_eq_getElem (show k < l.length by omega)]
      rw [hdrop] at hdec
      rw [hget] at hc
      have ha : acc < 16 := by
        obtain rfl | rfl : k = 0 ∨ k = 1 := by omega
        · simp at hacc; omega
        · simpa using hacc
      have a1 : a ≤ 15 := by omega
      generalize l[k]'(by omega) = c at hc hdec
      have hc256 : c.toNat < 256 := c.toNat_lt
      obtain ⟨hv0, hv1, hdg, hng⟩ := low_spec c
      obtain ⟨lo, hlo⟩ : ∃ lo, lo = bits .or .u8 (c.toNat : Int) 32 := ⟨_, rfl⟩
      rw [← hlo] at hv0 hv1 hng
      have HLO := Lib.hid hlo.symm
      clear hB hdrop hget hlo
      by_cases hdig : 48 ≤ c.toNat ∧ c.toNat ≤ 57
      · obtain ⟨hd0, hd1⟩ := hdig
        have hv := hdg ⟨hd0, hd1⟩
        have HN : Hid (a * 16 + ((c.toNat : Int) - 48) = ((16 * acc + (c.toNat - 48) : Nat) : Int) ∧ 16 * acc + (c.toNat - 48) < 16 ^ (k + 1) ∧ hexAcc (l.drop (k + 1)) (16 * acc + (c.toNat - 48)) = R) := Lib.hid (by
          simp only [hexAcc, hv] at hdec
          refine ⟨by omega, ?_, hdec⟩
          rw [Nat.pow_succ]; omega)
        clear hdec hv hdg hng hacc HR hae ha
        go_wp2_with fail
        refine ⟨⟨k + 1, 16 * acc + (c.toNat - 48), a * 16 + ((c.toNat : Int) - 48), rfl, (by first | rfl | (congr 1; omega)), (by first | rfl | (congr 1; omega)), by omega, HN⟩, by simp [intOf]; omega⟩
      · have hng' := hng hdig
        clear hng hdg
        by_cases h95 : c.toNat = 95
        · have e95 : lo = 127 := by rw [← HLO.out, h95]; decide
          have hv := hng'.2 (by omega)
          have HE : Hid (R = none) := Lib.hid (by
            simp only [hexAcc, hv] at hdec
            exact hdec.symm)
          have hL : ∀ w, Calls Tryz.prog 131 #[.int .u8 95] w fun e w' => e = .returned (.int .u8 127) ∧ w' = w := fun w => lower_any 95 127 w (by decide)
          clear hdec hv hng' hae hacc ha HR HLO
          rw [h95] at hc
          go_wp2_with (go_at_call 131; refine (hL _).mono ?_; rintro e w' ⟨rfl, rfl⟩)
          all_goals go_ret2
          all_goals exact ⟨by rw [HE.out]; rfl, rfl⟩
        · have hL : ∀ w, Calls Tryz.prog 131 #[.int .u8 c.toNat] w fun e w' => e = .returned (.int .u8 lo) ∧ w' = w := fun w => lower_any _ lo w HLO.out
          by_cases hlo : 97 ≤ lo ∧ lo ≤ 102
          · have hv := hng'.1 hlo
            have HN : Hid (a * 16 + (lo - 87) = ((16 * acc + (lo - 87).toNat : Nat) : Int) ∧ 16 * acc + (lo - 87).toNat < 16 ^ (k + 1) ∧ hexAcc (l.drop (k + 1)) (16 * acc + (lo - 87).toNat) = R) := Lib.hid (by
              simp only [hexAcc, hv] at hdec
              refine ⟨by omega, ?_, hdec⟩
              rw [Nat.pow_succ]; omega)
            obtain ⟨l1, l2⟩ := hlo
            have l3 : lo - 97 + 10 = lo - 87 := by omega
            clear hdec hv hng' hacc HR hae ha
            go_wp2_with (go_at_call 131; refine (hL _).mono ?_; rintro e w' ⟨rfl, rfl⟩)
            all_goals refine ⟨⟨k + 1, 16 * acc + (lo - 87).toNat, a * 16 + (lo - 87), rfl, (by first | rfl | (congr 1; omega)), (by first | rfl | (congr 1; omega)), by omega, HN⟩, by simp [intOf]; omega⟩
          · have hv := hng'.2 hlo
            have HE : Hid (R = none) := Lib.hid (by
              simp only [hexAcc, hv] at hdec
              exact hdec.symm)
            clear hdec hv hng' hae hacc ha HR HLO
            by_cases l1 : lo < 97
            · go_wp2_with (go_at_call 131; refine (hL _).mono ?_; rintro e w' ⟨rfl, rfl⟩)
              all_goals go_ret2
              all_goals exact ⟨by rw [HE.out]; rfl, rfl⟩
            · by_cases l2 : lo ≤ 122
              · have l3 : 103 ≤ lo := by omega
                clear hlo
                go_wp2_with (go_at_call 131; refine (hL _).mono ?_; rintro e w' ⟨rfl, rfl⟩)
                all_goals go_ret2
                all_goals exact ⟨by rw [HE.out]; rfl, rfl⟩
              · have l3 : 123 ≤ lo := by omega
                clear hlo
                go_wp2_with (go_at_call 131; refine (hL _).mono ?_; rintro e w' ⟨rfl, rfl⟩)
                all_goals go_ret2
                all_goals exact ⟨by rw [HE.out]; rfl, rfl⟩
    · obtain rfl : k = 2 := by omega
      have HE : Hid (some acc = R) := Lib.hid (by
        have := hdec
        rw [List.drop_eq_nil_of_le (by omega)] at this
        exact this)
      subst hae
      clear hdec hacc a0 HR
      go_wp2_with fail
      go_ret2
      exact ⟨by rw [← HE.out]; rfl, rfl⟩
end Go.Proofs.YtcnokccgdiodlaaGreatDoor
