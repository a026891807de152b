/- The reference's digits. Conditions: the number is from 0 on, an int. The reference's numbers of words. Conditions: the word's length fits an int. The reference's hexadecimal digit. No condition. -/
import Derived.Test.YtcnokccgdiodlaaGreatDoorRefH
import Derived.Laws.BytesArg
namespace Go.Proofs.YtcnokccgdiodlaaGreatDoor
section RefJ
open Go.RowKit Go.Shelf Fx Go.Sort

/-- What stands while digits are made. -/
def DigAt (N m : Nat) (out : List UInt8) : Prop := (out = [] ∧ m = N) ∨ (out ≠ [] ∧ ((m = 0 ∧ out = Lib.decDigits N) ∨ (0 < m ∧ Lib.decDigits N = Lib.decDigits m ++ out)))
theorem DigAt.step {N m : Nat} {out : List UInt8} (h : DigAt N m out) (hg : out = [] ∨ 0 < m) : DigAt N (m / 10) (UInt8.ofNat (48 + m % 10) :: out) := by
  right
  refine ⟨by simp, ?_⟩
  have key : ∀ M : Nat, Lib.decDigits M = (if M < 10 then [] else Lib.decDigits (M / 10)) ++ [UInt8.ofNat (48 + M % 10)] := fun M => by
    by_cases h : M < 10
    · rw [if_pos h, dec_small h, Nat.mod_eq_of_lt h]; rfl
    · rw [if_neg h, dec_big h]
  rcases h with ⟨rfl, rfl⟩ | ⟨hne, ⟨rfl, h⟩ | ⟨hm, h⟩⟩
  · by_cases h : m < 10
    · left
      refine ⟨by omega, ?_⟩
      rw [key m, if_pos h]; rfl
    · right
      exact ⟨by omega, by rw [key m, if_neg h]⟩
  · rcases hg with hg | hg
    · exact absurd hg hne
    · omega
  · by_cases hs : m < 10
    · left
      refine ⟨by omega, ?_⟩
      rw [h, key m, if_pos hs]; rfl
    · right
      refine ⟨by omega, ?_⟩
      rw [h, key m, if_neg hs]; simp
theorem DigAt.len {N m : Nat} {out : List UInt8} (h : DigAt N m out) (hN : N ≤ 9223372036854775807) : out.length ≤ 19 := by
  have hl : (Lib.decDigits N).length ≤ 19 := dec_len 19 N (by decide) (by omega)
  rcases h with ⟨rfl, _⟩ | ⟨_, ⟨_, rfl⟩ | ⟨_, h⟩⟩
  · simp
  · exact hl
  · have := congrArg List.length h
    rw [List.length_append] at this
    omega
set_option maxRecDepth 100000 in
set_option maxHeartbeats 1000000 in
theorem rDigits_any (N : Nat) (w : World) (hN : N ≤ 9223372036854775807) :
    Calls Tryz.prog 41 #[.int .i64 N] w fun e w' => e = .returned (.string (bs (Lib.decDigits N))) ∧ Below w.heap.size w w' := by
  have hcv : ∀ (W : World) (b : Nat) (x : Int), W.cell? ⟨b, 0, none⟩ = some (.int .u8 x) → (convert 44 9 (.slice (some ⟨b, 0, none⟩) 1 1)).run Tryz.prog W = .ok (.string (bs [UInt8.ofNat x.toNat])) W := fun W b x hc =>
    run_convert_bytes_arg (P := Tryz.prog) W 44 5 Tryz.underlying44 Tryz.underlying5 b 0 1 1 [x] rfl (fun i hi => by
      obtain rfl : i = 0 := by omega
      simpa using hc) 9 Tryz.underlying9
  go_enter Tryz.func41, Tryz.ntmps41
  go_wp2_with fail
  go_loopw [0, 3] (fun i s wr => ∃ (m : Nat) (out : List UInt8), m ≤ N ∧ i = .int .i64 m ∧ s = .string (bs out) ∧ Hid (DigAt N m out ∧ Below w.heap.size w wr)) (fun i s _ => 2 * (intOf i).toNat + (match s with | .string t => if t.size = 0 then 1 else 0 | _ => 0))
  case atStart => exact ⟨N, [], Nat.le_refl _, rfl, rfl, Lib.hid ⟨.inl ⟨rfl, rfl⟩, Below.refl _ _⟩⟩
  case round =>
    obtain ⟨m, out, hm, rfl, rfl, HI⟩ := hrel
    have hol := HI.out.1.len hN
    have hos : (bs out).size ≤ 19 := hol
    have hcw := hcv (wr.alloc (.cells #[.int .u8 (48 + (m : Int) % 10)] 5)) wr.heap.size (48 + (m : Int) % 10) (cell_of_row _ _ 0 _ _ _ (heap_alloc_new _ _))
    have hd : (48 + (m : Int) % 10).toNat = 48 + m % 10 := by omega
    rw [hd] at hcw
    obtain ⟨c, hc⟩ : ∃ c, c = UInt8.ofNat (48 + m % 10) := ⟨_, rfl⟩
    rw [← hc] at hcw
    have hcs : (bs [c]).size = 1 := rfl
    clear hcv
    by_cases he : out = [] ∨ 0 < m
    · have HST : Hid (DigAt N (m / 10) (c :: out)) := Lib.hid (by rw [hc]; exact HI.out.1.step he)
      have HB := Lib.hid (HI.out.2.alloc HI.out.2.size (.cells #[.int .u8 (48 + (m : Int) % 10)] 5))
      have hcat : bs [c] ++ bs out = bs (c :: out) := bs_append [c] out
      obtain ⟨V, hV⟩ : ∃ V, V = bs [c] := ⟨_, rfl⟩
      rw [← hV] at hcw hcs hcat
      have HV := Lib.hid hcat
      have hm10 : ((m / 10 : Nat) : Int) = (m : Int) / 10 := by omega
      clear HI hd hc hcat hV
      by_cases ho : out = []
      · subst ho
        have hse : (bs ([] : List UInt8)) = (⟨#[]⟩ : ByteArray) := rfl
        rw [hse] at HV hos ⊢
        go_wp2_with fail
        go_roundw
        case rel => exact ⟨m / 10, [c], by omega, by go_num, by rw [HV.out], HST, HB.out⟩
        case measure =>
          have hvs : ¬ (V ++ (⟨#[]⟩ : ByteArray)).size = 0 := by rw [ByteArray.size_append]; omega
          show 2 * ((m : Int) / 10).toNat + (if (V ++ (⟨#[]⟩ : ByteArray)).size = 0 then 1 else 0) < 2 * ((m : Int)).toNat + (if (⟨#[]⟩ : ByteArray).size = 0 then 1 else 0)
          rw [if_neg hvs, if_pos (show (⟨#[]⟩ : ByteArray).size = 0 from rfl)]
          omega
      · have hmp : (0 : Int) < m := by
          rcases he with h | h
          · exact absurd h ho
          · omega
        obtain ⟨S, hS⟩ : ∃ S, S = bs out := ⟨_, rfl⟩
        have hss : ¬ S.size = 0 := by
          rw [hS]
          intro h
          exact ho (List.eq_nil_of_length_eq_zero h)
        obtain ⟨q1, q2⟩ := emp_not hss
        rw [← hS] at HV hos ⊢
        clear he ho hS
        go_wp2_with fail
        go_roundw
        case rel => exact ⟨m / 10, c :: out, by omega, by go_num, by rw [HV.out], HST, HB.out⟩
        case measure =>
          have hvs : ¬ (V ++ S).size = 0 := by rw [ByteArray.size_append]; omega
          show 2 * ((m : Int) / 10).toNat + (if (V ++ S).size = 0 then 1 else 0) < 2 * ((m : Int)).toNat + (if S.size = 0 then 1 else 0)
          rw [if_neg hvs, if_neg hss]
          omega
    · obtain ⟨h1, h2⟩ : out ≠ [] ∧ m = 0 := ⟨fun h => he (.inl h), by
        rcases Nat.eq_zero_or_pos m with h | h
        · exact h
        · exact absurd (.inr h) he⟩
      subst h2
      have HF : Hid (bs out = bs (Lib.decDigits N)) := Lib.hid (by
        rcases HI.out.1 with ⟨h, _⟩ | ⟨_, ⟨_, h⟩ | ⟨h, _⟩⟩
        · exact absurd h h1
        · rw [h]
        · omega)
      obtain ⟨S, hS⟩ : ∃ S, S = bs out := ⟨_, rfl⟩
      have hss : ¬ S.size = 0 := by
        rw [hS]
        intro h
        exact h1 (List.eq_nil_of_length_eq_zero h)
      obtain ⟨q1, q2⟩ := emp_not hss
      rw [← hS] at HF hos ⊢
      have HB := Lib.hid HI.out.2
      clear he h1 hS HI hcs hcw
      go_wp2_with fail
      go_ret
      exact ⟨by rw [← HF.out]; rfl, HB.out⟩
end RefJ
section RefK
open Go.RowKit Go.Shelf Fx Go.Sort

/-- The number of some digits behind a number; 0 if they are none. -/
def rnumA : List UInt8 → Int → Int
  | [], n => n
  | c :: t, n => if c.toNat < 48 ∨ 57 < c.toNat then 0 else rnumA t (10 * n + ((c.toNat : Int) - 48))
/-- The number of a word. -/
def rnum (l : List UInt8) : Int := if 8 < l.length then 0 else rnumA l 0
set_option maxRecDepth 100000 in
set_option maxHeartbeats 1000000 in
theorem rNumber_any (s : ByteArray) (r : Int) (w : World) (hs : s.size ≤ 9223372036854775806) (hr : rnum s.data.toList = r) :
    Calls Tryz.prog 51 #[.string s] w fun e w' => e = .returned (.int .i64 r) ∧ w' = w := by
  have hls : s.data.toList.length = s.size := by simp
  unfold rnum at hr
  rw [hls] at hr
  by_cases h8 : 8 < s.size
  · rw [if_pos h8] at hr
    subst hr
    go_enter Tryz.func51, Tryz.ntmps51
    go_wp2_with fail
    go_ret
    exact ⟨rfl, rfl⟩
  · rw [if_neg h8] at hr
    have HR := Lib.hid hr
    clear hr
    go_enter Tryz.func51, Tryz.ntmps51
    go_wp2_with fail
    go_loop [3, 4] (fun a i => ∃ (k : Nat) (n : Int), k ≤ s.size ∧ i = .int .i64 k ∧ a = .int .i64 n ∧ 0 ≤ n ∧ Hid (n < 10 ^ k ∧ rnumA (s.data.toList.drop k) n = r)) (fun _ i => s.size - (intOf i).toNat)
    case atStart => exact ⟨0, 0, Nat.zero_le _, rfl, rfl, by omega, Lib.hid ⟨by decide, HR.out⟩⟩
    case round =>
      obtain ⟨k, n, hk, rfl, rfl, hn0, HI⟩ := hrel
      by_cases hlt : k < s.size
      · have hdr : s.data.toList.drop k = s[k] :: s.data.toList.drop (k + 1) := List.drop_eq_getElem_cons (by omega)
        have hrest := HI.out.2
        rw [hdr, rnumA] at hrest
        have hn8 : n < 10000000 := by
          have h := HI.out.1
          have : (10 : Int) ^ k ≤ 10 ^ 7 := by
            obtain rfl | rfl | rfl | rfl | rfl | rfl | rfl | rfl : k = 0 ∨ k = 1 ∨ k = 2 ∨ k = 3 ∨ k = 4 ∨ k = 5 ∨ k = 6 ∨ k = 7 := by omega
            all_goals decide
          have e : (10 : Int) ^ 7 = 10000000 := by decide
          omega
        have hp : (10 : Int) ^ (k + 1) = 10 ^ k * 10 := Int.pow_succ ..
        have hn1 := HI.out.1
        obtain ⟨c, hc⟩ : ∃ c, c = s[k] := ⟨_, rfl⟩
        rw [← hc] at hrest
        have hc256 : c.toNat < 256 := c.toNat_lt
        have HC := Lib.hid hc
        by_cases h1 : c.toNat < 48
        · have HP : Hid (r = 0) := Lib.hid (by rw [if_pos (.inl h1)] at hrest; exact hrest.symm)
          have d1 : s[k].toNat < 48 := by rw [← hc]; exact h1
          clear hrest hdr HI hp hn1 hc
          go_wp2_with fail
          go_ret
          exact ⟨by rw [HP.out]; rfl, rfl⟩
        · by_cases h2 : 57 < c.toNat
          · have HP : Hid (r = 0) := Lib.hid (by rw [if_pos (.inr h2)] at hrest; exact hrest.symm)
            have d1 : ¬ s[k].toNat < 48 := by rw [← hc]; exact h1
            have d2 : 57 < s[k].toNat := by rw [← hc]; exact h2
            clear hrest hdr HI hp hn1 hc
            go_wp2_with fail
            go_ret
            exact ⟨by rw [HP.out]; rfl, rfl⟩
          · have HN : Hid (10 * n + ((s[k].toNat : Int) - 48) < 10 ^ (k + 1) ∧ rnumA (s.data.toList.drop (k + 1)) (10 * n + ((s[k].toNat : Int) - 48)) = r) := Lib.hid (by
              rw [if_neg (by omega)] at hrest
              rw [← hc]
              exact ⟨by omega, hrest⟩)
            have d1 : ¬ s[k].toNat < 48 := by rw [← hc]; exact h1
            have d2 : ¬ 57 < s[k].toNat := by rw [← hc]; exact h2
            have d3 : s[k].toNat < 256 := s[k].toNat_lt
            clear hrest hdr HI hp hn1 hc
            go_wp2_with fail
            refine ⟨⟨k + 1, 10 * n + ((s[k].toNat : Int) - 48), by omega, by go_num, by go_num, by omega, HN⟩, by simp [intOf]; omega⟩
      · obtain rfl : k = s.size := by omega
        have HP : Hid (n = r) := Lib.hid (by
          have h := HI.out.2
          rw [List.drop_eq_nil_of_le (by omega)] at h
          exact h)
        clear HI
        go_wp2_with fail
        go_ret
        exact ⟨by rw [← HP.out]; rfl, rfl⟩
end RefK
section RefL
open Go.RowKit Go.Shelf Fx Go.Sort

/-- The value of a hexadecimal digit; 0 if it is none. -/
def digV (c : Nat) : Nat := if 97 ≤ c ∧ c ≤ 102 then c - 97 + 10 else if 48 ≤ c ∧ c ≤ 57 then c - 48 else 0
theorem rdigit_any (c : Nat) (w : World) (h : c < 256) :
    Calls Tryz.prog 98 #[.int .u8 c] w fun e w' => e = .returned (.int .u8 (digV c)) ∧ w' = w := by
  by_cases h1 : 97 ≤ c
  · by_cases h2 : c ≤ 102
    · have e : ((digV c : Nat) : Int) = (c : Int) - 97 + 10 := by unfold digV; rw [if_pos ⟨h1, h2⟩]; omega
      have d1 : (97 : Int) ≤ c := by omega
      have d2 : (c : Int) ≤ 102 := by omega
      go_enter Tryz.func98, Tryz.ntmps98
      go_wp2_with fail
      go_ret
      exact ⟨by first | rfl | (rw [e]; rfl), rfl⟩
    · have e : digV c = 0 := by unfold digV; rw [if_neg (by omega), if_neg (by omega)]
      have d1 : (97 : Int) ≤ c := by omega
      have d2 : ¬ (c : Int) ≤ 102 := by omega
      have d3 : (48 : Int) ≤ c := by omega
      have d4 : ¬ (c : Int) ≤ 57 := by omega
      go_enter Tryz.func98, Tryz.ntmps98
      go_wp2_with fail
      go_ret
      exact ⟨by first | rfl | (rw [e]; rfl), rfl⟩
  · have d1 : ¬ (97 : Int) ≤ c := by omega
    by_cases h3 : 48 ≤ c ∧ c ≤ 57
    · have e : ((digV c : Nat) : Int) = (c : Int) - 48 := by unfold digV; rw [if_neg (by omega), if_pos h3]; omega
      have d2 : (48 : Int) ≤ c := by omega
      have d3 : (c : Int) ≤ 57 := by omega
      go_enter Tryz.func98, Tryz.ntmps98
      go_wp2_with fail
      go_ret
      exact ⟨by first | rfl | (rw [e]; rfl), rfl⟩
    · have e : digV c = 0 := by unfold digV; rw [if_neg (by omega), if_neg h3]
      by_cases h4 : 48 ≤ c
      · have d2 : (48 : Int) ≤ c := by omega
        have d3 : ¬ (c : Int) ≤ 57 := by omega
        go_enter Tryz.func98, Tryz.ntmps98
        go_wp2_with fail
        go_ret
        exact ⟨by first | rfl | (rw [e]; rfl), rfl⟩
      · have d2 : ¬ (48 : Int) ≤ c := by omega
        go_enter Tryz.func98, Tryz.ntmps98
        go_wp2_with fail
        go_ret
        exact ⟨by first | rfl | (rw [e]; rfl), rfl⟩
end RefL
end Go.Proofs.YtcnokccgdiodlaaGreatDoor
