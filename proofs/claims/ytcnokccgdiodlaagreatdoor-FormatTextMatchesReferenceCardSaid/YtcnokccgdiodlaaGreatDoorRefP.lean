/- The reference's digits. Conditions: the number is from 0 on, an int. The reference's numbers of words. Conditions: the word's length fits an int. The reference's hexadecimal digit. No condition. The reference's hexadecimal digits of a text. Conditions: the text has at most a million bytes. The reference's splitting of a text, and its text of a table. Conditions: the text has at most ten million bytes; the table is one that can be read, with few formats and short texts. -/
import Derived.Test.YtcnokccgdiodlaaGreatDoorRefH
import Derived.Laws.BytesArg
import Derived.Deep.RegionLaw
namespace Go.Proofs.YtcnokccgdiodlaaGreatDoor
section RefJ
section RefJ
open Go.RowKit Go.Shelf Fx Go.Sort

/-- What stands while digits are made. -/
def DigAt (N m : Nat) (out : List UInt8) : Prop := (out = [] ∧ m = N) ∨ (out ≠ [] ∧ ((m = 0 ∧ out = Lib.decDigits N) ∨ (0 < m ∧ Lib.decDigits N = Lib.decDigits m ++ out)))
theorem DigAt.step {N m : Nat} {out : List UInt8} (h : DigAt N m out) (hg : out = [] ∨ 0 < m) : DigAt N (m / 10) (UInt8.ofNat (48 + m % 10) :: out) := by
  right
  refine ⟨by simp, ?_⟩
  have key : ∀ M : Nat, Lib.decDigits M = (if M < 10 then [] else Lib.decDigits (M / 10)) ++ [UInt8.ofNat (48 + M % 10)] := fun M => by
    by_cases h : M < 10
    · rw [if_pos h, dec_small h, Nat.mod_eq_of_lt h]; rfl
    · rw [if_neg h, dec_big h]
  rcases h with ⟨rfl, rfl⟩ | ⟨hne, ⟨rfl, h⟩ | ⟨hm, h⟩⟩
  · by_cases h : m < 10
    · left
      refine ⟨by omega, ?_⟩
      rw [key m, if_pos h]; rfl
    · right
      exact ⟨by omega, by rw [key m, if_neg h]⟩
  · rcases hg with hg | hg
    · exact absurd hg hne
    · omega
  · by_cases hs : m < 10
    · left
      refine ⟨by omega, ?_⟩
      rw [h, key m, if_pos hs]; rfl
    · right
      refine ⟨by omega, ?_⟩
      rw [h, key m, if_neg hs]; simp
theorem DigAt.len {N m : Nat} {out : List UInt8} (h : DigAt N m out) (hN : N ≤ 9223372036854775807) : out.length ≤ 19 := by
  have hl : (Lib.decDigits N).length ≤ 19 := dec_len 19 N (by decide) (by omega)
  rcases h with ⟨rfl, _⟩ | ⟨_, ⟨_, rfl⟩ | ⟨_, h⟩⟩
  · simp
  · exact hl
  · have := congrArg List.length h
    rw [List.length_append] at this
    omega
set_option maxRecDepth 100000 in
set_option maxHeartbeats 1000000 in
theorem rDigits_any (N : Nat) (w : World) (hN : N ≤ 9223372036854775807) :
    Calls Tryz.prog 41 #[.int .i64 N] w fun e w' => e = .returned (.string (bs (Lib.decDigits N))) ∧ Below w.heap.size w w' := by
  have hcv : ∀ (W : World) (b : Nat) (x : Int), W.cell? ⟨b, 0, none⟩ = some (.int .u8 x) → (convert 44 9 (.slice (some ⟨b, 0, none⟩) 1 1)).run Tryz.prog W = .ok (.string (bs [UInt8.ofNat x.toNat])) W := fun W b x hc =>
    run_convert_bytes_arg (P := Tryz.prog) W 44 5 Tryz.underlying44 Tryz.underlying5 b 0 1 1 [x] rfl (fun i hi => by
      obtain rfl : i = 0 := by omega
      simpa using hc) 9 Tryz.underlying9
  go_enter Tryz.func41, Tryz.ntmps41
  go_wp2_with fail
  go_loopw [0, 3] (fun i s wr => ∃ (m : Nat) (out : List UInt8), m ≤ N ∧ i = .int .i64 m ∧ s = .string (bs out) ∧ Hid (DigAt N m out ∧ Below w.heap.size w wr)) (fun i s _ => 2 * (intOf i).toNat + (match s with | .string t => if t.size = 0 then 1 else 0 | _ => 0))
  case atStart => exact ⟨N, [], Nat.le_refl _, rfl, rfl, Lib.hid ⟨.inl ⟨rfl, rfl⟩, Below.refl _ _⟩⟩
  case round =>
    obtain ⟨m, out, hm, rfl, rfl, HI⟩ := hrel
    have hol := HI.out.1.len hN
    have hos : (bs out).size ≤ 19 := hol
    have hcw := hcv (wr.alloc (.cells #[.int .u8 (48 + (m : Int) % 10)] 5)) wr.heap.size (48 + (m : Int) % 10) (cell_of_row _ _ 0 _ _ _ (heap_alloc_new _ _))
    have hd : (48 + (m : Int) % 10).toNat = 48 + m % 10 := by omega
    rw [hd] at hcw
    obtain ⟨c, hc⟩ : ∃ c, c = UInt8.ofNat (48 + m % 10) := ⟨_, rfl⟩
    rw [← hc] at hcw
    have hcs : (bs [c]).size = 1 := rfl
    clear hcv
    by_cases he : out = [] ∨ 0 < m
    · have HST : Hid (DigAt N (m / 10) (c :: out)) := Lib.hid (by rw [hc]; exact HI.out.1.step he)
      have HB := Lib.hid (HI.out.2.alloc HI.out.2.size (.cells #[.int .u8 (48 + (m : Int) % 10)] 5))
      have hcat : bs [c] ++ bs out = bs (c :: out) := bs_append [c] out
      obtain ⟨V, hV⟩ : ∃ V, V = bs [c] := ⟨_, rfl⟩
      rw [← hV] at hcw hcs hcat
      have HV := Lib.hid hcat
      have hm10 : ((m / 10 : Nat) : Int) = (m : Int) / 10 := by omega
      clear HI hd hc hcat hV
      by_cases ho : out = []
      · subst ho
        have hse : (bs ([] : List UInt8)) = (⟨#[]⟩ : ByteArray) := rfl
        rw [hse] at HV hos ⊢
        go_wp2_with fail
        go_roundw
        case rel => exact ⟨m / 10, [c], by omega, by go_num, by rw [HV.out], HST, HB.out⟩
        case measure =>
          have hvs : ¬ (V ++ (⟨#[]⟩ : ByteArray)).size = 0 := by rw [ByteArray.size_append]; omega
          show 2 * ((m : Int) / 10).toNat + (if (V ++ (⟨#[]⟩ : ByteArray)).size = 0 then 1 else 0) < 2 * ((m : Int)).toNat + (if (⟨#[]⟩ : ByteArray).size = 0 then 1 else 0)
          rw [if_neg hvs, if_pos (show (⟨#[]⟩ : ByteArray).size = 0 from rfl)]
          omega
      · have hmp : (0 : Int) < m := by
          rcases he with h | h
          · exact absurd h ho
          · omega
        obtain ⟨S, hS⟩ : ∃ S, S = bs out := ⟨_, rfl⟩
        have hss : ¬ S.size = 0 := by
          rw [hS]
          intro h
          exact ho (List.eq_nil_of_length_eq_zero h)
        obtain ⟨q1, q2⟩ := emp_not hss
        rw [← hS] at HV hos ⊢
        clear he ho hS
        go_wp2_with fail
        go_roundw
        case rel => exact ⟨m / 10, c :: out, by omega, by go_num, by rw [HV.out], HST, HB.out⟩
        case measure =>
          have hvs : ¬ (V ++ S).size = 0 := by rw [ByteArray.size_append]; omega
          show 2 * ((m : Int) / 10).toNat + (if (V ++ S).size = 0 then 1 else 0) < 2 * ((m : Int)).toNat + (if S.size = 0 then 1 else 0)
          rw [if_neg hvs, if_neg hss]
          omega
    · obtain ⟨h1, h2⟩ : out ≠ [] ∧ m = 0 := ⟨fun h => he (.inl h), by
        rcases Nat.eq_zero_or_pos m with h | h
        · exact h
        · exact absurd (.inr h) he⟩
      subst h2
      have HF : Hid (bs out = bs (Lib.decDigits N)) := Lib.hid (by
        rcases HI.out.1 with ⟨h, _⟩ | ⟨_, ⟨_, h⟩ | ⟨h, _⟩⟩
        · exact absurd h h1
        · rw [h]
        · omega)
      obtain ⟨S, hS⟩ : ∃ S, S = bs out := ⟨_, rfl⟩
      have hss : ¬ S.size = 0 := by
        rw [hS]
        intro h
        exact h1 (List.eq_nil_of_length_eq_zero h)
      obtain ⟨q1, q2⟩ := emp_not hss
      rw [← hS] at HF hos ⊢
      have HB := Lib.hid HI.out.2
      clear he h1 hS HI hcs hcw
      go_wp2_with fail
      go_ret
      exact ⟨by rw [← HF.out]; rfl, HB.out⟩
end RefJ
section RefK
open Go.RowKit Go.Shelf Fx Go.Sort

/-- The number of some digits behind a number; 0 if they are none. -/
def rnumA : List UInt8 → Int → Int
  | [], n => n
  | c :: t, n => if c.toNat < 48 ∨ 57 < c.toNat then 0 else rnumA t (10 * n + ((c.toNat : Int) - 48))
/-- The number of a word. -/
def rnum (l : List UInt8) : Int := if 8 < l.length then 0 else rnumA l 0
set_option maxRecDepth 100000 in
set_option maxHeartbeats 1000000 in
theorem rNumber_any (s : ByteArray) (r : Int) (w : World) (hs : s.size ≤ 9223372036854775806) (hr : rnum s.data.toList = r) :
    Calls Tryz.prog 51 #[.string s] w fun e w' => e = .returned (.int .i64 r) ∧ w' = w := by
  have hls : s.data.toList.length = s.size := by simp
  unfold rnum at hr
  rw [hls] at hr
  by_cases h8 : 8 < s.size
  · rw [if_pos h8] at hr
    subst hr
    go_enter Tryz.func51, Tryz.ntmps51
    go_wp2_with fail
    go_ret
    exact ⟨rfl, rfl⟩
  · rw [if_neg h8] at hr
    have HR := Lib.hid hr
    clear hr
    go_enter Tryz.func51, Tryz.ntmps51
    go_wp2_with fail
    go_loop [3, 4] (fun a i => ∃ (k : Nat) (n : Int), k ≤ s.size ∧ i = .int .i64 k ∧ a = .int .i64 n ∧ 0 ≤ n ∧ Hid (n < 10 ^ k ∧ rnumA (s.data.toList.drop k) n = r)) (fun _ i => s.size - (intOf i).toNat)
    case atStart => exact ⟨0, 0, Nat.zero_le _, rfl, rfl, by omega, Lib.hid ⟨by decide, HR.out⟩⟩
    case round =>
      obtain ⟨k, n, hk, rfl, rfl, hn0, HI⟩ := hrel
      by_cases hlt : k < s.size
      · have hdr : s.data.toList.drop k = s[k] :: s.data.toList.drop (k + 1) := List.drop_eq_getElem_cons (by omega)
        have hrest := HI.out.2
        rw [hdr, rnumA] at hrest
        have hn8 : n < 10000000 := by
          have h := HI.out.1
          have : (10 : Int) ^ k ≤ 10 ^ 7 := by
            obtain rfl | rfl | rfl | rfl | rfl | rfl | rfl | rfl : k = 0 ∨ k = 1 ∨ k = 2 ∨ k = 3 ∨ k = 4 ∨ k = 5 ∨ k = 6 ∨ k = 7 := by omega
            all_goals decide
          have e : (10 : Int) ^ 7 = 10000000 := by decide
          omega
        have hp : (10 : Int) ^ (k + 1) = 10 ^ k * 10 := Int.pow_succ ..
        have hn1 := HI.out.1
        obtain ⟨c, hc⟩ : ∃ c, c = s[k] := ⟨_, rfl⟩
        rw [← hc] at hrest
        have hc256 : c.toNat < 256 := c.toNat_lt
        have HC := Lib.hid hc
        by_cases h1 : c.toNat < 48
        · have HP : Hid (r = 0) := Lib.hid (by rw [if_pos (.inl h1)] at hrest; exact hrest.symm)
          have d1 : s[k].toNat < 48 := by rw [← hc]; exact h1
          clear hrest hdr HI hp hn1 hc
          go_wp2_with fail
          go_ret
          exact ⟨by rw [HP.out]; rfl, rfl⟩
        · by_cases h2 : 57 < c.toNat
          · have HP : Hid (r = 0) := Lib.hid (by rw [if_pos (.inr h2)] at hrest; exact hrest.symm)
            have d1 : ¬ s[k].toNat < 48 := by rw [← hc]; exact h1
            have d2 : 57 < s[k].toNat := by rw [← hc]; exact h2
            clear hrest hdr HI hp hn1 hc
            go_wp2_with fail
            go_ret
            exact ⟨by rw [HP.out]; rfl, rfl⟩
          · have HN : Hid (10 * n + ((s[k].toNat : Int) - 48) < 10 ^ (k + 1) ∧ rnumA (s.data.toList.drop (k + 1)) (10 * n + ((s[k].toNat : Int) - 48)) = r) := Lib.hid (by
              rw [if_neg (by omega)] at hrest
              rw [← hc]
              exact ⟨by omega, hrest⟩)
            have d1 : ¬ s[k].toNat < 48 := by rw [← hc]; exact h1
            have d2 : ¬ 57 < s[k].toNat := by rw [← hc]; exact h2
            have d3 : s[k].toNat < 256 := s[k].toNat_lt
            clear hrest hdr HI hp hn1 hc
            go_wp2_with fail
            refine ⟨⟨k + 1, 10 * n + ((s[k].toNat : Int) - 48), by omega, by go_num, by go_num, by omega, HN⟩, by simp [intOf]; omega⟩
      · obtain rfl : k = s.size := by omega
        have HP : Hid (n = r) := Lib.hid (by
          have h := HI.out.2
          rw [List.drop_eq_nil_of_le (by omega)] at h
          exact h)
        clear HI
        go_wp2_with fail
        go_ret
        exact ⟨by rw [← HP.out]; rfl, rfl⟩
end RefK
section RefL
open Go.RowKit Go.Shelf Fx Go.Sort

/-- The value of a hexadecimal digit; 0 if it is none. -/
def digV (c : Nat) : Nat := if 97 ≤ c ∧ c ≤ 102 then c - 97 + 10 else if 48 ≤ c ∧ c ≤ 57 then c - 48 else 0
theorem rdigit_any (c : Nat) (w : World) (h : c < 256) :
    Calls Tryz.prog 98 #[.int .u8 c] w fun e w' => e = .returned (.int .u8 (digV c)) ∧ w' = w := by
  by_cases h1 : 97 ≤ c
  · by_cases h2 : c ≤ 102
    · have e : ((digV c : Nat) : Int) = (c : Int) - 97 + 10 := by unfold digV; rw [if_pos ⟨h1, h2⟩]; omega
      have d1 : (97 : Int) ≤ c := by omega
      have d2 : (c : Int) ≤ 102 := by omega
      go_enter Tryz.func98, Tryz.ntmps98
      go_wp2_with fail
      go_ret
      exact ⟨by first | rfl | (rw [e]; rfl), rfl⟩
    · have e : digV c = 0 := by unfold digV; rw [if_neg (by omega), if_neg (by omega)]
      have d1 : (97 : Int) ≤ c := by omega
      have d2 : ¬ (c : Int) ≤ 102 := by omega
      have d3 : (48 : Int) ≤ c := by omega
      have d4 : ¬ (c : Int) ≤ 57 := by omega
      go_enter Tryz.func98, Tryz.ntmps98
      go_wp2_with fail
      go_ret
      exact ⟨by first | rfl | (rw [e]; rfl), rfl⟩
  · have d1 : ¬ (97 : Int) ≤ c := by omega
    by_cases h3 : 48 ≤ c ∧ c ≤ 57
    · have e : ((digV c : Nat) : Int) = (c : Int) - 48 := by unfold digV; rw [if_neg (by omega), if_pos h3]; omega
      have d2 : (48 : Int) ≤ c := by omega
      have d3 : (c : Int) ≤ 57 := by omega
      go_enter Tryz.func98, Tryz.ntmps98
      go_wp2_with fail
      go_ret
      exact ⟨by first | rfl | (rw [e]; rfl), rfl⟩
    · have e : digV c = 0 := by unfold digV; rw [if_neg (by omega), if_neg h3]
      by_cases h4 : 48 ≤ c
      · have d2 : (48 : Int) ≤ c := by omega
        have d3 : ¬ (c : Int) ≤ 57 := by omega
        go_enter Tryz.func98, Tryz.ntmps98
        go_wp2_with fail
        go_ret
        exact ⟨by first | rfl | (rw [e]; rfl), rfl⟩
      · have d2 : ¬ (48 : Int) ≤ c := by omega
        go_enter Tryz.func98, Tryz.ntmps98
        go_wp2_with fail
        go_ret
        exact ⟨by first | rfl | (rw [e]; rfl), rfl⟩
end RefL
end RefJ
section RefP
open Go.RowKit Go.Shelf Fx Go.Sort

theorem run_append_u8 (w : World) (B : Nat) (ty : TypeId) (v : Value) (n : Nat) (xs : List Value) (hown : w.ownsRow B 5 1 v n xs) (hB : B ≤ w.heap.size) (hn : n ≤ 100000000) (g m : Nat) (news : List Value) (hm : news.length = m) (hm4 : m ≤ 4) (h1 : ∀ y ∈ news, y.oneCell' = true) (hg : w.heap[g]? = some (.cells news.toArray 5 (0, 0))) :
    ∃ v' w', (Builtin.append_ #[44, 44] ty #[v, .slice (some ⟨g, 0, none⟩) m m]).run Tryz.prog w = .ok v' w' ∧ Grew w w' B 5 1 v v' (n + m) (xs ++ news) := by
  obtain ⟨i0, hi, hz0, hz1, hz2⟩ := info_parts infoByte
  obtain ⟨v', w', h1, h2, h3, _, h5⟩ := run_append_own_at (P := Tryz.prog) w B 44 ty 5 i0 _ 1 1 Tryz.underlying44 hi hz0 hz1 hz2 rfl (by decide) v n xs hown ⟨g, 0, none⟩ m m news (by omega)
    (fun j y hy => by
      have hadd : (⟨g, 0, none⟩ : Addr).add j = ⟨g, j, none⟩ := by unfold Addr.add; split <;> simp_all
      rw [hadd, cell_of_row w g j _ _ _ hg]; simpa using hy)
    h1 (by unfold maxLen; omega) (by omega) hB
  exact ⟨v', w', h1, h2, h3, h5⟩
theorem step_append_u8 {ops : Array Oper} {o : Oper} {a : Act} {w : World} {K : Act → World → Prop} {Q : Exit → Act → World → Prop} {E : Prop}
    (hg : o.guard = none) (s x : Operand) (hop : o.op = Op.call { callee := Callee.builtin Builtin.append, args := #[s, x], argTypes := #[44, 44] })
    (B : Nat) (v : Value) (n : Nat) (xs : List Value) (hs : a.eval s = v) (hown : w.ownsRow B 5 1 v n xs) (hB : B ≤ w.heap.size) (hn : n ≤ 100000000) (g m : Nat) (news : List Value) (hx : a.eval x = .slice (some ⟨g, 0, none⟩) m m)
    (hb : w.heap[g]? = some (.cells news.toArray 5 (0, 0))) (hm : news.length = m) (hm4 : m ≤ 4) (h1 : ∀ y ∈ news, y.oneCell' = true)
    (hK : ∀ v' w', Grew w w' B 5 1 v v' (n + m) (xs ++ news) → K (a.put o.dst v') w') :
    if Region.wanted o (yielded ops a.tmps) = true then Oper.wp Tryz.prog o a w K Q else E := by
  have hw : Region.wanted o (yielded ops a.tmps) = true := by simp [Region.wanted, hg]
  rw [if_pos hw]
  obtain ⟨v', w', hr, h2⟩ := run_append_u8 w B o.type v n xs hown hB hn g m news hm hm4 h1 hb
  unfold Oper.wp
  simp [execOp, hop, resolve, invoke, builtin, hs, hx, hr, Result.andThen]
  exact hK _ _ h2
theorem own_ge {w : World} {B : Nat} {e : TypeId} {size : Nat} {v : Value} {n : Nat} {xs : List Value} (h : w.ownsRow B e size v n xs) {g : Nat} (hg : v.ownBlock = some g) : B ≤ g := by
  rcases h.2 with ⟨rfl, _⟩ | ⟨g', cap, cur, rfl, hg', _⟩
  · simp [Value.ownBlock] at hg
  · simp only [Value.ownBlock, Option.some.injEq] at hg; omega
theorem conv_own {w : World} {B : Nat} {v : Value} {l : List UInt8} {n : Nat} (h : w.ownsRow B 5 1 v n (Lib.byteCells l)) (hn : n = l.length) : (convert 44 9 v).run Tryz.prog w = .ok (.string (bs l)) w := by
  subst hn
  rcases h.2 with ⟨rfl, h0⟩ | ⟨g, cap, cur, rfl, hg, hh, hl, hm, hs, ht⟩
  · obtain rfl : l = [] := List.eq_nil_of_length_eq_zero h0
    exact run_convert_bytes_nil (P := Tryz.prog) (w := w) 44 5 Tryz.underlying44 Tryz.underlying5 0 0 9 Tryz.underlying9
  · refine run_convert_bytes_back w 44 9 5 ⟨g, 0, none⟩ cap l Tryz.underlying44 Tryz.underlying5 Tryz.underlying9 fun j hj => ?_
    have hadd : (⟨g, 0, none⟩ : Addr).add j = ⟨g, j, none⟩ := by unfold Addr.add; split <;> simp_all
    rw [hadd, cell_of_row w g j cur _ (0, 0) hh]
    have e : cur[j]? = (cur.toList.take (l.length * 1))[j]? := by
      rw [List.getElem?_take, if_pos (by omega)]; simp
    rw [e, ht]
    simp [Lib.byteCells, List.getElem?_eq_getElem hj]
set_option maxRecDepth 100000 in
set_option maxHeartbeats 2000000 in
theorem rHex_any (s : ByteArray) (w : World) (hs : s.size ≤ 1000000) :
    Calls Tryz.prog 64 #[.string s] w fun e w' => e = .returned (.string (bs (hex s.data.toList))) ∧ Below w.heap.size w w' := by
  go_enter Tryz.func64, Tryz.ntmps64
  go_wp2_with fail
  go_loopw [4, 5] (fun o i wr => ∃ (k : Nat), k ≤ s.size ∧ i = .int .i64 k ∧ Hid (Below w.heap.size w wr ∧ wr.ownsRow w.heap.size 5 1 o (2 * k) (Lib.byteCells (hex (s.data.toList.take k))))) (fun _ i _ => s.size - (intOf i).toNat)
  case atStart => exact ⟨0, Nat.zero_le _, rfl, Lib.hid ⟨Below.refl _ _, World.ownsRow_nil _ _ _ _⟩⟩
  case round =>
    obtain ⟨k, hk, rfl, HI⟩ := hrel
    obtain ⟨wq, rfl⟩ : ∃ wq, wq = wr := ⟨_, rfl⟩
    by_cases hlt : k < s.size
    · have hc : (s[k]).toNat < 256 := (s[k]).toNat_lt
      obtain ⟨p, hp⟩ : ∃ p : Nat, p = (s[k]).toNat / 16 := ⟨_, rfl⟩
      obtain ⟨q, hq⟩ : ∃ q : Nat, q = (s[k]).toNat % 16 := ⟨_, rfl⟩
      have hp16 : p < 16 := by omega
      have hq16 : q < 16 := by omega
      have hw1 : IntKind.u8.wrap (((s[k]).toNat : Int) / 16) = (p : Int) := by
        have e : (((s[k]).toNat : Int) / 16) = (p : Int) := by omega
        rw [e]; exact IntWalk.u8_in _ ⟨by omega, by omega⟩
      have hw2 : ((s[k]).toNat : Int).tmod 16 = (q : Int) := by
        rw [Int.tmod_eq_emod_of_nonneg (by omega)]; omega
      have hi1 : (0 : Int) ≤ (p : Int) ∧ (p : Int) < 16 := by omega
      have hi2 : (0 : Int) ≤ (q : Int) ∧ (q : Int) < 16 := by omega
      have HT : Hid (hex (s.data.toList.take (k + 1)) = hex (s.data.toList.take k) ++ [hexD p, hexD q]) := Lib.hid (by rw [hex_take s k hlt, hp, hq])
      have HK : Hid (∀ (W : World) (v1 : Value) (w1 : World), Below wq.heap.size wq W → Grew W w1 w.heap.size 5 1 u4 v1 (2 * k + 2) (Lib.byteCells (hex (s.data.toList.take k)) ++ [.int .u8 (hexD p).toNat, .int .u8 (hexD q).toNat]) → Below w.heap.size w w1 ∧ w1.ownsRow w.heap.size 5 1 v1 (2 * (k + 1)) (Lib.byteCells (hex (s.data.toList.take (k + 1))))) := Lib.hid fun W v1 w1 hb hG => by
        refine ⟨(HI.out.1.trans (hb.mono HI.out.1.size)).grown hG.grown (Nat.le_trans HI.out.1.size hb.size) fun g hg => ?_, ?_⟩
        · exact own_ge HI.out.2 hg
        · have e : Lib.byteCells (hex (s.data.toList.take (k + 1))) = Lib.byteCells (hex (s.data.toList.take k)) ++ [.int .u8 (hexD p).toNat, .int .u8 (hexD q).toNat] := by rw [HT.out]; simp [Lib.byteCells]
          rw [e, show 2 * (k + 1) = 2 * k + 2 from rfl]
          exact hG.own
      have hsz := HI.out.1.size
      have h2k : 2 * k ≤ 100000000 := by omega
      clear hp hq
      go_wp2_with fail
      go_region_law (first
        | (refine step_append_u8 rfl (.tmp 12) (.tmp 25) rfl w.heap.size _ (2 * k) (Lib.byteCells (hex (s.data.toList.take k))) rfl ?_ ?_ h2k _ 2 [.int .u8 (hexD p).toNat, .int .u8 (hexD q).toNat] rfl ?_ rfl ?_ ?_ ?_
           · exact ownsRow_below HI.out.2 (bx _).drew
           · simp; omega
           · rw [← digits_get p hp16 hp16, ← digits_get q hq16 hq16]; exact heap_alloc_new _ _
           · omega
           · simp [Value.oneCell']
           intro v1 w1 hGr
           have HN := Lib.hid (HK.out _ _ _ (bx _).drew hGr)))
      all_goals
        clear hGr
        go_wp2_with fail
        exact ⟨⟨k + 1, by omega, by go_num, HN⟩, by simp [intOf]; omega⟩
    · obtain rfl : k = s.size := by omega
      have e : s.data.toList.take s.size = s.data.toList := List.take_of_length_le (by simp)
      have hcv := conv_own HI.out.2 (by rw [e, hex_len]; simp)
      rw [e] at hcv
      have HB := Lib.hid HI.out.1
      clear HI
      go_wp2_with fail
      go_ret
      exact ⟨rfl, HB.out⟩
theorem bs_cat (a b : List UInt8) : bs a ++ bs b = bs (a ++ b) := bs_append a b
set_option maxRecDepth 100000 in
set_option maxHeartbeats 2000000 in
theorem rLine_any (k n fr : Int) (t : ByteArray) (w : World) (hk : 1 ≤ k ∧ k ≤ 6) (hn : 0 ≤ n ∧ n ≤ 1000000000) (hf : -1 ≤ fr ∧ fr ≤ 1000000000) (ht : t.size ≤ 1000000) (h45 : k = 4 ∨ k = 5 → 0 ≤ fr) :
    Calls Tryz.prog 42 #[fldV ⟨k, n, fr, t⟩] w fun e w' => e = .returned (.string (bs (lineF ⟨k, n, fr, t⟩))) ∧ Below w.heap.size w w' := by
  obtain ⟨N, rfl⟩ : ∃ N : Nat, n = N := ⟨n.toNat, by omega⟩
  obtain ⟨M, hM⟩ : ∃ M : Nat, max fr 0 = M := ⟨(max fr 0).toNat, by omega⟩
  have hM1 : M ≤ 1000000000 := by omega
  obtain ⟨W, hW⟩ : ∃ W, W = w.alloc (.cells #[.int .i64 k, .int .i64 N, .int .i64 fr, .string t] 56) := ⟨_, rfl⟩
  have HB0 : Hid (Below w.heap.size w W) := Lib.hid (by rw [hW]; exact bx _)
  have c0 : W.cell? ⟨w.heap.size, 0, none⟩ = some (.int .i64 k) := by rw [hW]; exact cell_of_row _ _ 0 _ _ _ (heap_alloc_new _ _)
  have c1 : W.cell? ⟨w.heap.size, 1, none⟩ = some (.int .i64 N) := by rw [hW]; exact cell_of_row _ _ 1 _ _ _ (heap_alloc_new _ _)
  have c2 : W.cell? ⟨w.heap.size, 2, none⟩ = some (.int .i64 fr) := by rw [hW]; exact cell_of_row _ _ 2 _ _ _ (heap_alloc_new _ _)
  have c3 : W.cell? ⟨w.heap.size, 3, none⟩ = some (.string t) := by rw [hW]; exact cell_of_row _ _ 3 _ _ _ (heap_alloc_new _ _)
  obtain ⟨bl, hbl⟩ : ∃ bl, bl = w.heap.size := ⟨_, rfl⟩
  have hlt : bl < W.heap.size := by rw [hW, hbl]; simp
  show Calls Tryz.prog 42 #[.agg #[.int .i64 k, .int .i64 N, .int .i64 fr, .string t]] w _
  go_enter Tryz.func42, Tryz.ntmps42
  go_wp2_with fail
  rw [← hW, ← hbl]
  rw [← hbl] at c0 c1 c2 c3
  refine (rDigits_any M W (by omega)).mono ?_
  rintro e w1 ⟨rfl, hB1⟩
  have HB1 : Hid (Below w.heap.size w w1) := Lib.hid (HB0.out.trans (hB1.mono HB0.out.size))
  have k0 := (hB1.cell (p := ⟨bl, 0, none⟩) hlt).trans c0
  have k1 := (hB1.cell (p := ⟨bl, 1, none⟩) hlt).trans c1
  have k2 := (hB1.cell (p := ⟨bl, 2, none⟩) hlt).trans c2
  have k3 := (hB1.cell (p := ⟨bl, 3, none⟩) hlt).trans c3
  have HDI : Hid (∀ w2 : World, Below w.heap.size w w2 → Calls Tryz.prog 41 #[.int .i64 N] w2 fun e w' => e = .returned (.string (bs (Go.Lib.itoa N))) ∧ Below w.heap.size w w') := Lib.hid fun w2 h2 => (rDigits_any N w2 (by omega)).mono fun e w' ⟨he, h3⟩ => ⟨by rw [he, itoa_pos (by omega)]; rfl, h2.trans (h3.mono h2.size)⟩
  have HHX : Hid (∀ w2 : World, Below w.heap.size w w2 → Calls Tryz.prog 64 #[.string t] w2 fun e w' => e = .returned (.string (bs (hex t.data.toList))) ∧ Below w.heap.size w w') := Lib.hid fun w2 h2 => (rHex_any t w2 ht).mono fun e w' ⟨he, h3⟩ => ⟨he, h2.trans (h3.mono h2.size)⟩
  have hMi : 0 ≤ fr → Lib.decDigits M = Go.Lib.itoa fr := fun h => by rw [itoa_pos h]; congr 1; omega
  clear hB1 c0 c1 c2 c3 hlt hW hbl
  obtain ⟨Y, hY⟩ : ∃ Y, Y = bs (Lib.decDigits M) := ⟨_, rfl⟩
  rw [← hY]
  have hYs : Y.size ≤ 19 := by rw [hY]; exact dec_len 19 M (by decide) (by omega)
  obtain ⟨D, hD⟩ : ∃ D, D = bs (Go.Lib.itoa N) := ⟨_, rfl⟩
  rw [← hD] at HDI
  have hDs : D.size ≤ 19 := by rw [hD, itoa_pos (by omega)]; exact dec_len 19 N (by decide) (by omega)
  obtain ⟨X, hX⟩ : ∃ X, X = bs (hex t.data.toList) := ⟨_, rfl⟩
  rw [← hX] at HHX
  have hXs : X.size ≤ 2000000 := by rw [hX]; show (hex t.data.toList).length ≤ _; rw [hex_len]; simp; omega
  have HD := Lib.hid hD
  have HX := Lib.hid hX
  have HY := Lib.hid hY
  clear hD hX hY
  obtain rfl | rfl | rfl | rfl | rfl | rfl : k = 1 ∨ k = 2 ∨ k = 3 ∨ k = 4 ∨ k = 5 ∨ k = 6 := by omega
  · have HE : Hid (⟨#[108, 105, 116, 101, 114, 97, 108, 32]⟩ ++ X = bs (lineF ⟨1, N, fr, t⟩)) := Lib.hid (by rw [HX.out]; exact bs_append _ _)
    go_wp2_with fail
    refine (HHX.out _ HB1.out).mono ?_
    rintro e w2 ⟨rfl, hB2⟩
    have HB2 := Lib.hid hB2
    clear hB2
    go_wp2_with fail
    go_ret
    exact ⟨by rw [← HE.out]; rfl, HB2.out⟩
  · have HE : Hid (⟨#[110, 117, 109, 98, 101, 114, 32]⟩ ++ D = bs (lineF ⟨2, N, fr, t⟩)) := Lib.hid (by rw [HD.out]; exact bs_append _ _)
    go_wp2_with fail
    refine (HDI.out _ HB1.out).mono ?_
    rintro e w2 ⟨rfl, hB2⟩
    have HB2 := Lib.hid hB2
    clear hB2
    go_wp2_with fail
    go_ret
    exact ⟨by rw [← HE.out]; rfl, HB2.out⟩
  · by_cases h0 : fr < 0
    · have HE : Hid (⟨#[98, 121, 116, 101, 115, 32]⟩ ++ D = bs (lineF ⟨3, N, fr, t⟩)) := Lib.hid (by
        obtain rfl : fr = -1 := by omega
        rw [HD.out]
        exact bs_append _ _)
      go_wp2_with fail
      refine (HDI.out _ HB1.out).mono ?_
      rintro e w2 ⟨rfl, hB2⟩
      have HB2 := Lib.hid hB2
      clear hB2
      go_wp2_with fail
      go_ret
      exact ⟨by rw [← HE.out]; rfl, HB2.out⟩
    · have HE : Hid (⟨#[98, 121, 116, 101, 115]⟩ ++ (⟨#[32, 102, 114, 111, 109, 32]⟩ ++ Y) = bs (lineF ⟨3, N, fr, t⟩)) := Lib.hid (by
        have e : lineF ⟨3, N, fr, t⟩ = [98, 121, 116, 101, 115] ++ ([32, 102, 114, 111, 109, 32] ++ Lib.decDigits M) := by
          rw [hMi (by omega)]
          show wordK 3 ++ 32 :: (if fr = -1 then Go.Lib.itoa N else wFrom ++ 32 :: Go.Lib.itoa fr) = _
          rw [if_neg (by omega)]; rfl
        rw [e, ← bs_append, ← bs_append, HY.out])
      go_wp2_with fail
      go_ret
      exact ⟨by rw [← HE.out]; rfl, HB1.out⟩
  · have HE : Hid ((⟨#[108, 105, 115, 116, 32]⟩ ++ D) ++ (⟨#[32, 102, 114, 111, 109, 32]⟩ ++ Y) = bs (lineF ⟨4, N, fr, t⟩)) := Lib.hid (by
      have e : lineF ⟨4, N, fr, t⟩ = ([108, 105, 115, 116, 32] ++ Go.Lib.itoa N) ++ ([32, 102, 114, 111, 109, 32] ++ Lib.decDigits M) := by
        rw [hMi (h45 (.inl rfl))]
        show wordK 4 ++ 32 :: (Go.Lib.itoa N ++ 32 :: (wFrom ++ 32 :: Go.Lib.itoa fr)) = _
        rw [List.append_assoc]; rfl
      rw [e, ← bs_append, ← bs_append, ← bs_append, HY.out, HD.out])
    go_wp2_with fail
    refine (HDI.out _ HB1.out).mono ?_
    rintro e w2 ⟨rfl, hB2⟩
    have HB2 := Lib.hid hB2
    clear hB2
    go_wp2_with fail
    go_ret
    exact ⟨by rw [← HE.out]; rfl, HB2.out⟩
  · have HE : Hid ((⟨#[105, 110, 115, 105, 100, 101, 32]⟩ ++ D) ++ (⟨#[32, 102, 114, 111, 109, 32]⟩ ++ Y) = bs (lineF ⟨5, N, fr, t⟩)) := Lib.hid (by
      have e : lineF ⟨5, N, fr, t⟩ = ([105, 110, 115, 105, 100, 101, 32] ++ Go.Lib.itoa N) ++ ([32, 102, 114, 111, 109, 32] ++ Lib.decDigits M) := by
        rw [hMi (h45 (.inr rfl))]
        show wordK 5 ++ 32 :: (Go.Lib.itoa N ++ 32 :: (wFrom ++ 32 :: Go.Lib.itoa fr)) = _
        rw [List.append_assoc]; rfl
      rw [e, ← bs_append, ← bs_append, ← bs_append, HY.out, HD.out])
    go_wp2_with fail
    refine (HDI.out _ HB1.out).mono ?_
    rintro e w2 ⟨rfl, hB2⟩
    have HB2 := Lib.hid hB2
    clear hB2
    go_wp2_with fail
    go_ret
    exact ⟨by rw [← HE.out]; rfl, HB2.out⟩
  · have HE : Hid (⟨#[99, 104, 101, 99, 107, 32]⟩ ++ D = bs (lineF ⟨6, N, fr, t⟩)) := Lib.hid (by rw [HD.out]; exact bs_append _ _)
    go_wp2_with fail
    refine (HDI.out _ HB1.out).mono ?_
    rintro e w2 ⟨rfl, hB2⟩
    have HB2 := Lib.hid hB2
    clear hB2
    go_wp2_with fail
    go_ret
    exact ⟨by rw [← HE.out]; rfl, HB2.out⟩
end RefP
section RefS
open Go.RowKit Go.Shelf Fx Go.Sort

theorem infoStr : (Tryz.prog.info? 9).map (fun i => (i.zero, i.size, i.bytes)) = some (some (.string ⟨#[]⟩), 1, 16) := by kernel_rfl
abbrev OwnS (w : World) (B : Nat) (v : Value) (ss : List ByteArray) : Prop := w.ownsRow B 9 1 v ss.length (ss.map fun s => Value.string s)
theorem OwnS.at_ {w : World} {B : Nat} {v : Value} {ss : List ByteArray} (h : OwnS w B v ss) : ∃ a c, v = .slice a ss.length c ∧ (ss.length = 0 ∨ ∃ b, a = some ⟨b, 0, none⟩ ∧ B ≤ b ∧ b < w.heap.size ∧ ss.length ≤ c ∧ c ≤ maxLen ∧ ∀ j, j < ss.length → w.cell? ⟨b, j, none⟩ = some (.string (ss.getD j ⟨#[]⟩))) := by
  rcases h.2 with ⟨rfl, h0⟩ | ⟨g, cap, cur, rfl, hg, hh, hl, hm, hs, ht⟩
  · exact ⟨none, 0, by rw [h0], .inl h0⟩
  · refine ⟨_, cap, rfl, .inr ⟨g, rfl, hg, lt_of_heap hh, hl, hm, fun j hj => ?_⟩⟩
    rw [cell_of_row w g j cur _ (0, 0) hh]
    have e : cur[j]? = (cur.toList.take (ss.length * 1))[j]? := by
      rw [List.getElem?_take, if_pos (by omega)]; simp
    rw [e, ht]
    simp [List.getD, List.getElem?_eq_getElem hj]
theorem run_append_str (w : World) (B : Nat) (ty : TypeId) (v : Value) (n : Nat) (xs : List Value) (hown : w.ownsRow B 9 1 v n xs) (hB : B ≤ w.heap.size) (hn : n ≤ 100000000) (g : Nat) (x : ByteArray) (hg : w.heap[g]? = some (.cells #[.string x] 9 (0, 0))) :
    ∃ v' w', (Builtin.append_ #[45, 45] ty #[v, .slice (some ⟨g, 0, none⟩) 1 1]).run Tryz.prog w = .ok v' w' ∧ Grew w w' B 9 1 v v' (n + 1) (xs ++ [.string x]) := by
  obtain ⟨i0, hi, hz0, hz1, hz2⟩ := info_parts infoStr
  obtain ⟨v', w', h1, h2, h3, _, h5⟩ := run_append_own_at (P := Tryz.prog) w B 45 ty 9 i0 _ 1 16 Tryz.underlying45 hi hz0 hz1 hz2 rfl (by decide) v n xs hown ⟨g, 0, none⟩ 1 1 [.string x] rfl
    (fun j y hy => by
      have hadd : (⟨g, 0, none⟩ : Addr).add j = ⟨g, j, none⟩ := by unfold Addr.add; split <;> simp_all
      rw [hadd, cell_of_row w g j _ _ _ hg]; simpa using hy)
    (fun y hy => by simp at hy; subst hy; rfl) (by unfold maxLen; omega) (by omega) hB
  exact ⟨v', w', h1, h2, h3, h5⟩
theorem wpList_append_str {ops : Array Oper} {rest : List Oper} {o : Oper} {a : Act} {w : World} {Q : Exit → Act → World → Prop}
    (hg : o.guard = none) (s x : Operand) (hop : o.op = Op.call { callee := Callee.builtin Builtin.append, args := #[s, x], argTypes := #[45, 45] })
    (B : Nat) (v : Value) (n : Nat) (xs : List Value) (hs : a.eval s = v) (hown : w.ownsRow B 9 1 v n xs) (hB : B ≤ w.heap.size) (hn : n ≤ 100000000) (g : Nat) (y : ByteArray) (hx : a.eval x = .slice (some ⟨g, 0, none⟩) 1 1)
    (hb : w.heap[g]? = some (.cells #[.string y] 9 (0, 0)))
    (hK : ∀ v' w', Grew w w' B 9 1 v v' (n + 1) (xs ++ [.string y]) → wpList Tryz.prog ops Q rest (a.put o.dst v') w') : wpList Tryz.prog ops Q (o :: rest) a w :=
  wpList_plain hg fun _ hK' => by
    obtain ⟨v', w', hr, h2⟩ := run_append_str w B o.type v n xs hown hB hn g y hb
    unfold Oper.wp
    simp [execOp, hop, resolve, invoke, builtin, hs, hx, hr, Result.andThen]
    exact hK' _ _ (hK _ _ h2)
/-- What stands while a text is split. -/
def SpAt (c : UInt8) (l : List UInt8) (done : List ByteArray) (b k : Nat) : Prop :=
  (k ≤ l.length ∧ b ≤ k ∧ sp c l = done.map (·.data.toList) ++ sp c (l.drop b) ∧ ∀ x ∈ (l.drop b).take (k - b), x ≠ c) ∨ (k = l.length + 1 ∧ b = k ∧ sp c l = done.map (·.data.toList))
theorem SpAt.next {c : UInt8} {l : List UInt8} {done : List ByteArray} {b k : Nat} (h : SpAt c l done b k) (hk : k < l.length) (hc : l[k] ≠ c) : SpAt c l done b (k + 1) := by
  rcases h with ⟨_, h2, h3, h4⟩ | ⟨h1, _⟩
  · refine .inl ⟨hk, by omega, h3, fun x hx => ?_⟩
    rw [show k + 1 - b = (k - b) + 1 by omega, List.take_succ_eq_append_getElem (by simp; omega)] at hx
    rcases List.mem_append.1 hx with hx | hx
    · exact h4 x hx
    · simp only [List.mem_singleton, List.getElem_drop] at hx
      rw [hx]
      intro e
      exact hc (by rw [← e]; congr 1; omega)
  · omega
theorem SpAt.cut {c : UInt8} {l : List UInt8} {done : List ByteArray} {b k : Nat} {s : ByteArray} (h : SpAt c l done b k) (hk : k ≤ l.length) (hc : k = l.length ∨ ∃ h : k < l.length, l[k] = c) (hs : s.data.toList = (l.drop b).take (k - b)) : SpAt c l (done ++ [s]) (k + 1) (k + 1) := by
  rcases h with ⟨_, h2, h3, h4⟩ | ⟨h1, _⟩
  · rcases hc with rfl | ⟨hlt, hc⟩
    · refine .inr ⟨rfl, rfl, ?_⟩
      have e : (l.drop b).take (l.length - b) = l.drop b := List.take_of_length_le (by simp)
      rw [e] at h4 hs
      rw [h3, sp_nowhere h4]; simp [hs]
    · refine .inl ⟨hlt, Nat.le_refl _, ?_, by simp⟩
      have e : l.drop b = (l.drop b).take (k - b) ++ c :: l.drop (k + 1) := by
        rw [← hc]
        conv => lhs; rw [← List.take_append_drop (k - b) (l.drop b)]
        rw [List.drop_drop, show b + (k - b) = k by omega, List.drop_eq_getElem_cons hlt]
      rw [h3, e, sp_here h4]
      simp [hs]
  · omega
set_option maxRecDepth 100000 in
set_option maxHeartbeats 2000000 in
theorem rSplit_any (s : ByteArray) (c : UInt8) (w : World) (hs : s.size ≤ 10000000) :
    Calls Tryz.prog 28 #[.string s, .int .u8 c.toNat] w fun e w' => (∃ (v : Value) (ss : List ByteArray), e = .returned v ∧ OwnS w' w.heap.size v ss ∧ ss.map (·.data.toList) = sp c s.data.toList) ∧ Below w.heap.size w w' := by
  have hsl : s.data.toList.length = s.size := by simp
  go_enter Tryz.func28, Tryz.ntmps28
  go_wp2_with fail
  go_loopw [5, 6, 7] (fun v b i wr => ∃ (k bb : Nat) (done : List ByteArray), k ≤ s.size + 1 ∧ i = .int .i64 k ∧ b = .int .i64 bb ∧ done.length ≤ k ∧ Hid (Below w.heap.size w wr ∧ OwnS wr w.heap.size v done ∧ SpAt c s.data.toList done bb k)) (fun _ _ i _ => s.size + 1 - (intOf i).toNat)
  case atStart => exact ⟨0, 0, [], by omega, rfl, rfl, by simp, Lib.hid ⟨Below.refl _ _, World.ownsRow_nil _ _ _ _, .inl ⟨Nat.zero_le _, Nat.le_refl _, rfl, by simp⟩⟩⟩
  case round =>
    obtain ⟨k, bb, done, hk, rfl, rfl, hdl, HI⟩ := hrel
    obtain ⟨wq, rfl⟩ : ∃ wq, wq = wr := ⟨_, rfl⟩
    by_cases hle : k ≤ s.size
    · have hbk : bb ≤ k := by rcases HI.out.2.2 with h | h <;> omega
      have HG : Hid (∀ (hc : k = s.size ∨ ∃ h : k < s.data.toList.length, s.data.toList[k] = c) (v1 : Value) (wA : World), Grew (wq.alloc (.cells #[.string (s.extract bb k)] 9)) wA w.heap.size 9 1 u5 v1 (done.length + 1) ((done.map fun s => Value.string s) ++ [.string (s.extract bb k)]) → Hid (Below w.heap.size w wA ∧ OwnS wA w.heap.size v1 (done ++ [s.extract bb k]) ∧ SpAt c s.data.toList (done ++ [s.extract bb k]) (k + 1) (k + 1))) := Lib.hid fun hc v1 wA hG => Lib.hid ⟨(HI.out.1.trans ((bx _).mono HI.out.1.size)).grown hG.grown (by have := HI.out.1.size; simp; omega) (fun g hg => own_ge HI.out.2.1 hg), by
          have h := hG.own
          unfold OwnS
          rw [List.length_append, List.map_append]
          exact h, HI.out.2.2.cut (by omega) (hc.imp (fun h => h.trans hsl.symm) id) (by rw [ByteArray.data_extract, Array.toList_extract, List.extract_eq_take_drop])⟩
      have HA : Hid ((wq.alloc (.cells #[.string (s.extract bb k)] 9)).ownsRow w.heap.size 9 1 u5 done.length (done.map fun s => Value.string s) ∧ w.heap.size ≤ (wq.alloc (.cells #[.string (s.extract bb k)] 9)).heap.size) := Lib.hid ⟨ownsRow_below HI.out.2.1 (bx _), by have := HI.out.1.size; simp; omega⟩
      have hd1 : done.length ≤ 100000000 := by omega
      have hcut : (0 : Int) ≤ (bb : Int) ∧ (bb : Int) ≤ (k : Int) ∧ (k : Int) ≤ s.size := by omega
      by_cases hlt : k < s.size
      · have hc256 : (s[k]).toNat < 256 := (s[k]).toNat_lt
        by_cases hc : (s[k]).toNat = c.toNat
        · have HG2 := HG.out (.inr ⟨by omega, UInt8.toNat_inj.1 hc⟩)
          have hci : (((s[k]).toNat : Int) == (c.toNat : Int)) = true := by rw [beq_iff_eq]; omega
          have hcj : ((k : Int) == (s.size : Int)) = false := by rw [beq_eq_false_iff_ne]; omega
          go_wp2_with (at_builtin; refine wpList_append_str rfl (.tmp 25) (.tmp 30) rfl w.heap.size u5 done.length (done.map fun s => Value.string s) rfl HA.out.1 HA.out.2 hd1 wq.heap.size (s.extract bb k) rfl (heap_alloc_new _ _) ?_; intro v1 wA hG; have HE := HG2 v1 wA hG; clear hG)
          exact ⟨⟨k + 1, k + 1, _, by omega, by go_num, by go_num, by rw [List.length_append]; exact Nat.succ_le_succ hdl, HE⟩, by simp [intOf]; omega⟩
        · have hci : ¬ ((s[k]).toNat : Int) = c.toNat := by omega
          have HN : Hid (SpAt c s.data.toList done bb (k + 1)) := Lib.hid (HI.out.2.2.next (by omega) fun e => hc (by rw [← e]; rfl))
          have HNO : Hid (¬ (((k : Int) == (s.size : Int)) = true ∨ (((s[k]).toNat : Int) == (c.toNat : Int)) = true)) := Lib.hid (by simp only [beq_iff_eq]; omega)
          clear hc HG
          go_wp2_with (at_builtin; exfalso; exact HNO.out (by assumption))
          exact ⟨⟨k + 1, bb, done, by omega, by go_num, rfl, by omega, Lib.hid ⟨HI.out.1, HI.out.2.1, HN.out⟩⟩, by simp [intOf]; omega⟩
      · obtain rfl : k = s.size := by omega
        have HG2 := HG.out (.inl rfl)
        go_wp2_with (at_builtin; refine wpList_append_str rfl (.tmp 25) (.tmp 30) rfl w.heap.size u5 done.length (done.map fun s => Value.string s) rfl HA.out.1 HA.out.2 hd1 wq.heap.size (s.extract bb s.size) rfl (heap_alloc_new _ _) ?_; intro v1 wA hG; have HE := HG2 v1 wA hG; clear hG)
        exact ⟨⟨s.size + 1, s.size + 1, _, by omega, by go_num, by go_num, by rw [List.length_append]; exact Nat.succ_le_succ hdl, HE⟩, by simp [intOf]⟩
    · obtain rfl : k = s.size + 1 := by omega
      have HF : Hid (done.map (·.data.toList) = sp c s.data.toList) := Lib.hid (by
        rcases HI.out.2.2 with h | h
        · omega
        · exact h.2.2.symm)
      go_wp2_with fail
      go_ret
      exact ⟨⟨_, done, rfl, HI.out.2.1, HF.out⟩, HI.out.1⟩
set_option maxRecDepth 100000 in
set_option maxHeartbeats 4000000 in
theorem rPrint_ok (v : Value) (l : List Fm) (w : World) (hV : FmsAt (· < w.heap.size) w v l) (hI : IntsL l) (hv : vd l = true) :
    Calls Tryz.prog 25 #[v] w fun e w' => e = .returned (.tuple #[.string (bs (text l)), .int .i64 0]) ∧ Below w.heap.size w w' := by
  have hok := vd_iff.1 hv
  have HVA := Lib.hid (rValid_any v l true w hV hI (by have := hok.few; omega) hv)
  obtain ⟨a, c, rfl, hcap⟩ := hV.slice_
  obtain ⟨n, hn⟩ : ∃ n, n = l.length := ⟨_, rfl⟩
  have hn60 : n ≤ 60 := by have := hok.few; omega
  rw [← hn] at HVA hV hcap ⊢
  have HV := Lib.hid hV
  have HN := Lib.hid hn
  have HO := Lib.hid hok
  have HNI := Lib.hid hok.nice
  clear hV hn hI hv hok
  go_enter Tryz.func25, Tryz.ntmps25
  go_wp2_with fail
  refine HVA.out.mono ?_
  rintro e w1 ⟨rfl, hB1⟩
  have HB1 := Lib.hid hB1
  clear hB1
  go_wp2_with fail
  go_loopw [5, 6] (fun o i wr => ∃ (k : Nat) (O : ByteArray), k ≤ n ∧ i = .int .i64 k ∧ o = .string O ∧ Hid (O = bs (text (l.take k)) ∧ Below w.heap.size w wr)) (fun _ i _ => n - (intOf i).toNat)
  case atStart => exact ⟨0, _, Nat.zero_le _, rfl, rfl, Lib.hid ⟨rfl, HB1.out⟩⟩
  case round =>
    obtain ⟨k, O, hk, rfl, rfl, HI⟩ := hrel
    obtain ⟨wo, rfl⟩ : ∃ wo : World, wo = wr := ⟨_, rfl⟩
    by_cases hlt : k < n
    · have hkl : k < l.length := by have := HN.out; omega
      obtain ⟨b, off, hab, -, -, -, -, -, hfm⟩ := HV.out.at_ (by omega)
      subst hab
      obtain ⟨u, hu0⟩ := hfm k hkl
      obtain ⟨f, hf⟩ : ∃ f, f = l.getD k zm := ⟨_, rfl⟩
      rw [← hf] at hu0
      have hbw : b < w.heap.size := World.block_lt_of_cell? (h := hu0.c0)
      have hu := hu0.kept (Kept.of_below HI.out.2 fun _ h => h) hbw
      obtain ⟨ua, uc, rfl, hucl⟩ := hu.fs.slice_
      obtain ⟨m, hm⟩ : ∃ m, m = f.fs.length := ⟨_, rfl⟩
      rw [← hm] at hu hucl
      have q0 := hu.c0
      have q1 := hu.c1
      have lb := World.block_lt_of_cell? (h := q0)
      have he := HO.out.each k hkl
      rw [← hf] at he
      obtain ⟨ID, hID⟩ : ∃ ID : Nat, f.id = ID := ⟨f.id.toNat, by have := he.lo; omega⟩
      have hid : 1 ≤ ID ∧ ID ≤ 1000000 := by have := he.lo; have := he.hi; omega
      rw [hID] at q0
      have hm16 : m ≤ 16 := by rw [hm]; exact he.few
      have HFS := Lib.hid (And.intro hu.fs hu.own)
      have HF := Lib.hid (And.intro hf (And.intro hm hID))
      have HFL : Hid (∀ j, j < f.fs.length → Ints (f.fs.getD j zf) ∧ (f.fs.getD j zf).text.size ≤ 16 ∧ (1 ≤ (f.fs.getD j zf).kind ∧ (f.fs.getD j zf).kind ≤ 6) ∧ (0 ≤ (f.fs.getD j zf).n ∧ (f.fs.getD j zf).n ≤ 1000000000) ∧ (-1 ≤ (f.fs.getD j zf).frm ∧ (f.fs.getD j zf).frm ≤ 1000000000) ∧ ((f.fs.getD j zf).kind = 4 ∨ (f.fs.getD j zf).kind = 5 → 0 ≤ (f.fs.getD j zf).frm)) := Lib.hid fun j hj => by
        have hr := he.each j hj
        have hs := (HO.out.take k).small
        have hl16 : (f.fs.take j).length ≤ 16 := by rw [List.length_take]; have := he.few; omega
        obtain ⟨a0, a1, a2, a3, a4, a5, a6, a7⟩ := right_canon hs hl16 hr
        refine ⟨⟨by omega, by omega, by omega, by omega, by omega, by omega, by omega⟩, a7, ⟨a1, a2⟩, ⟨a3, by omega⟩, ⟨a5, by omega⟩, fun h45 => ?_⟩
        unfold right at hr
        have hc : counts (f.fs.take j) (f.fs.getD j zf).frm = true := by
          rcases h45 with h | h <;> rw [h] at hr <;> simp [nests] at hr <;> first | exact hr.2.2 | exact hr.2.1.2.2 | exact hr.1.2.2 | skip
        exact (counts_of hc).1
      have hOs : O.size ≤ 120000 := by
        rw [HI.out.1]
        have h := text_len HNI.out k (by omega)
        show (text (l.take k)).length ≤ _
        omega
      have HD := Lib.hid (rDigits_any ID wo (by omega))
      obtain ⟨DG, hDG⟩ : ∃ D, D = bs (Lib.decDigits ID) := ⟨_, rfl⟩
      rw [← hDG] at HD
      have hDs : DG.size ≤ 19 := by rw [hDG]; exact dec_len 19 ID (by decide) (by omega)
      have HO1 : Hid (((O ++ (⟨#[102, 111, 114, 109, 97, 116, 32]⟩ : ByteArray)) ++ DG) ++ (⟨#[10]⟩ : ByteArray) = bs (text (l.take k) ++ (heading f.id ++ [10]) ++ textF (f.fs.take 0))) := Lib.hid (by
        have e0 : textF (f.fs.take 0) = [] := by simp [textF]
        have e1 : heading f.id = [102, 111, 114, 109, 97, 116, 32] ++ Lib.decDigits ID := by rw [hID]; unfold heading; rw [itoa_pos (by omega)]; rfl
        rw [e0, List.append_nil, e1, HI.out.1, hDG, ← List.append_assoc, ← List.append_assoc, ← bs_append, ← bs_append, ← bs_append])
      have HBO := Lib.hid HI.out.2
      have HTL : Hid ((text (l.take k)).length ≤ 120000 ∧ (heading f.id).length ≤ 27) := Lib.hid ⟨by have h := text_len HNI.out k (by omega); omega, heading_len (by omega) (by omega)⟩
      clear hf hm hID hDG hu0 hu hfm he HI
      go_wp2_with fail
      refine HD.out.mono ?_
      rintro e w2 ⟨rfl, hB2⟩
      have HB2 := Lib.hid (HBO.out.trans (hB2.mono HBO.out.size))
      clear hB2
      have FM2 : Hid (∀ V, Below w.heap.size w V → V.cell? ⟨b, off + k * 2 + 1, none⟩ = some (.slice ua m uc) ∧ b < V.heap.size) := Lib.hid fun V hV => ⟨(hV.cell (p := ⟨b, off + k * 2 + 1, none⟩) hbw).trans ((HBO.out.cell (p := ⟨b, off + k * 2 + 1, none⟩) hbw).symm.trans q1), Nat.lt_of_lt_of_le hbw hV.size⟩
      have hc2 : off + k * 2 + 1 = off + k * 2 + 1 := rfl
      clear q0 q1 lb
      go_wp2_with fail
      go_loopw [5, 7] (fun o i wr => ∃ (j : Nat) (Z : ByteArray), j ≤ m ∧ i = .int .i64 j ∧ o = .string Z ∧ Hid (Z = bs (text (l.take k) ++ (heading f.id ++ [10]) ++ textF (f.fs.take j)) ∧ Below w.heap.size w wr)) (fun _ i _ => m - (intOf i).toNat)
      case atStart => exact ⟨0, _, Nat.zero_le _, rfl, rfl, Lib.hid ⟨HO1.out, HB2.out⟩⟩
      case round =>
        obtain ⟨j, Z, hj, rfl, rfl, HJ⟩ := hrel
        obtain ⟨wq, rfl⟩ : ∃ wq : World, wq = wr := ⟨_, rfl⟩
        obtain ⟨q1, lb⟩ := FM2.out wq HJ.out.2
        by_cases hjm : j < m
        · have hjl : j < f.fs.length := by have := HF.out.2.1; omega
          obtain ⟨fb, fo, hua, -, -, m1, m2, hfl⟩ := HFS.out.1.at_ (by omega)
          subst hua
          have hPf : fb < w.heap.size := HFS.out.2 fb rfl
          obtain ⟨⟨gk, gn, gf, gt⟩, hg⟩ : ∃ g, g = f.fs.getD j zf := ⟨_, rfl⟩
          have hgN := HFL.out j hjl
          rw [← hg] at hgN
          have hgA := (hfl j hjl).of_block (w' := wq) (by rw [HJ.out.2.block fb hPf, HBO.out.block fb hPf])
          rw [← hg] at hgA
          obtain ⟨g0, g1, g2, g3⟩ := hgA
          have lgb := World.block_lt_of_cell? (h := g0)
          obtain ⟨LN, hLN⟩ : ∃ LN, bs (lineF ⟨gk, gn, gf, gt⟩) = LN := ⟨_, rfl⟩
          have sLN : LN.size ≤ 80 := by rw [← hLN]; exact lineF_len hgN.1 hgN.2.1
          have HLI := Lib.hid (rLine_any gk gn gf gt wq hgN.2.2.1 hgN.2.2.2.1 hgN.2.2.2.2.1 (Nat.le_trans hgN.2.1 (by decide)) hgN.2.2.2.2.2)
          rw [hLN] at HLI
          have hZs : Z.size ≤ 130000 := by
            rw [HJ.out.1]
            have tfl : (textF (f.fs.take j)).length ≤ 81 * j := textF_len (fun i hi => ⟨(HFL.out i hi).1, (HFL.out i hi).2.1⟩) j (by omega)
            have := HTL.out
            show (text (l.take k) ++ (heading f.id ++ [10]) ++ textF (f.fs.take j)).length ≤ _
            simp only [List.length_append, List.length_cons, List.length_nil]
            omega
          have HX : Hid ((Z ++ LN) ++ (⟨#[10]⟩ : ByteArray) = bs (text (l.take k) ++ (heading f.id ++ [10]) ++ textF (f.fs.take (j + 1)))) := Lib.hid (by
            have e0 : textF (f.fs.take (j + 1)) = textF (f.fs.take j) ++ (lineF ⟨gk, gn, gf, gt⟩ ++ [10]) := by
              rw [take_succ_getD _ zf j hjl, ← hg]; simp [textF]
            rw [HJ.out.1, ← hLN, e0]
            generalize text (l.take k) ++ (heading f.id ++ [10]) = A
            generalize textF (f.fs.take j) = T
            generalize lineF ⟨gk, gn, gf, gt⟩ = L
            show (bs (A ++ T) ++ bs L) ++ bs [10] = _
            rw [bs_append (A ++ T) L, bs_append (A ++ T ++ L) [10]]
            simp only [List.append_assoc])
          have HBJ := Lib.hid HJ.out.2
          unfold maxLen at m2
          clear hfl hg hgN hLN HJ
          go_wp2_with fail
          refine HLI.out.mono ?_
          rintro e w3 ⟨rfl, hb3⟩
          have HB3 := Lib.hid (HBJ.out.trans (hb3.mono HBJ.out.size))
          clear hb3
          go_wp2_with fail
          exact ⟨⟨j + 1, _, by omega, by go_num, rfl, Lib.hid ⟨HX.out, HB3.out⟩⟩, by simp [intOf]; omega⟩
        · obtain rfl : j = m := by omega
          have HZ : Hid (Z = bs (text (l.take (k + 1)))) := Lib.hid (by
            have e0 : text (l.take (k + 1)) = text (l.take k) ++ (heading f.id ++ [10]) ++ textF f.fs := by
              rw [take_succ_getD _ zm k hkl, ← HF.out.1]; simp [text, textM]
            rw [HJ.out.1, e0, HF.out.2.1, List.take_length])
          have HBJ := Lib.hid HJ.out.2
          clear HJ
          go_wp2_with fail
          exact ⟨⟨k + 1, _, by omega, by go_num, rfl, Lib.hid ⟨HZ.out, HBJ.out⟩⟩, by simp [intOf]; omega⟩
    · obtain rfl : k = n := by omega
      have HE : Hid (O = bs (text l)) := Lib.hid (by rw [HI.out.1, HN.out, List.take_length])
      go_wp2_with fail
      go_ret2
      exact ⟨by rw [HE.out]; rfl, HI.out.2⟩
set_option maxHeartbeats 1000000 in
theorem rPrint_any (v : Value) (l : List Fm) (S : ByteArray) (z : Int) (w : World) (hV : FmsAt (· < w.heap.size) w v l) (hI : IntsL l) (hl : l.length ≤ 1000) (hS : printT l = S) (hz : printE l = z) :
    Calls Tryz.prog 25 #[v] w fun e w' => e = .returned (.tuple #[.string S, .int .i64 z]) ∧ Below w.heap.size w w' := by
  unfold printT at hS
  unfold printE at hz
  cases hv : vd l with
  | true =>
    rw [hv] at hS hz
    simp only [if_true] at hS hz
    subst hS; subst hz
    exact rPrint_ok v l w hV hI hv
  | false =>
    rw [hv] at hS hz
    simp only [Bool.false_eq_true, if_false] at hS hz
    subst hS; subst hz
    have HVA := Lib.hid (rValid_any v l false w hV hI hl hv)
    clear hV hI hv
    go_enter Tryz.func25, Tryz.ntmps25
    go_wp2_with fail
    refine HVA.out.mono ?_
    rintro e w1 ⟨rfl, hB⟩
    have HB1 := Lib.hid hB
    clear hB
    go_wp2_with fail
    go_ret2
    exact ⟨rfl, HB1.out⟩
end RefS
end Go.Proofs.YtcnokccgdiodlaaGreatDoor
