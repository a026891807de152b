/- The reference's Digits. Condition: a number of at most 1000000000 in size. -/
import Derived.Test.YtphphamfejgdaaaGreatDoorRatRefB
import Derived.Laws.IdiomStrings
namespace Go.Proofs.YtphphamfejgdaaaGreatDoor
open Go.RowKit

/-- The last digit, as it is reckoned. -/
def lastB (v : Nat) : UInt8 := UInt8.ofNat (48 + v % 10)
theorem lastB_nat (v : Nat) : (lastB v).toNat = 48 + v % 10 := Rt.dig_nat _ (by omega)
theorem dec_step (v : Nat) : Lib.decDigits v = (if v / 10 = 0 then [] else Lib.decDigits (v / 10)) ++ [lastB v] := by
  by_cases h : v < 10
  · rw [Rt.dec_small h, if_pos (by omega), List.nil_append, lastB, Nat.mod_eq_of_lt h]
  · rw [Rt.dec_big h, if_neg (by omega), lastB]
theorem byte1 (c : Int) (b : UInt8) (hb : (b.toNat : Int) = c) (W : World) (g : Nat) (h : W.cell? ⟨g, 0, none⟩ = some (.int .u8 c)) :
    (convert 86 9 (.slice (some ⟨g, 0, none⟩) 1 1)).run Tryz.prog W = .ok (.string ⟨#[b]⟩) W := by
  have := run_convert_bytes_back (P := Tryz.prog) W 86 9 5 ⟨g, 0, none⟩ 1 [b] Tryz.underlying86 Tryz.underlying5 Tryz.underlying9 (fun j hj => by
    have hj' : j = 0 := by simpa using hj
    subst hj'
    rw [show (⟨g, 0, none⟩ : Addr).add 0 = ⟨g, 0, none⟩ by simp [Addr.add], h, ← hb]
    rfl)
  exact this
theorem cat_pos (b : UInt8) (o : ByteArray) : 1 ≤ (⟨#[b]⟩ ++ o : ByteArray).size := by
  have h : (⟨#[b]⟩ ++ o : ByteArray).size = (⟨#[b]⟩ : ByteArray).size + o.size := by simp
  have h2 : (⟨#[b]⟩ : ByteArray).size = 1 := rfl
  omega
/-- The measure of the loop. -/
def digM (n acc : Value) : Nat := (intOf n).toNat + (match acc with | .string o => if o.size = 0 then 1 else 0 | _ => 0)
theorem digM_cat (v : Nat) (b : UInt8) (o : ByteArray) : digM (.int .i64 v) (.string (⟨#[b]⟩ ++ o)) = v := by
  have h := cat_pos b o
  unfold digM
  simp only [intOf]
  rw [if_neg (by omega)]
  simp
theorem digM_empty (v : Nat) : digM (.int .i64 v) (.string ⟨#[]⟩) = v + 1 := by
  unfold digM
  simp only [intOf]
  rw [if_pos (show (⟨#[]⟩ : ByteArray).size = 0 from rfl)]
  simp
theorem digM_ge (v : Nat) (o : ByteArray) : v ≤ digM (.int .i64 v) (.string o) := by
  unfold digM
  simp only [intOf, Int.toNat_natCast]
  omega
/-- What the loop of Digits keeps. -/
def digRel (u v : Nat) (o : ByteArray) : Prop := (o = ⟨#[]⟩ ∧ v = u) ∨ (1 ≤ o.size ∧ o.size ≤ 11 ∧ Lib.decDigits u = (if v = 0 then [] else Lib.decDigits v) ++ o.data.toList)
theorem digRel_step {u v : Nat} {o : ByteArray} (hu : u ≤ 1000000000) (h : digRel u v o) (hv : o = ⟨#[]⟩ ∨ 0 < v) : digRel u (v / 10) (⟨#[lastB v]⟩ ++ o) := by
  have key : Lib.decDigits u = (if v / 10 = 0 then [] else Lib.decDigits (v / 10)) ++ (⟨#[lastB v]⟩ ++ o : ByteArray).data.toList := by
    rcases h with ⟨rfl, rfl⟩ | ⟨h1, h2, h3⟩
    · rw [dec_step v]; simp
    · have hv0 : ¬ v = 0 := by
        rcases hv with rfl | hv
        · exact absurd h1 (by decide)
        · omega
      rw [if_neg hv0, dec_step v] at h3
      rw [h3]; simp
  have hl := Rt.dec_len u hu
  rw [key] at hl
  simp only [List.length_append, Array.length_toList] at hl
  refine .inr ⟨cat_pos _ _, ?_, key⟩
  show (⟨#[lastB v]⟩ ++ o : ByteArray).data.size ≤ 11
  omega

set_option maxRecDepth 20000 in
set_option maxHeartbeats 1000000 in
theorem rdig_nat (u : Nat) (S : ByteArray) (w : World) (hu : u ≤ 1000000000) (hS : (⟨(Lib.decDigits u).toArray⟩ : ByteArray) = S) :
    Calls Tryz.prog 68 #[.int .i64 u] w fun e w' => e = .returned (.string S) ∧ Below w.heap.size w w' := by
  have HS := Lib.hid hS
  have HU := Lib.hid hu
  have u0 : ¬ (u : Int) < 0 := by omega
  clear hS hu
  go_enter Tryz.func68, Tryz.ntmps68
  go_wp2
  go_loopw [0, 3] (fun n acc wr => ∃ (v : Nat) (o : ByteArray), n = .int .i64 v ∧ acc = .string o ∧ Hid (v ≤ 1000000000) ∧ Hid (digRel u v o) ∧ Hid (Below w.heap.size w wr)) (fun n acc _ => digM n acc)
  case atStart => exact ⟨u, ⟨#[]⟩, rfl, rfl, HU, Lib.hid (.inl ⟨rfl, rfl⟩), Lib.hid (Below.refl _ _)⟩
  case round =>
    obtain ⟨v, o, rfl, rfl, HV, HR, HB⟩ := hrel
    clear u0
    obtain ⟨k, hk⟩ : ∃ k : Int, (v : Int).tmod 10 = k := ⟨_, rfl⟩
    have hk2 : k = ((v % 10 : Nat) : Int) := by rw [← hk, Int.tmod_eq_emod_of_nonneg (by omega)]; omega
    obtain ⟨c, hc⟩ : ∃ c : Int, 48 + k = c := ⟨_, rfl⟩
    have hcb : ((lastB v).toNat : Int) = c := by rw [lastB_nat]; omega
    have c0 : 48 ≤ c := by omega
    have c1 : c ≤ 57 := by omega
    have wc : IntKind.u8.wrap c = c := by show c % 256 = _; omega
    have hq : (v : Int).tdiv 10 = ((v / 10 : Nat) : Int) := by rw [Int.tdiv_eq_ediv_of_nonneg (by omega)]; omega
    obtain ⟨v2, hv2⟩ : ∃ v2 : Nat, v / 10 = v2 := ⟨_, rfl⟩
    rw [hv2] at hq
    have wv : wrap64 (v2 : Int) = (v2 : Int) := by have := HV.out; unfold wrap64; omega
    have hcv := fun (W0 : World) => byte1 c (lastB v) hcb (W0.alloc (.cells #[.int .u8 c] 5)) W0.heap.size (by simp [go_sem])
    obtain ⟨lb, hlb⟩ : ∃ lb, lastB v = lb := ⟨_, rfl⟩
    have HN : Hid ((o = ⟨#[]⟩ ∨ 0 < v) → digRel u v2 (⟨#[lb]⟩ ++ o)) := Lib.hid (fun h => by rw [← hlb, ← hv2]; exact digRel_step HU.out HR.out h)
    have HV2 := Lib.hid (And.intro hv2 HV.out)
    rw [hlb] at hcv
    clear hk2 hcb hv2 hlb
    by_cases ho : o = ⟨#[]⟩
    · subst ho
      go_wp2_with fail
      go_roundw
      case rel => exact ⟨v2, _, by rw [wv], rfl, Lib.hid (by have := HV2.out; omega), Lib.hid (HN.out (.inl rfl)), Lib.hid (HB.out.alloc HB.out.size _)⟩
      case measure => rw [wv, digM_cat, digM_empty]; have := HV2.out; omega
    · have hbn : ¬ o.toList = [] := fun h => ho (Go.WideShapes.bytes_inj (by rw [← ByteArray.toList_eq, h]))
      have hbi : o.toList.isEmpty = false := by rw [List.isEmpty_eq_false_iff]; exact hbn
      have hsz : 1 ≤ o.size ∧ o.size ≤ 11 := by
        rcases HR.out with ⟨h, _⟩ | ⟨h1, h2, _⟩
        · exact absurd h ho
        · exact ⟨h1, h2⟩
      have hs1 : ¬ 9223372036854775807 < 1 + o.size := by omega
      by_cases hv0 : 0 < v
      · have hvi : 0 < (v : Int) := by omega
        go_wp2_with fail
        go_roundw
        case rel => exact ⟨v2, _, by rw [wv], rfl, Lib.hid (by have := HV2.out; omega), Lib.hid (HN.out (.inr hv0)), Lib.hid (HB.out.alloc HB.out.size _)⟩
        case measure => rw [wv, digM_cat]; have := HV2.out; have := digM_ge v o; omega
      · obtain rfl : v = 0 := by omega
        have HO : Hid (o = S) := Lib.hid (by
          rcases HR.out with ⟨h, _⟩ | ⟨_, _, h3⟩
          · exact absurd h ho
          · rw [if_pos rfl, List.nil_append] at h3
            rw [← HS.out, h3])
        clear hk hc wc hq wv hcv hv0
        go_wp2_with fail
        go_ret
        exact ⟨by rw [HO.out]; rfl, HB.out⟩

set_option maxRecDepth 20000 in
set_option maxHeartbeats 1000000 in
theorem rdigits_any (n : Int) (S : ByteArray) (w : World) (h1 : -1000000000 ≤ n) (h2 : n ≤ 1000000000) (hS : (⟨(Lib.itoa n).toArray⟩ : ByteArray) = S) :
    Calls Tryz.prog 68 #[.int .i64 n] w fun e w' => e = .returned (.string S) ∧ Below w.heap.size w w' := by
  by_cases hn : n < 0
  · obtain ⟨u, hu⟩ : ∃ u : Nat, -n = (u : Int) := ⟨n.natAbs, by omega⟩
    have hub : u ≤ 1000000000 := by omega
    obtain ⟨T, hT⟩ : ∃ T : ByteArray, ⟨(Lib.decDigits u).toArray⟩ = T := ⟨_, rfl⟩
    have hTs : T.size ≤ 10 := by rw [← hT]; exact Rt.dec_len u hub
    have HS : Hid (⟨#[45]⟩ ++ T = S) := Lib.hid (by
      rw [← hS, ← hT]
      unfold Lib.itoa
      rw [if_pos hn, show n.natAbs = u by omega, ByteArray.ext_iff]
      simp)
    have HT := Lib.hid (And.intro hub hT)
    have s1 : ¬ 9223372036854775807 < 1 + T.size := by omega
    clear hS hT hub hTs
    go_enter Tryz.func68, Tryz.ntmps68
    go_wp2_with fail
    refine (rdig_nat u T _ HT.out.1 HT.out.2).mono ?_
    rintro e w2 ⟨rfl, hB⟩
    go_wp2_with fail
    go_ret
    exact ⟨by rw [← HS.out]; rfl, hB⟩
  · obtain ⟨u, rfl⟩ : ∃ u : Nat, n = (u : Int) := ⟨n.toNat, by omega⟩
    exact rdig_nat u S w (by omega) (by rw [← hS]; unfold Lib.itoa; rw [if_neg hn, Int.toNat_natCast])
end Go.Proofs.YtphphamfejgdaaaGreatDoor
