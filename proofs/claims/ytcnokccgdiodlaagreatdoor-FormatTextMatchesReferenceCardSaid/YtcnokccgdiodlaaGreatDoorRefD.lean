/- The reference's tables. Conditions: the formats are readable; their numbers are ints. -/
import Derived.Test.YtcnokccgdiodlaaGreatDoorRefC
namespace Go.Proofs.YtcnokccgdiodlaaGreatDoor
open Go.RowKit Go.Shelf Fx Go.Sort

/-- What the reference asks of a format of a list. -/
structure St1 (l : List Fm) (i : Nat) : Prop where
  lo : 1 ≤ (l.getD i zm).id
  hi : (l.getD i zm).id ≤ 1000000
  asc : 0 < i → (l.getD (i - 1) zm).id < (l.getD i zm).id
  few : (l.getD i zm).fs.length ≤ 16
  some_ : (l.getD i zm).fs.length = 0 → ¬ i + 1 < l.length
  each : ∀ k, k < (l.getD i zm).fs.length → Fx.right (lm (l.take i)) ((l.getD i zm).fs.take k) ((l.getD i zm).fs.getD k zf) = true
  len : ls (lm (l.take i)) (l.getD i zm).fs ≤ 65536
theorem St1.fmOk {l : List Fm} {i : Nat} (h : St1 l i) (hs : 1 ≤ (l.getD i zm).fs.length) : FmOk (l.take i) (l.getD i zm) := ⟨h.lo, h.hi, hs, h.few, h.each, h.len⟩
theorem ok_of_st1 {l : List Fm} {j : Nat} (hl : l.length ≤ 60) (hj : j ≤ l.length) (h : ∀ i, i < j → St1 l i) (hs : ∀ i, i < j → 1 ≤ (l.getD i zm).fs.length) : Ok (l.take j) := by
  have hlen : (l.take j).length = j := by rw [List.length_take]; omega
  refine ⟨by omega, fun i hi => ?_, fun i hi => ?_⟩
  · rw [hlen] at hi
    have h1 := (h (i + 1) hi).asc (by omega)
    rw [getD_take (by omega), getD_take hi]
    simpa using h1
  · rw [hlen] at hi
    rw [getD_take hi, List.take_take, Nat.min_eq_left (by omega)]
    exact (h i hi).fmOk (hs i hi)
theorem ok_st1 {l : List Fm} (h : Ok l) {i : Nat} (hi : i < l.length) : St1 l i := by
  have hf := h.each i hi
  refine ⟨hf.lo, hf.hi, fun h0 => ?_, hf.few, fun h0 => by have := hf.some_; omega, hf.each, hf.len⟩
  have := h.asc (i - 1) (by omega)
  rwa [show i - 1 + 1 = i by omega] at this
/-- Whether the formats of a list are as the reference asks. -/
def Bg (l : List Fm) : Prop := l.length ≤ 60 ∧ ∀ i, i < l.length → St1 l i
theorem ok_bg {l : List Fm} : Ok l ↔ Bg l ∧ (l.length = 0 ∨ 1 ≤ (l.getD (l.length - 1) zm).fs.length) := by
  constructor
  · intro h
    refine ⟨⟨h.few, fun i hi => ok_st1 h hi⟩, ?_⟩
    rcases Nat.eq_zero_or_pos l.length with h0 | h0
    · exact .inl h0
    · exact .inr (h.each _ (by omega)).some_
  · rintro ⟨⟨h1, h2⟩, h3⟩
    have e : l.take l.length = l := List.take_length ..
    rw [← e]
    refine ok_of_st1 h1 (Nat.le_refl _) h2 fun i hi => ?_
    rcases Nat.lt_or_ge (i + 1) l.length with h | h
    · rcases Nat.eq_zero_or_pos (l.getD i zm).fs.length with h0 | h0
      · exact absurd h ((h2 i hi).some_ h0)
      · exact h0
    · rcases h3 with h3 | h3
      · omega
      · rwa [show l.length - 1 = i by omega] at h3
theorem bg_take {l : List Fm} {j : Nat} (hl : l.length ≤ 60) (hj : j < l.length) (h : ∀ i, i < j → St1 l i) : Ok (l.take j) :=
  ok_of_st1 hl (by omega) h fun i hi => by
    rcases Nat.eq_zero_or_pos (l.getD i zm).fs.length with h0 | h0
    · exact absurd (show i + 1 < l.length by omega) ((h i hi).some_ h0)
    · exact h0
/-- What the first look at a format asks. -/
def bad1 (l : List Fm) (i : Nat) : Bool :=
  !withinB (l.getD i zm).id 1 1000000 || (decide (0 < i) && decide ((l.getD (i - 1) zm).id ≥ (l.getD i zm).id) || (decide ((l.getD i zm).fs.length > 16) || (decide ((l.getD i zm).fs.length = 0) && decide (i + 1 < l.length))))
theorem bad1_false {l : List Fm} {i : Nat} (h : bad1 l i = false) : 1 ≤ (l.getD i zm).id ∧ (l.getD i zm).id ≤ 1000000 ∧ (0 < i → (l.getD (i - 1) zm).id < (l.getD i zm).id) ∧ (l.getD i zm).fs.length ≤ 16 ∧ ((l.getD i zm).fs.length = 0 → ¬ i + 1 < l.length) := by
  unfold bad1 withinB at h
  simp only [Bool.or_eq_false_iff, Bool.not_eq_false', Bool.and_eq_true, Bool.and_eq_false_iff, decide_eq_true_eq, decide_eq_false_iff_not] at h
  obtain ⟨⟨h1, h2⟩, h3, h4, h5⟩ := h
  refine ⟨h1, h2, fun h0 => ?_, by omega, fun h0 => ?_⟩
  · rcases h3 with h3 | h3
    · exact absurd h0 h3
    · omega
  · rcases h5 with h5 | h5
    · exact absurd h0 h5
    · exact h5
theorem bad1_true {l : List Fm} {i : Nat} (h : bad1 l i = true) : ¬ St1 l i := fun hs => by
  have : bad1 l i = false := by
    unfold bad1 withinB
    rw [decide_eq_true hs.lo, decide_eq_true hs.hi, decide_eq_false (p := (l.getD i zm).fs.length > 16) (by have := hs.few; omega)]
    have h2 : (decide (0 < i) && decide ((l.getD (i - 1) zm).id ≥ (l.getD i zm).id)) = false := by
      rw [Bool.and_eq_false_iff]
      by_cases h0 : 0 < i
      · right; exact decide_eq_false (by have := hs.asc h0; omega)
      · left; exact decide_eq_false h0
    have h3 : (decide ((l.getD i zm).fs.length = 0) && decide (i + 1 < l.length)) = false := by
      rw [Bool.and_eq_false_iff]
      by_cases h0 : (l.getD i zm).fs.length = 0
      · right; exact decide_eq_false (hs.some_ h0)
      · left; exact decide_eq_false h0
    rw [h2, h3]; rfl
  rw [h] at this; cases this
set_option maxHeartbeats 2000000 in
set_option maxRecDepth 100000 in
theorem rbegins_any (v : Value) (l : List Fm) (B : Bool) (w : World) (hB : B = true ↔ Bg l) (hV : FmsAt (· < w.heap.size) w v l) (hI : IntsL l) (hl : l.length ≤ 1000) :
    Calls Tryz.prog 36 #[v] w fun e w' => e = .returned (.bool B) ∧ Below w.heap.size w w' := by
  obtain ⟨a, c, rfl, hlc⟩ := hV.slice_
  obtain ⟨n, hn⟩ : ∃ n, n = l.length := ⟨_, rfl⟩
  rw [← hn] at hV hlc hl ⊢
  have HV := Lib.hid (And.intro hV (And.intro hn hI))
  have HBG := Lib.hid hB
  clear hV hn hI hB
  by_cases h60 : n ≤ 60
  · go_enter Tryz.func36, Tryz.ntmps36
    go_wp2_with fail
    go_loopw [3] (fun i wr => ∃ k : Nat, k ≤ n ∧ i = .int .i64 k ∧ Hid (Below w.heap.size w wr ∧ ∀ x, x < k → St1 l x)) (fun i _ => n - (intOf i).toNat)
    case atStart => exact ⟨0, Nat.zero_le _, rfl, Lib.hid ⟨Below.refl _ _, fun x hx => absurd hx (by omega)⟩⟩
    case round =>
      obtain ⟨i, hi, rfl, HJ⟩ := hrel
      obtain ⟨wo, rfl⟩ : ∃ wo : World, wo = wr := ⟨_, rfl⟩
      by_cases hin : i < n
      · have hil : i < l.length := by have := HV.out.2.1; omega
        obtain ⟨b, off, rfl, -, hbl, -, m1, m2, hfm⟩ := HV.out.1.at_ (by omega)
        obtain ⟨u, hu⟩ := hfm i hil
        have hK : Kept (· < w.heap.size) w wo := Kept.of_below HJ.out.1 fun _ h => h
        have hu' := hu.kept hK hbl
        obtain ⟨ua, uc, rfl, hucl⟩ := hu'.fs.slice_
        obtain ⟨f, hf⟩ : ∃ f, f = l.getD i zm := ⟨_, rfl⟩
        rw [← hf] at hu hu' hucl
        obtain ⟨m, hm⟩ : ∃ m, m = f.fs.length := ⟨_, rfl⟩
        rw [← hm] at hu hu' hucl
        have c0 := hu'.c0
        have c1 := hu'.c1
        have lb := World.block_lt_of_cell? (h := c0)
        obtain ⟨u1, hu1⟩ := hfm (i - 1) (by omega)
        have p0 := (hu1.kept hK hbl).c0
        obtain ⟨g, hg⟩ : ∃ g, g = (l.getD (i - 1) zm).id := ⟨_, rfl⟩
        rw [← hg] at p0
        obtain ⟨X, hX⟩ : ∃ X, X = bad1 l i := ⟨_, rfl⟩
        have HF := Lib.hid (And.intro hf (And.intro hm (And.intro hg (And.intro hX hu))))
        have hXf : X = (!withinB f.id 1 1000000 || (decide (0 < i) && decide (g ≥ f.id) || (decide (m > 16) || (decide (m = 0) && decide (i + 1 < n))))) := by
          rw [hX, bad1, ← hf, ← hg, ← hm, HV.out.2.1]
        have hmx : m ≤ 9223372036854775807 := by unfold maxLen at hucl; omega
        unfold maxLen at m2
        clear hf hm hg hX hu hu' hu1 hK hfm hucl
        go_upto_region 6 with fail
        go_cut [64] from 15 to 64 (fun vc wx => vc = .bool X ∧ Below w.heap.size w wx)
        case first =>
          have HB0 := Lib.hid HJ.out.1.size
          obtain ⟨Wv, hWv⟩ : ∃ Wv, Wv = withinB f.id 1 1000000 := ⟨_, rfl⟩
          have HWI : Hid (∀ w', Calls Tryz.prog 58 #[.int .i64 f.id, .int .i64 1, .int .i64 1000000] w' fun e w2 => e = .returned (.bool Wv) ∧ Below w'.heap.size w' w2) := Lib.hid fun w' => (rwithin_any f.id 1 1000000 Wv w' hWv.symm).mono fun e w2 ⟨h1, h2⟩ => ⟨h1, h2 ▸ Below.refl _ _⟩
          rw [← hWv] at hXf
          clear hWv
          have g0 := fun d os => cell_regrown c0 d os
          have g1 := fun d os => cell_regrown c1 d os
          clear c0 c1
          cases Wv with
          | false =>
            have HXV : Hid (X = true) := Lib.hid (by rw [hXf]; rfl)
            clear hXf p0
            refine wp_region_quiet_below (by kernel_rfl) (by kernel_rfl) ?_
            repeat (first | go_big_quiet_step (first | (go_at_call 58; exact Calls.regrown_of (HWI.out _))) | quiet_step (first | (go_at_call 58; exact Calls.regrown_of (HWI.out _))))
            refine wpQuiet_nil ?_
            intro _ hw'
            obtain ⟨⟨dq, osq⟩, hw''⟩ := hw'
            subst hw''
            go_wp2
            go_meet
            case rel => exact ⟨by rw [HXV.out], HJ.out.1.trans ((below_regrown _ _ _).mono HJ.out.1.size)⟩
          | true =>
            rcases Nat.eq_zero_or_pos i with hzero | hpos
            · have zz : (decide (0 < i) && decide (g ≥ f.id)) = false := by rw [decide_eq_false (p := 0 < i) (by omega)]; rfl
              have hi0 : ¬ (0 : Int) < (i : Int) := by omega
              have hi0n : ¬ 0 < i := by omega
              clear hzero
              clear p0
              by_cases m16 : (16 : Int) < m
              · have HXV : Hid (X = true) := Lib.hid (by rw [hXf, decide_eq_true (p := m > 16) (by omega)]; simp)
                clear hXf
                refine wp_region_quiet_below (by kernel_rfl) (by kernel_rfl) ?_
                repeat (first | go_big_quiet_step (first | (go_at_call 58; exact Calls.regrown_of (HWI.out _))) | quiet_step (first | (go_at_call 58; exact Calls.regrown_of (HWI.out _))))
                refine wpQuiet_nil ?_
                intro _ hw'
                obtain ⟨⟨dq, osq⟩, hw''⟩ := hw'
                subst hw''
                go_wp2
                go_meet
                case rel => exact ⟨by rw [HXV.out], HJ.out.1.trans ((below_regrown _ _ _).mono HJ.out.1.size)⟩
              · by_cases m0 : m = 0
                · subst m0
                  by_cases hin1 : (i : Int) < (n : Int) - 1
                  · have HXV : Hid (X = true) := Lib.hid (by rw [hXf, decide_eq_true (p := i + 1 < n) (by omega)]; simp)
                    clear hXf
                    refine wp_region_quiet_below (by kernel_rfl) (by kernel_rfl) ?_
                    repeat (first | go_big_quiet_step (first | (go_at_call 58; exact Calls.regrown_of (HWI.out _))) | quiet_step (first | (go_at_call 58; exact Calls.regrown_of (HWI.out _))))
                    refine wpQuiet_nil ?_
                    intro _ hw'
                    obtain ⟨⟨dq, osq⟩, hw''⟩ := hw'
                    subst hw''
                    go_wp2
                    go_meet
                    case rel => exact ⟨by rw [HXV.out], HJ.out.1.trans ((below_regrown _ _ _).mono HJ.out.1.size)⟩
                  · have HXV : Hid (X = false) := Lib.hid (by rw [hXf, decide_eq_false (p := i + 1 < n) (by omega), zz]; rfl)
                    clear hXf
                    refine wp_region_quiet_below (by kernel_rfl) (by kernel_rfl) ?_
                    repeat (first | go_big_quiet_step (first | (go_at_call 58; exact Calls.regrown_of (HWI.out _))) | quiet_step (first | (go_at_call 58; exact Calls.regrown_of (HWI.out _))))
                    refine wpQuiet_nil ?_
                    intro _ hw'
                    obtain ⟨⟨dq, osq⟩, hw''⟩ := hw'
                    subst hw''
                    go_wp2
                    go_meet
                    case rel => exact ⟨by rw [HXV.out], HJ.out.1.trans ((below_regrown _ _ _).mono HJ.out.1.size)⟩
                · have d0 : ((m : Int) == 0) = false := by rw [beq_eq_false_iff_ne]; omega
                  have HXV : Hid (X = false) := Lib.hid (by rw [hXf, decide_eq_false (p := m > 16) (by omega), decide_eq_false m0, zz]; rfl)
                  clear hXf m0
                  refine wp_region_quiet_below (by kernel_rfl) (by kernel_rfl) ?_
                  repeat (first | go_big_quiet_step (first | (go_at_call 58; exact Calls.regrown_of (HWI.out _))) | quiet_step (first | (go_at_call 58; exact Calls.regrown_of (HWI.out _))))
                  refine wpQuiet_nil ?_
                  intro _ hw'
                  obtain ⟨⟨dq, osq⟩, hw''⟩ := hw'
                  subst hw''
                  go_wp2
                  go_meet
                  case rel => exact ⟨by rw [HXV.out], HJ.out.1.trans ((below_regrown _ _ _).mono HJ.out.1.size)⟩
            · obtain ⟨i0, rfl⟩ : ∃ i0, i = i0 + 1 := ⟨i - 1, by omega⟩
              rw [show i0 + 1 - 1 = i0 by omega] at p0
              have g2 := fun d os => cell_regrown p0 d os
              have hi0 : (0 : Int) < (i0 : Int) + 1 := by omega
              have hi1 : (i0 : Int) + 1 - 1 = i0 := by omega
              clear p0
              by_cases hge : f.id ≤ g
              · have HXV : Hid (X = true) := Lib.hid (by rw [hXf, decide_eq_true (p := 0 < i0 + 1) (by omega), decide_eq_true (p := g ≥ f.id) hge]; rfl)
                clear hXf
                refine wp_region_quiet_below (by kernel_rfl) (by kernel_rfl) ?_
                repeat (first | go_big_quiet_step (first | (go_at_call 58; exact Calls.regrown_of (HWI.out _))) | quiet_step (first | (go_at_call 58; exact Calls.regrown_of (HWI.out _))))
                refine wpQuiet_nil ?_
                intro _ hw'
                obtain ⟨⟨dq, osq⟩, hw''⟩ := hw'
                subst hw''
                go_wp2
                go_meet
                case rel => exact ⟨by rw [HXV.out], HJ.out.1.trans ((below_regrown _ _ _).mono HJ.out.1.size)⟩
              · have zz : (decide (0 < i0 + 1) && decide (g ≥ f.id)) = false := by rw [decide_eq_false (p := g ≥ f.id) hge]; simp
                by_cases m16 : (16 : Int) < m
                · have HXV : Hid (X = true) := Lib.hid (by rw [hXf, decide_eq_true (p := m > 16) (by omega)]; simp)
                  clear hXf
                  refine wp_region_quiet_below (by kernel_rfl) (by kernel_rfl) ?_
                  repeat (first | go_big_quiet_step (first | (go_at_call 58; exact Calls.regrown_of (HWI.out _))) | quiet_step (first | (go_at_call 58; exact Calls.regrown_of (HWI.out _))))
                  refine wpQuiet_nil ?_
                  intro _ hw'
                  obtain ⟨⟨dq, osq⟩, hw''⟩ := hw'
                  subst hw''
                  go_wp2
                  go_meet
                  case rel => exact ⟨by rw [HXV.out], HJ.out.1.trans ((below_regrown _ _ _).mono HJ.out.1.size)⟩
                · by_cases m0 : m = 0
                  · subst m0
                    by_cases hin1 : ((i0 : Int) + 1) < (n : Int) - 1
                    · have HXV : Hid (X = true) := Lib.hid (by rw [hXf, decide_eq_true (p := i0 + 1 + 1 < n) (by omega)]; simp)
                      clear hXf
                      refine wp_region_quiet_below (by kernel_rfl) (by kernel_rfl) ?_
                      repeat (first | go_big_quiet_step (first | (go_at_call 58; exact Calls.regrown_of (HWI.out _))) | quiet_step (first | (go_at_call 58; exact Calls.regrown_of (HWI.out _))))
                      refine wpQuiet_nil ?_
                      intro _ hw'
                      obtain ⟨⟨dq, osq⟩, hw''⟩ := hw'
                      subst hw''
                      go_wp2
                      go_meet
                      case rel => exact ⟨by rw [HXV.out], HJ.out.1.trans ((below_regrown _ _ _).mono HJ.out.1.size)⟩
                    · have HXV : Hid (X = false) := Lib.hid (by rw [hXf, decide_eq_false (p := i0 + 1 + 1 < n) (by omega), zz]; rfl)
                      clear hXf
                      refine wp_region_quiet_below (by kernel_rfl) (by kernel_rfl) ?_
                      repeat (first | go_big_quiet_step (first | (go_at_call 58; exact Calls.regrown_of (HWI.out _))) | quiet_step (first | (go_at_call 58; exact Calls.regrown_of (HWI.out _))))
                      refine wpQuiet_nil ?_
                      intro _ hw'
                      obtain ⟨⟨dq, osq⟩, hw''⟩ := hw'
                      subst hw''
                      go_wp2
                      go_meet
                      case rel => exact ⟨by rw [HXV.out], HJ.out.1.trans ((below_regrown _ _ _).mono HJ.out.1.size)⟩
                  · have d0 : ((m : Int) == 0) = false := by rw [beq_eq_false_iff_ne]; omega
                    have HXV : Hid (X = false) := Lib.hid (by rw [hXf, decide_eq_false (p := m > 16) (by omega), decide_eq_false m0, zz]; rfl)
                    clear hXf m0
                    refine wp_region_quiet_below (by kernel_rfl) (by kernel_rfl) ?_
                    repeat (first | go_big_quiet_step (first | (go_at_call 58; exact Calls.regrown_of (HWI.out _))) | quiet_step (first | (go_at_call 58; exact Calls.regrown_of (HWI.out _))))
                    refine wpQuiet_nil ?_
                    intro _ hw'
                    obtain ⟨⟨dq, osq⟩, hw''⟩ := hw'
                    subst hw''
                    go_wp2
                    go_meet
                    case rel => exact ⟨by rw [HXV.out], HJ.out.1.trans ((below_regrown _ _ _).mono HJ.out.1.size)⟩
        case rest =>
          obtain ⟨rfl, hbc⟩ := hcut
          have HC := Lib.hid (And.intro hbc HJ.out.2)
          clear HJ c0 c1 p0 hXf hbc
          cases X with
          | true =>
            have HB : Hid (¬ Bg l) := Lib.hid fun h => bad1_true HF.out.2.2.2.1.symm (h.2 i hil)
            go_wp2_with fail
            go_ret
            exact ⟨by rw [show B = false from by cases B with | false => rfl | true => exact absurd (HBG.out.1 rfl) HB.out]; rfl, HC.out.1⟩
          | false =>
            have HG := Lib.hid (bad1_false HF.out.2.2.2.1.symm)
            have HOK : Hid (Ok (l.take i)) := Lib.hid (bg_take (by have := HV.out.2.1; omega) hil HC.out.2)
            have HTK : Hid (l.take (i + 1) = l.take i ++ [f]) := Lib.hid (by rw [take_succ_getD _ zm i hil, ← HF.out.1])
            have hi1 : (i : Int) + 1 ≤ n := by omega
            go_wp2_with fail
            go_loopw [4] (fun q wr => ∃ j : Nat, j ≤ m ∧ q = .int .i64 j ∧ Hid (Below w.heap.size w wr ∧ ∀ x, x < j → Fx.right (lm (l.take i)) (f.fs.take x) (f.fs.getD x zf) = true)) (fun q _ => m - (intOf q).toNat)
            case atStart => exact ⟨0, Nat.zero_le _, rfl, Lib.hid ⟨HC.out.1, fun x hx => absurd hx (by omega)⟩⟩
            case round =>
              obtain ⟨j, hj, rfl, HT⟩ := hrel
              have hK : Kept (· < w.heap.size) w wr := Kept.of_below HT.out.1 fun _ h => h
              have c1 := (HF.out.2.2.2.2.kept hK hbl).c1
              have lb2 := World.block_lt_of_cell? (h := c1)
              have hV2 : FmsAt (· < wr.heap.size) wr (.slice (some ⟨b, off, none⟩) (i + 1) c) (l.take i ++ [f]) := by
                have h1 := FmsAt.take (k := i + 1) HV.out.1 (by omega)
                rw [HTK.out] at h1
                exact (h1.kept hK).mono fun g hg => Nat.lt_of_lt_of_le hg HT.out.1.size
              by_cases hjm : j < m
              · obtain ⟨R, hR⟩ : ∃ R, Fx.right (lm (l.take i)) (f.fs.take j) (f.fs.getD j zf) = R := ⟨_, rfl⟩
                have HFI := Lib.hid (rfits_any (.slice (some ⟨b, off, none⟩) (i + 1) c) (l.take i) f j R wr hV2 HOK.out (by rw [HF.out.1]; exact HV.out.2.2 i hil) (by have := HF.out.2.1; omega) (by rw [List.length_take]; omega) HT.out.2 hR)
                have HR := Lib.hid hR
                clear hV2 hK hR
                go_wp2_with fail
                refine HFI.out.mono ?_
                rintro e w1 ⟨rfl, hb1⟩
                have HB1 := Lib.hid (HT.out.1.trans (hb1.mono HT.out.1.size))
                clear hb1 HFI
                cases R with
                | false =>
                  have HB : Hid (¬ Bg l) := Lib.hid fun h => by
                    have := (h.2 i hil).each j (by rw [← HF.out.1]; have := HF.out.2.1; omega)
                    rw [← HF.out.1, HR.out] at this
                    cases this
                  clear HT
                  go_wp2_with fail
                  go_ret
                  exact ⟨by rw [show B = false from by cases B with | false => rfl | true => exact absurd (HBG.out.1 rfl) HB.out]; rfl, HB1.out⟩
                | true =>
                  have HN : Hid (Below w.heap.size w w1 ∧ ∀ x, x < j + 1 → Fx.right (lm (l.take i)) (f.fs.take x) (f.fs.getD x zf) = true) := Lib.hid ⟨HB1.out, fun x hx => by
                    rcases Nat.lt_succ_iff_lt_or_eq.1 hx with h | rfl
                    · exact HT.out.2 x h
                    · exact HR.out⟩
                  clear HT
                  go_wp2_with fail
                  go_roundw
                  case rel => exact ⟨j + 1, by omega, by go_num, HN⟩
                  case measure => simp [intOf]; omega
              · obtain rfl : j = m := by omega
                have HLS := Lib.hid (leasts_any (.slice (some ⟨b, off, none⟩) (i + 1) c) (l.take i ++ [f]) wr hV2 (by simp; omega))
                have HTR := Lib.hid HT.out
                clear hV2 hK HT
                go_wp2_with fail
                refine HLS.out.mono ?_
                rintro e w1 ⟨⟨u, rfl, hown⟩, hb1⟩
                have hlt : (l.take i).length = i := by rw [List.length_take]; omega
                have hll : ((rls (l.take i ++ [f]) []).map (·.2)).length = i + 1 := by rw [List.length_map, rls_len]; simp; omega
                obtain ⟨qa, qc, rfl, hq0⟩ := hown.at_
                rw [hll] at hq0 ⊢
                rcases hq0 with hq0 | ⟨qb, rfl, -, lqb, hq1, hq2, hqat⟩
                · omega
                have p0 := hqat i (by omega)
                have hval : ((rls (l.take i ++ [f]) []).map (·.2)).getD i 0 = ls (lm (l.take i)) f.fs := by
                  have h1 := rls_last (d := l.take i) (f := f) HOK.out (by have := HG.out.2.2.2.1; rw [← HF.out.1] at this; omega) (fun k hk => HTR.out.2 k (by have := HF.out.2.1; omega))
                  rw [hlt] at h1
                  rw [← h1]
                  simp [List.getD]
                  cases (rls (l.take i ++ [f]) [])[i]? <;> rfl
                rw [hval] at p0
                obtain ⟨Z, hZ⟩ : ∃ Z, Z = ls (lm (l.take i)) f.fs := ⟨_, rfl⟩
                rw [← hZ] at p0
                have HZ := Lib.hid hZ
                have HB9 := Lib.hid (HTR.out.1.trans (hb1.mono HTR.out.1.size))
                unfold maxLen at hq2
                clear hown hval hZ hb1 hqat HLS
                by_cases hbig : 65536 < Z
                · have HB : Hid (¬ Bg l) := Lib.hid fun h => by
                    have := (h.2 i hil).len
                    rw [← HF.out.1, ← HZ.out] at this
                    omega
                  go_wp2_with fail
                  go_ret
                  exact ⟨by rw [show B = false from by cases B with | false => rfl | true => exact absurd (HBG.out.1 rfl) HB.out]; rfl, HB9.out⟩
                · have HN : Hid (Below w.heap.size w w1 ∧ ∀ x, x < i + 1 → St1 l x) := Lib.hid ⟨HB9.out, fun x hx => by
                    rcases Nat.lt_succ_iff_lt_or_eq.1 hx with h | rfl
                    · exact HC.out.2 x h
                    · obtain ⟨s1, s2, s3, s4, s5⟩ := HG.out
                      refine ⟨s1, s2, s3, s4, s5, fun k hk => ?_, ?_⟩
                      · rw [← HF.out.1] at hk ⊢
                        exact HTR.out.2 k (by have := HF.out.2.1; omega)
                      · rw [← HF.out.1, ← HZ.out]; omega⟩
                  clear HC HTR
                  go_wp2_with fail
                  go_roundw
                  case rel => exact ⟨i + 1, by omega, by go_num, HN⟩
                  case measure => simp [intOf]; omega
      · obtain rfl : i = n := by omega
        have HB : Hid (Bg l) := Lib.hid ⟨by have := HV.out.2.1; omega, fun x hx => HJ.out.2 x (by have := HV.out.2.1; omega)⟩
        have HB9 := Lib.hid HJ.out.1
        clear HJ
        go_wp2_with fail
        go_ret
        exact ⟨by rw [HBG.out.2 HB.out]; rfl, HB9.out⟩
  · have h6 : (60 : Int) < n := by omega
    have HB : Hid (¬ Bg l) := Lib.hid fun h => h60 (by rw [HV.out.2.1]; exact h.1)
    go_enter Tryz.func36, Tryz.ntmps36
    go_wp2_with fail
    go_ret
    exact ⟨by rw [show B = false from by cases B with | false => rfl | true => exact absurd (HBG.out.1 rfl) HB.out]; rfl, Below.refl _ _⟩
theorem rValid_any (v : Value) (l : List Fm) (q : Bool) (w : World) (hV : FmsAt (· < w.heap.size) w v l) (hI : IntsL l) (hl : l.length ≤ 1000) (hq : vd l = q) :
    Calls Tryz.prog 22 #[v] w fun e w' => e = .returned (.bool q) ∧ Below w.heap.size w w' := by
  obtain ⟨B, hB⟩ : ∃ B : Bool, (B = true ↔ Bg l) := ⟨@decide (Bg l) (Classical.propDecidable _), by simp⟩
  have HB := Lib.hid (And.intro (rbegins_any v l B w hB hV hI hl) hB)
  have hQ : q = (B && (decide (l.length = 0) || decide (1 ≤ (l.getD (l.length - 1) zm).fs.length))) := by
    rw [← hq, Bool.eq_iff_iff, vd_iff, ok_bg, Bool.and_eq_true, Bool.or_eq_true, decide_eq_true_eq, decide_eq_true_eq, hB]
  obtain ⟨a, c, rfl, hlc⟩ := hV.slice_
  obtain ⟨n, hn⟩ : ∃ n, n = l.length := ⟨_, rfl⟩
  rw [← hn] at hV hlc hl hQ HB ⊢
  have HV := Lib.hid (And.intro hV hn)
  clear hV hn hq hB hI
  cases B with
  | false =>
    have HQ : Hid (q = false) := Lib.hid (by rw [hQ]; rfl)
    clear hQ
    go_enter Tryz.func22, Tryz.ntmps22
    go_wp2_with fail
    refine HB.out.1.mono ?_
    rintro e w1 ⟨rfl, hb⟩
    have HB1 := Lib.hid hb
    clear hb
    go_wp2_with fail
    go_ret
    exact ⟨by rw [HQ.out]; rfl, HB1.out⟩
  | true =>
    by_cases h0 : n = 0
    · have HQ : Hid (q = true) := Lib.hid (by rw [hQ, decide_eq_true h0]; rfl)
      subst h0
      clear hQ
      go_enter Tryz.func22, Tryz.ntmps22
      go_wp2_with fail
      refine HB.out.1.mono ?_
      rintro e w1 ⟨rfl, hb⟩
      have HB1 := Lib.hid hb
      clear hb
      go_wp2_with fail
      go_ret
      exact ⟨by rw [HQ.out]; rfl, HB1.out⟩
    · obtain ⟨m, rfl⟩ : ∃ m, n = m + 1 := ⟨n - 1, by omega⟩
      obtain ⟨b, off, rfl, -, hbl, -, m1, m2, hfm⟩ := HV.out.1.at_ (by have := HV.out.2; omega)
      obtain ⟨u, hu⟩ := hfm m (by have := HV.out.2; omega)
      obtain ⟨ua, uc, rfl, hucl⟩ := hu.fs.slice_
      rw [show m + 1 - 1 = m by omega] at hQ
      obtain ⟨f, hf⟩ : ∃ f, f = l.getD m zm := ⟨_, rfl⟩
      rw [← hf] at hu hQ hucl
      obtain ⟨x, hx⟩ : ∃ x, x = f.fs.length := ⟨_, rfl⟩
      rw [← hx] at hu hQ hucl
      have c1 := hu.c1
      have lb := World.block_lt_of_cell? (h := c1)
      have hd0 : ((m + 1 : Nat) : Int) - 1 = m := by omega
      have hd1 : (((m + 1 : Nat) : Int) == 0) = false := by rw [beq_eq_false_iff_ne]; omega
      have hm1 : (m : Int) + 1 - 1 = m := by omega
      have hm2 : (((m : Int) + 1) == 0) = false := by rw [beq_eq_false_iff_ne]; omega
      have HQ : Hid (q = decide (0 < x)) := Lib.hid (by
        rw [hQ, decide_eq_false (p := m + 1 = 0) (by omega), Bool.true_and, Bool.false_or]
        exact dd (by omega))
      unfold maxLen at m2 hucl
      have HC1 := Lib.hid c1
      clear hf hx hu hfm hQ h0
      go_enter Tryz.func22, Tryz.ntmps22
      go_wp2_with fail
      refine HB.out.1.mono ?_
      rintro e w1 ⟨rfl, hb⟩
      have HB1 := Lib.hid hb
      have c2 : w1.cell? ⟨b, off + m * 2 + 1, none⟩ = some (.slice ua x uc) := (hb.cell (p := ⟨b, off + m * 2 + 1, none⟩) lb).trans HC1.out
      clear hb
      go_wp2_with fail
      go_ret
      exact ⟨by rw [HQ.out]; rfl, HB1.out⟩
end Go.Proofs.YtcnokccgdiodlaaGreatDoor
