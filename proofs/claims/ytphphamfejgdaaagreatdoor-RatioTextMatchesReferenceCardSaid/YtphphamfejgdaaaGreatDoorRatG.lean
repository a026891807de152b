/- Valid, check. Conditions: ints; the variable of the error holds a pointer. -/
import Derived.Test.YtphphamfejgdaaaGreatDoorRatF
namespace Go.Proofs.YtphphamfejgdaaaGreatDoor
open Go.RowKit

/-- Valid by what Make gives. -/
theorem valid_case (n d : Int) : (Rt.rd n d).isSome = true ↔ Rt.er (Rt.mk n d) = 0 ∧ Rt.nm (Rt.mk n d) = n ∧ Rt.dn (Rt.mk n d) = d := by
  unfold Rt.rd
  cases h : Rt.mk n d with
  | none => simp [Rt.er]
  | some q => simp [Rt.er, Rt.nm, Rt.dn]
theorem er_cases (o : Option Rat) : Rt.er o = 0 ∨ Rt.er o = 30 := by cases o <;> simp [Rt.er]

set_option maxRecDepth 20000 in
theorem valid_any (n d : Int) (b : Bool) (a : Addr) (w : World) (n1 : -9223372036854775808 ≤ n) (n2 : n ≤ 9223372036854775807) (d1 : -9223372036854775808 ≤ d) (d2 : d ≤ 9223372036854775807)
    (hE : ErrAt w a) (hb : (Rt.rd n d).isSome = b) :
    Calls Tryz.prog 20 #[frac n d] w fun e w' => e = .returned (.bool b) ∧ Below w.heap.size w w' := by
  obtain ⟨x, hx⟩ : ∃ x, Rt.nm (Rt.mk n d) = x := ⟨_, rfl⟩
  obtain ⟨y, hy⟩ : ∃ y, Rt.dn (Rt.mk n d) = y := ⟨_, rfl⟩
  obtain ⟨z, hz⟩ : ∃ z, Rt.er (Rt.mk n d) = z := ⟨_, rfl⟩
  have hv := valid_case n d
  have hzc := er_cases (Rt.mk n d)
  rw [hx, hy, hz] at hv
  rw [hz] at hzc
  have HM := Lib.hid (And.intro n1 (And.intro n2 (And.intro d1 (And.intro d2 (And.intro hx (And.intro hy (And.intro hz hE)))))))
  have HBV : Hid (b = decide (z = 0 ∧ x = n ∧ y = d)) := Lib.hid (by rw [← hb]; exact Bool.eq_iff_iff.2 (by rw [decide_eq_true_eq]; exact hv))
  clear n1 n2 d1 d2 hx hy hz hE hb hv
  go_enter Tryz.func20, Tryz.ntmps20
  go_wp2_with fail
  have hb0 : Below w.heap.size w (w.alloc (Obj.cells #[Value.int IntKind.i64 n, Value.int IntKind.i64 d] 25)) := (Below.refl _ _).alloc (Nat.le_refl _) _
  refine (make_any n d x y z a _ HM.out.1 HM.out.2.1 HM.out.2.2.1 HM.out.2.2.2.1 (HM.out.2.2.2.2.2.2.2.below hb0) HM.out.2.2.2.2.1 HM.out.2.2.2.2.2.1 HM.out.2.2.2.2.2.2.1).mono ?_
  rintro e w2 ⟨rfl, hB⟩
  obtain ⟨hc, hz⟩ := bcell hB
  have hc0 : w2.cell? ⟨w.heap.size, 0, none⟩ = some (.int .i64 n) := by rw [hc _ _ (by first | (simp; done) | (simp; omega))]; simp [go_sem]
  have hc1 : w2.cell? ⟨w.heap.size, 1, none⟩ = some (.int .i64 d) := by rw [hc _ _ (by first | (simp; done) | (simp; omega))]; simp [go_sem]
  have hsz : w.heap.size < w2.heap.size := by have := hB.size; simp at this; omega
  have hB2 : Below w.heap.size w w2 := hb0.trans (hB.mono (by simp))
  clear hc hz
  have HB2 := Lib.hid hB2
  clear hB2 hB hb0
  go_wp2_with fail
  all_goals
    go_ret
    refine ⟨?_, HB2.out.alloc HB2.out.size _⟩
    rw [HBV.out]; simp [*]

/-- What a function that makes a fraction or finds no result ends in. -/
def outcome (a : Addr) : Option Rat → Ending
  | some q => .returned (frac q.num q.den)
  | none => .panicked [{ v := errV a, recovered := false }]

/-- What a check ends in. -/
def verdict (a : Addr) : Bool → Ending
  | true => .returned (.tuple #[])
  | false => .panicked [{ v := errV a, recovered := false }]

/-- The fractions in a row of memory. -/
structure FracsAt (w : World) (B k : Nat) (X Y : Nat → Int) : Prop where
  num : ∀ i, i < k → w.cell? ⟨B, i * 2, none⟩ = some (.int .i64 (X i))
  den : ∀ i, i < k → w.cell? ⟨B, i * 2 + 1, none⟩ = some (.int .i64 (Y i))
theorem FracsAt.below {w w' : World} {B k : Nat} {X Y : Nat → Int} (h : FracsAt w B k X Y) (hB : B < w.heap.size) (hb : Below w.heap.size w w') : FracsAt w' B k X Y :=
  ⟨fun i hi => by rw [hb.cell (p := ⟨B, i * 2, none⟩) hB]; exact h.num i hi, fun i hi => by rw [hb.cell (p := ⟨B, i * 2 + 1, none⟩) hB]; exact h.den i hi⟩
/-- All fractions of the row are valid. -/
def allV (X Y : Nat → Int) : Nat → Bool
  | 0 => true
  | k + 1 => allV X Y k && (Rt.rd (X k) (Y k)).isSome
theorem allV_mono {X Y : Nat → Int} {k : Nat} (h : allV X Y k = true) : ∀ i, i < k → (Rt.rd (X i) (Y i)).isSome = true := by
  induction k with
  | zero => intro i hi; omega
  | succ k ih =>
    unfold allV at h
    simp only [Bool.and_eq_true] at h
    intro i hi
    by_cases hk : i = k
    · subst hk; exact h.2
    · exact ih h.1 i (by omega)
theorem allV_false {X Y : Nat → Int} {k : Nat} (h : allV X Y k = false) {i : Nat} (hi : allV X Y i = true) (hik : i ≤ k) : i < k := by
  rcases Nat.lt_or_ge i k with h1 | h1
  · exact h1
  · have : i = k := by omega
    subst this; rw [h] at hi; cases hi
theorem allV_at {X Y : Nat → Int} {k i : Nat} (hi : i < k) (h : (Rt.rd (X i) (Y i)).isSome = false) : allV X Y k = false := by
  cases h2 : allV X Y k with
  | false => rfl
  | true => rw [allV_mono h2 i hi] at h; cases h

set_option maxRecDepth 20000 in
theorem check_any (B k : Nat) (X Y : Nat → Int) (v : Bool) (a : Addr) (w : World) (hk : k ≤ 3) (hi : ∀ i, i < k → (-9223372036854775808 ≤ X i ∧ X i ≤ 9223372036854775807) ∧ -9223372036854775808 ≤ Y i ∧ Y i ≤ 9223372036854775807)
    (hF : FracsAt w B k X Y) (hE : ErrAt w a) (hv : allV X Y k = v) :
    Calls Tryz.prog 39 #[.slice (some ⟨B, 0, none⟩) k k] w fun e w' => e = verdict a v ∧ Below w.heap.size w w' := by
  have HI := Lib.hid hi
  have HF := Lib.hid hF
  have HE := Lib.hid hE
  have HV := Lib.hid hv
  clear hi hF hE hv
  go_enter Tryz.func39, Tryz.ntmps39
  go_wp2
  go_loopw [6] (fun c wr => ∃ i : Nat, i ≤ k ∧ c = .int .i64 i ∧ Hid (allV X Y i = true) ∧ Hid (Below w.heap.size w wr)) (fun c _ => k - (intOf c).toNat)
  case atStart => exact ⟨0, by omega, rfl, Lib.hid rfl, Lib.hid (Below.refl _ _)⟩
  case round =>
    obtain ⟨i, hi, rfl, HA, HB⟩ := hrel
    by_cases hlt : i < k
    · obtain ⟨x, hx⟩ : ∃ x, X i = x := ⟨_, rfl⟩
      obtain ⟨y, hy⟩ : ∃ y, Y i = y := ⟨_, rfl⟩
      have hBk := World.block_lt_of_cell? (a := ⟨B, i * 2, none⟩) (h := HF.out.num i hlt)
      have hF1 := HF.out.below hBk HB.out
      have hn := hF1.num i hlt
      have hd := hF1.den i hlt
      rw [hx] at hn
      rw [hy] at hd
      have hBr := World.block_lt_of_cell? (a := ⟨B, i * 2, none⟩) (h := hn)
      have HX := Lib.hid (And.intro hx hy)
      clear hF1 hx hy
      go_wp2_with fail
      have hI := HI.out i hlt
      rw [HX.out.1, HX.out.2] at hI
      obtain ⟨bv, hbv⟩ : ∃ bv, (Rt.rd x y).isSome = bv := ⟨_, rfl⟩
      have HBV := Lib.hid hbv
      have hbl : Below w.heap.size w (wr.alloc (Obj.cells #[Value.int IntKind.i64 x, Value.int IntKind.i64 y] 25)) := HB.out.alloc HB.out.size _
      refine (valid_any x y bv a _ hI.1.1 hI.1.2 hI.2.1 hI.2.2 (HE.out.below hbl) hbv).mono ?_
      clear hI hbv
      rintro e w2 ⟨rfl, hB2⟩
      have HB2 : Hid (Below w.heap.size w w2) := Lib.hid (hbl.trans (hB2.mono hbl.size))
      have hE2 := (HE.out.below HB2.out).cell
      have hE3 := (HE.out.below HB2.out).lt
      clear hbl hB2
      cases bv with
      | true =>
        go_wp2_with fail
        go_roundw
        case rel => exact ⟨i + 1, by omega, rfl, Lib.hid (by unfold allV; rw [HA.out, HX.out.1, HX.out.2, HBV.out]; rfl), HB2⟩
        case measure => simp only [intOf]; omega
      | false =>
        go_wp2_with fail
        have h1 : v = false := by rw [← HV.out]; exact allV_at hlt (by rw [HX.out.1, HX.out.2]; exact HBV.out)
        subst h1
        exact ⟨rfl, rfl, HB2.out⟩
    · have hik : i = k := by omega
      subst hik
      have h1 : v = true := by rw [← HV.out]; exact HA.out
      subst h1
      go_wp2_with fail
      exact bodyPost_end (v := .tuple #[]) (by simp [results, Tryz.results39]) rfl ⟨rfl, HB.out⟩
end Go.Proofs.YtphphamfejgdaaaGreatDoor
