/- text and Print. Conditions: ints; what the functions of texts read of memory. -/
import Derived.Test.YtphphamfejgdaaaGreatDoorRatM
namespace Go.Proofs.YtphphamfejgdaaaGreatDoor
open Go.RowKit

/-- The text of a fraction, by its numbers. -/
def textI (a b : Int) : List UInt8 := Lib.itoa a ++ (if b = 1 then [] else 47 :: Lib.itoa b)
theorem textI_of (q : Rat) : textI q.num q.den = Rt.textB q := by
  unfold textI Rt.textB
  by_cases h : q.den = 1
  · rw [if_pos h, if_pos (by omega)]
  · rw [if_neg h, if_neg (by omega)]

set_option maxRecDepth 20000 in
theorem text_any (a b : Int) (S : ByteArray) (er : Addr) (w : World) (a1 : -1000000000 ≤ a) (a2 : a ≤ 1000000000) (b1 : -1000000000 ≤ b) (b2 : b ≤ 1000000000) (hT : Txt w er)
    (hS : (⟨(textI a b).toArray⟩ : ByteArray) = S) :
    Calls Tryz.prog 54 #[frac a b] w fun e w' => e = .returned (.string S) ∧ Below w.heap.size w w' := by
  by_cases hb : b = 1
  · subst hb
    have HS : Hid ((⟨(Lib.itoa a).toArray⟩ : ByteArray) = S) := Lib.hid (by rw [← hS]; unfold textI; rw [if_pos rfl, List.append_nil])
    have HT := Lib.hid hT
    have HM := Lib.hid (And.intro a1 a2)
    clear a1 a2 b1 b2 hT hS
    go_enter Tryz.func54, Tryz.ntmps54
    go_wp2_with fail
    have hb0 : Below w.heap.size w (w.alloc (Obj.cells #[Value.int IntKind.i64 a, Value.int IntKind.i64 1] 25)) := (Below.refl _ _).alloc (Nat.le_refl _) _
    refine (itoa_any a S er _ (by have := HM.out; omega) (by have := HM.out; omega) (HT.out.below hb0) HS.out).mono ?_
    rintro e w2 ⟨rfl, hB⟩
    have HB := Lib.hid (hb0.trans (hB.mono (by simp)))
    clear hB hb0
    go_wp2_with fail
    go_ret
    exact ⟨rfl, HB.out⟩
  · obtain ⟨A, hA⟩ : ∃ A : ByteArray, A = ⟨(Lib.itoa a).toArray⟩ := ⟨_, rfl⟩
    obtain ⟨B, hB⟩ : ∃ B : ByteArray, B = ⟨(Lib.itoa b).toArray⟩ := ⟨_, rfl⟩
    have sA : A.size ≤ 11 := by rw [hA]; exact Rt.itoa_len a (by omega)
    have sB : B.size ≤ 11 := by rw [hB]; exact Rt.itoa_len b (by omega)
    have HS : Hid ((A ++ ⟨#[47]⟩) ++ B = S) := Lib.hid (by
      rw [← hS, hA, hB]; unfold textI; rw [if_neg hb]
      rw [ByteArray.ext_iff]
      simp)
    have s1 : ¬ 9223372036854775807 < A.size + 1 := by omega
    have s2 : ¬ 9223372036854775807 < A.size + 1 + B.size := by omega
    have HM := Lib.hid (And.intro (And.intro a1 a2) (And.intro b1 b2))
    have hb0 : Below w.heap.size w (w.alloc (Obj.cells #[Value.int IntKind.i64 a, Value.int IntKind.i64 b] 25)) := (Below.refl _ _).alloc (Nat.le_refl _) _
    obtain ⟨w0, hw0⟩ : ∃ w0, w0 = w.alloc (Obj.cells #[Value.int IntKind.i64 a, Value.int IntKind.i64 b] 25) := ⟨_, rfl⟩
    have hc0 : w0.cell? ⟨w.heap.size, 0, none⟩ = some (.int .i64 a) := by rw [hw0]; simp [go_sem]
    have hc1 : w0.cell? ⟨w.heap.size, 1, none⟩ = some (.int .i64 b) := by rw [hw0]; simp [go_sem]
    have hsz : w.heap.size < w0.heap.size := by rw [hw0]; simp
    rw [← hw0] at hb0
    have HC : Hid (∀ w1, Below w0.heap.size w0 w1 → ∀ n V, (n = a ∧ V = A) ∨ (n = b ∧ V = B) → Calls Tryz.prog 67 #[.int .i64 n] w1 fun e w' => e = .returned (.string V) ∧ w'.cell? ⟨w.heap.size, 0, none⟩ = some (.int .i64 a) ∧ w'.cell? ⟨w.heap.size, 1, none⟩ = some (.int .i64 b) ∧ Below w0.heap.size w0 w') := Lib.hid (by
      intro w1 h1 n V hn
      have hk : ∀ w', Below w0.heap.size w0 w' → w'.cell? ⟨w.heap.size, 0, none⟩ = some (.int .i64 a) ∧ w'.cell? ⟨w.heap.size, 1, none⟩ = some (.int .i64 b) ∧ Below w0.heap.size w0 w' := fun w' h' =>
        ⟨by rw [(bcell h').1 _ _ hsz]; exact hc0, by rw [(bcell h').1 _ _ hsz]; exact hc1, h'⟩
      rcases hn with ⟨rfl, rfl⟩ | ⟨rfl, rfl⟩
      · exact (itoa_any n _ er w1 (by omega) (by omega) ((hT.below hb0).below h1) hA.symm).mono fun e w' ⟨he, hB⟩ => ⟨he, hk w' (h1.trans (hB.mono h1.size))⟩
      · exact (itoa_any n _ er w1 (by omega) (by omega) ((hT.below hb0).below h1) hB.symm).mono fun e w' ⟨he, hB⟩ => ⟨he, hk w' (h1.trans (hB.mono h1.size))⟩)
    have HE := Lib.hid hw0
    have HB0 := Lib.hid hb0
    clear sA sB hA hB a1 a2 b1 b2 hT hS hb0 hw0
    go_enter Tryz.func54, Tryz.ntmps54
    go_wp2_with fail
    rw [← HE.out]
    go_region_held3 (fun w' => w'.cell? ⟨w.heap.size, 0, none⟩ = some (.int .i64 a) ∧ w'.cell? ⟨w.heap.size, 1, none⟩ = some (.int .i64 b) ∧ Below w0.heap.size w0 w') (first | exact ⟨hc0, hc1, Below.refl _ _⟩ | exact ⟨hc0, hc1, (Below.refl _ _).drew⟩ | (refine ⟨?_, ?_, ?_⟩ <;> assumption)) ((first | (go_at_call 67; refine (HC.out _ (by first | exact Below.refl _ _ | exact (Below.refl _ _).drew | assumption) _ _ (by first | exact .inl ⟨rfl, rfl⟩ | exact .inr ⟨rfl, rfl⟩)).mono ?_; rintro e w5 ⟨rfl, hc5, hd5, hb5⟩)))
    all_goals
      go_wp2_with fail
      go_ret
      exact ⟨by rw [← HS.out]; rfl, HB0.out.trans (Below.mono (by assumption) HB0.out.size)⟩
end Go.Proofs.YtphphamfejgdaaaGreatDoor
