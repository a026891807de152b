/- What the laws share: boxes and rows of fractions in memory, what sane says. No condition of its own. -/
import Derived.Test.YtphphamfejgdaaaGreatDoorRatR
import Derived.Test.YtphphamfejgdaaaGreatDoorRatP
namespace Go.Proofs.YtphphamfejgdaaaGreatDoor
open Go.RowKit

/-- What is shown of sane in a text of its own. -/
def SaneSays : Prop := ∀ (er : Addr) (w : World), Txt w er → Calls Tryz.prog 6 #[] w fun e w' => e = .returned (.bool true) ∧ Below w.heap.size w w'
/-- A fraction in a box. -/
structure BoxAt (w : World) (N : Nat) (x y : Int) : Prop where
  c0 : w.cell? ⟨N, 0, none⟩ = some (.int .i64 x)
  c1 : w.cell? ⟨N, 1, none⟩ = some (.int .i64 y)
theorem BoxAt.below {w w' : World} {N : Nat} {x y : Int} (h : BoxAt w N x y) (hb : Below w.heap.size w w') : BoxAt w' N x y :=
  ⟨by rw [(bcell hb).1 _ _ (World.block_lt_of_cell? (h := h.c0))]; exact h.c0, by rw [(bcell hb).1 _ _ (World.block_lt_of_cell? (h := h.c0))]; exact h.c1⟩
theorem BoxAt.alloc {w : World} {N : Nat} {x y : Int} (h : BoxAt w N x y) (o : Obj) : BoxAt (w.alloc o) N x y := h.below ((Below.refl _ _).alloc (Nat.le_refl _) _)
/-- Three fractions in a row, or three pairs. -/
structure RowAt (w : World) (N : Nat) (a b c d f g : Int) : Prop where
  c0 : w.cell? ⟨N, 0, none⟩ = some (.int .i64 a)
  c1 : w.cell? ⟨N, 1, none⟩ = some (.int .i64 b)
  c2 : w.cell? ⟨N, 2, none⟩ = some (.int .i64 c)
  c3 : w.cell? ⟨N, 3, none⟩ = some (.int .i64 d)
  c4 : w.cell? ⟨N, 4, none⟩ = some (.int .i64 f)
  c5 : w.cell? ⟨N, 5, none⟩ = some (.int .i64 g)
theorem RowAt.below {w w' : World} {N : Nat} {a b c d f g : Int} (h : RowAt w N a b c d f g) (hb : Below w.heap.size w w') : RowAt w' N a b c d f g := by
  have hl := World.block_lt_of_cell? (h := h.c0)
  obtain ⟨hc, _⟩ := bcell hb
  exact ⟨by rw [hc _ _ hl]; exact h.c0, by rw [hc _ _ hl]; exact h.c1, by rw [hc _ _ hl]; exact h.c2, by rw [hc _ _ hl]; exact h.c3, by rw [hc _ _ hl]; exact h.c4, by rw [hc _ _ hl]; exact h.c5⟩
theorem RowAt.alloc {w : World} {N : Nat} {a b c d f g : Int} (h : RowAt w N a b c d f g) (o : Obj) : RowAt (w.alloc o) N a b c d f g := h.below ((Below.refl _ _).alloc (Nat.le_refl _) _)
/-- made, of six numbers. -/
theorem made_six (x0 x1 x2 x3 x4 x5 : Int) (er : Addr) (w : World) (h0 : -9223372036854775808 ≤ x0 ∧ x0 ≤ 9223372036854775807) (h1 : -9223372036854775808 ≤ x1 ∧ x1 ≤ 9223372036854775807) (h2 : -9223372036854775808 ≤ x2 ∧ x2 ≤ 9223372036854775807)
    (h3 : -9223372036854775808 ≤ x3 ∧ x3 ≤ 9223372036854775807) (h4 : -9223372036854775808 ≤ x4 ∧ x4 ≤ 9223372036854775807) (h5 : -9223372036854775808 ≤ x5 ∧ x5 ≤ 9223372036854775807) (hE : ErrAt w er) :
    Calls Tryz.prog 32 #[.agg #[.int .i64 x0, .int .i64 x1, .int .i64 x2, .int .i64 x3, .int .i64 x4, .int .i64 x5]] w fun e w' =>
      (∃ (v : Bool) (a b c d f g : Int), e = .returned (.tuple #[.agg #[.int .i64 a, .int .i64 b, .int .i64 c, .int .i64 d, .int .i64 f, .int .i64 g], .bool v]) ∧ (v = true → ∃ p q r, Is p a b ∧ Is q c d ∧ Is r f g)) ∧ Below w.heap.size w w' :=
  made_any (fun k => match k with | 0 => x0 | 1 => x1 | 2 => x2 | 3 => x3 | 4 => x4 | _ => x5) er w (fun k hk => by
    match k, hk with
    | 0, _ => exact h0
    | 1, _ => exact h1
    | 2, _ => exact h2
    | 3, _ => exact h3
    | 4, _ => exact h4
    | 5, _ => exact h5) hE
theorem Is.int {k : Int} (h1 : -1000000000 ≤ k) (h2 : k ≤ 1000000000) : Is (k : Rat) k 1 := ⟨Rt.fits_int h1 h2, rfl, rfl⟩
theorem Is.parts {p : Rat} {a b : Int} (h : Is p a b) : Parts (some p) a b 0 := ⟨h.num, h.den, rfl⟩
end Go.Proofs.YtphphamfejgdaaaGreatDoor
