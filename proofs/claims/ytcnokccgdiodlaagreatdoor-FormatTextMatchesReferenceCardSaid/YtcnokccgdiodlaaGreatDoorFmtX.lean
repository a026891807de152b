/- The kind with a word. Conditions: a table's kinds lie there; the word's cell. -/
import Derived.Test.YtcnokccgdiodlaaGreatDoorFmtW
namespace Go.Proofs.YtcnokccgdiodlaaGreatDoor
open Go.RowKit Go.Shelf Fx

theorem same1_any (wd p : List UInt8) (v1 v2 v3 v4 : Value) (bw : Nat) (v : Bool) (w : World) (hw : w.cell? ⟨bw, 0, none⟩ = some (.string (bs p))) (hv : (wd == p) = v) :
    Calls Tryz.prog 74 #[.agg #[.string (bs wd), v1, v2, v3, v4], adr bw] w fun e w' => e = .returned (.bool v) ∧ Below w.heap.size w w' := by
  have hlt := World.block_lt_of_cell? (h := hw)
  go_enter Tryz.func74, Tryz.ntmps74
  go_wp2_with fail
  go_ret
  exact ⟨rfl, bx _⟩
/-- The index of the kind with a word. -/
def idxK (p : List UInt8) : Int := if p = [] then 0 else if kindOf p = 0 then -1 else kindOf p
theorem idxK_here {k : Nat} (h : k < 7) : idxK (wordK k) = k := by
  obtain rfl | rfl | rfl | rfl | rfl | rfl | rfl : k = 0 ∨ k = 1 ∨ k = 2 ∨ k = 3 ∨ k = 4 ∨ k = 5 ∨ k = 6 := by omega
  all_goals decide
theorem idxK_none {p : List UInt8} (h : ∀ j : Nat, j < 7 → wordK j ≠ p) : idxK p = -1 := by
  have h0 : p ≠ [] := fun e => h 0 (by omega) (by rw [e]; rfl)
  unfold idxK
  rw [if_neg h0, if_pos]
  unfold kindOf
  rw [if_neg (fun e => h 1 (by omega) (by rw [e]; rfl)), if_neg (fun e => h 2 (by omega) (by rw [e]; rfl)), if_neg (fun e => h 3 (by omega) (by rw [e]; rfl)),
    if_neg (fun e => h 4 (by omega) (by rw [e]; rfl)), if_neg (fun e => h 5 (by omega) (by rw [e]; rfl)), if_neg (fun e => h 6 (by omega) (by rw [e]; rfl))]
theorem kind_any {w : World} {tb b1 c b3 : Nat} (h : ∀ i, i < 35 → w.cell? ⟨tb, i, none⟩ = (kindsV b1 c b3)[i]?) (k : Nat) (hk : k < 7) :
    ∃ v1 v2 v3 v4, w.cell? ⟨tb, k * 5, none⟩ = some (.string (bs (wordK k))) ∧ w.cell? ⟨tb, k * 5 + 1, none⟩ = some v1 ∧ w.cell? ⟨tb, k * 5 + 2, none⟩ = some v2 ∧ w.cell? ⟨tb, k * 5 + 3, none⟩ = some v3 ∧ w.cell? ⟨tb, k * 5 + 4, none⟩ = some v4 := by
  obtain rfl | rfl | rfl | rfl | rfl | rfl | rfl : k = 0 ∨ k = 1 ∨ k = 2 ∨ k = 3 ∨ k = 4 ∨ k = 5 ∨ k = 6 := by omega
  all_goals exact ⟨_, _, _, _, (h _ (by omega)).trans rfl, (h _ (by omega)).trans rfl, (h _ (by omega)).trans rfl, (h _ (by omega)).trans rfl, (h _ (by omega)).trans rfl⟩
theorem index_any (tb b1 c b3 bw : Nat) (p : List UInt8) (w : World) (hcell : ∀ i, i < 35 → w.cell? ⟨tb, i, none⟩ = (kindsV b1 c b3)[i]?) (hw : w.cell? ⟨bw, 0, none⟩ = some (.string (bs p))) :
    Calls Tryz.prog 73 #[.slice (some ⟨tb, 0, none⟩) 7 7, clo 74 #[adr bw]] w fun e w' => e = .returned (.int .i64 (idxK p)) ∧ Below w.heap.size w w' := by
  have HC := Lib.hid (And.intro hcell hw)
  have hbw := World.block_lt_of_cell? (h := hw)
  have htb : tb < w.heap.size := World.block_lt_of_cell? (h := (hcell 0 (by omega)).trans rfl)
  clear hcell hw
  go_enter Tryz.func73, Tryz.ntmps73
  go_wp2_with fail
  go_loopw [8] (fun i wr => ∃ k : Nat, k ≤ 7 ∧ i = .int .i64 k ∧ Hid (Below w.heap.size w wr ∧ ∀ j : Nat, j < k → wordK j ≠ p)) (fun i _ => 7 - (intOf i).toNat)
  case atStart => exact ⟨0, by omega, rfl, Lib.hid ⟨Below.refl _ _, fun j hj => absurd hj (by omega)⟩⟩
  case round =>
    obtain ⟨k, hk, rfl, HI⟩ := hrel
    by_cases hlt : k < 7
    · obtain ⟨v1, v2, v3, v4, x0, x1, x2, x3, x4⟩ := kind_any HC.out.1 k hlt
      have cl := fun o : Nat => HI.out.1.cell (p := ⟨tb, o, none⟩) htb
      rw [← cl] at x0 x1 x2 x3 x4
      have hw : wr.cell? ⟨bw, 0, none⟩ = some (.string (bs p)) := (HI.out.1.cell (p := ⟨bw, 0, none⟩) hbw).trans HC.out.2
      obtain ⟨v, hv⟩ : ∃ v, (wordK k == p) = v := ⟨_, rfl⟩
      have HS := Lib.hid (same1_any (wordK k) p v1 v2 v3 v4 bw v wr hw hv)
      have HV := Lib.hid hv
      clear cl hw hv
      go_wp2_with fail
      refine HS.out.mono ?_
      rintro e w1 ⟨rfl, hb⟩
      have HB := Lib.hid (HI.out.1.trans (hb.mono HI.out.1.size))
      clear hb
      cases v with
      | true =>
        have HP : Hid (idxK p = k) := Lib.hid (by rw [← eq_of_beq HV.out]; exact idxK_here hlt)
        clear HI HV x0 x1 x2 x3 x4 HS
        go_wp2_with fail
        go_ret
        exact ⟨by rw [HP.out]; rfl, HB.out⟩
      | false =>
        have HN : Hid (Below w.heap.size w w1 ∧ ∀ j : Nat, j < k + 1 → wordK j ≠ p) := Lib.hid ⟨HB.out, fun j hj => by
          rcases Nat.lt_succ_iff_lt_or_eq.1 hj with h | rfl
          · exact HI.out.2 j h
          · exact ne_of_beq_false HV.out⟩
        clear HI HV x0 x1 x2 x3 x4 HS HB
        go_wp2_with fail
        go_roundw
        case rel => exact ⟨k + 1, by omega, by go_num, HN⟩
        case measure => simp [intOf]; omega
    · obtain rfl : k = 7 := by omega
      have HP : Hid (idxK p = -1) := Lib.hid (idxK_none HI.out.2)
      have HB := Lib.hid HI.out.1
      clear HI
      go_wp2_with fail
      go_ret
      exact ⟨by rw [HP.out]; rfl, HB.out⟩
end Go.Proofs.YtcnokccgdiodlaaGreatDoor
