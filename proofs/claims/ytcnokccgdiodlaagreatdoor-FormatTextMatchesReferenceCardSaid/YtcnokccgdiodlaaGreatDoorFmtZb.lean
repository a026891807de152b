/- Find. Conditions: the list is readable; its numbers are ints. -/
import Derived.Test.YtcnokccgdiodlaaGreatDoorFmtZa
import Derived.Shelf.Pu.Clone
namespace Go.Proofs.YtcnokccgdiodlaaGreatDoor
open Go.RowKit Go.Shelf Fx

theorem FmsAt.slice_ {B : Nat → Prop} {w : World} {v : Value} {l : List Fm} (h : FmsAt B w v l) : ∃ a c, v = .slice a l.length c ∧ (l.length = 0 ∨ (l.length ≤ c ∧ c ≤ maxLen)) := by
  rcases h with ⟨a, c, rfl, rfl⟩ | ⟨b, off, cap, rfl, h1, h2, h3, _⟩
  · exact ⟨a, c, rfl, .inl rfl⟩
  · exact ⟨_, _, rfl, .inr ⟨h2, h3⟩⟩
theorem FmsAt.at_ {B : Nat → Prop} {w : World} {a : Option Addr} {n c : Nat} {l : List Fm} (h : FmsAt B w (.slice a n c) l) (h1 : 1 ≤ l.length) : ∃ b off, a = some ⟨b, off, none⟩ ∧ n = l.length ∧ B b ∧ b < w.heap.size ∧ n ≤ c ∧ c ≤ maxLen ∧ ∀ i, i < l.length → ∃ u, FmAt B w b (off + i * 2) (l.getD i zm) u := by
  rcases h with ⟨a, c, _, rfl⟩ | ⟨b, off, cap, h0, h2, h3, h4, h5, h6, h7⟩
  · simp at h1
  · cases h0
    exact ⟨b, off, rfl, rfl, h5, h6, h3, h4, h7⟩
theorem find1_any (x id : Int) (u : Value) (bi : Nat) (v : Bool) (w : World) (hw : w.cell? ⟨bi, 0, none⟩ = some (.int .i64 id)) (hv : decide (x = id) = v) :
    Calls Tryz.prog 32 #[.agg #[.int .i64 x, u], adr bi] w fun e w' => e = .returned (.bool v) ∧ Below w.heap.size w w' := by
  have hlt := World.block_lt_of_cell? (h := hw)
  have hv2 : (x == id) = v := by rw [← hv, Bool.eq_iff_iff]; simp
  go_enter Tryz.func32, Tryz.ntmps32
  go_wp2_with fail
  go_ret
  exact ⟨rfl, bx _⟩
/-- The index of the first format with an ID. -/
def idxM : List Fm → Int → Nat → Int
  | [], _, _ => -1
  | f :: t, id, k => if f.id = id then k else idxM t id (k + 1)
set_option maxHeartbeats 1000000 in
theorem indexM_any (v : Value) (l : List Fm) (id : Int) (bi : Nat) (w : World) (hV : FmsAt (· < w.heap.size) w v l) (hw : w.cell? ⟨bi, 0, none⟩ = some (.int .i64 id)) :
    Calls Tryz.prog 31 #[v, clo 32 #[adr bi]] w fun e w' => e = .returned (.int .i64 (idxM l id 0)) ∧ Below w.heap.size w w' := by
  obtain ⟨a, c, rfl, hlc⟩ := hV.slice_
  obtain ⟨n, hn⟩ : ∃ n, n = l.length := ⟨_, rfl⟩
  rw [← hn] at hV hlc ⊢
  have hn2 : n ≤ 9223372036854775807 := by unfold maxLen at hlc; omega
  have HV := Lib.hid (And.intro hV (And.intro hw hn))
  have hbi := World.block_lt_of_cell? (h := hw)
  have EN : Enters 32 := enters_of Tryz.func32 (by kernel_rfl) (by kernel_rfl)
  unfold Enters at EN
  clear hV hw hlc hn
  go_enter Tryz.func31, Tryz.ntmps31
  go_wp2_with fail
  go_loopw [8] (fun i wr => ∃ k : Nat, k ≤ n ∧ i = .int .i64 k ∧ Hid (Below w.heap.size w wr ∧ idxM (l.drop k) id k = idxM l id 0)) (fun i _ => n - (intOf i).toNat)
  case atStart => exact ⟨0, Nat.zero_le _, rfl, Lib.hid ⟨Below.refl _ _, rfl⟩⟩
  case round =>
    obtain ⟨k, hk, rfl, HI⟩ := hrel
    by_cases hlt : k < n
    · have hkl : k < l.length := by have := HV.out.2.2; omega
      obtain ⟨b, off, rfl, -, hbl, -, m1, m2, hfm⟩ := HV.out.1.at_ (by omega)
      obtain ⟨u, hu⟩ := hfm k hkl
      obtain ⟨f, hf⟩ : ∃ f, f = l.getD k zm := ⟨_, rfl⟩
      have hdr := drop_get zm hkl
      rw [← hf] at hu hdr
      have hu' := hu.kept (Kept.of_below HI.out.1 fun _ h => h) hbl
      have c0 := hu'.c0
      have c1 := hu'.c1
      have lb := World.block_lt_of_cell? (h := c0)
      obtain ⟨q, hq⟩ : ∃ q, decide (f.id = id) = q := ⟨_, rfl⟩
      have HS := Lib.hid (find1_any f.id id u bi q wr ((HI.out.1.cell (p := ⟨bi, 0, none⟩) hbi).trans HV.out.2.1) hq)
      have HD := Lib.hid (And.intro hdr hq)
      obtain ⟨uo, un, uc, rfl⟩ : ∃ uo un uc, u = .slice uo un uc := by
        obtain ⟨x, y, h, _⟩ := hu'.fs.slice_
        exact ⟨_, _, _, h⟩
      unfold maxLen at m2
      clear hf hdr hu hu' hfm hq
      go_wp2_with fail
      refine HS.out.mono ?_
      rintro e w1 ⟨rfl, hb⟩
      have HB := Lib.hid (HI.out.1.trans (hb.mono HI.out.1.size))
      clear hb
      cases q with
      | true =>
        have HP : Hid (idxM l id 0 = k) := Lib.hid (by
          rw [← HI.out.2, HD.out.1, idxM, if_pos (of_decide_eq_true HD.out.2)])
        clear HI HD HS c0 c1
        go_wp2_with fail
        go_ret
        exact ⟨by rw [HP.out]; rfl, HB.out⟩
      | false =>
        have HN : Hid (Below w.heap.size w w1 ∧ idxM (l.drop (k + 1)) id (k + 1) = idxM l id 0) := Lib.hid ⟨HB.out, by
          rw [← HI.out.2, HD.out.1, idxM, if_neg (of_decide_eq_false HD.out.2)]⟩
        clear HI HD HS c0 c1 HB
        go_wp2_with fail
        go_roundw
        case rel => exact ⟨k + 1, by omega, by go_num, HN⟩
        case measure => simp [intOf]; omega
    · obtain rfl : k = n := by omega
      have HP : Hid (idxM l id 0 = -1) := Lib.hid (by
        rw [← HI.out.2, HV.out.2.2, List.drop_length]; rfl)
      have HB := Lib.hid HI.out.1
      clear HI
      go_wp2_with fail
      go_ret
      exact ⟨by rw [HP.out]; rfl, HB.out⟩
end Go.Proofs.YtcnokccgdiodlaaGreatDoor
