/- Root returns the root of its list. Conditions: the list is readable, each string has at most 1000 bytes, and the tables hold their numbers. -/
import Derived.Test.YtlnlhjkdbpkaiaaDoorDigI
import Derived.Deep.RegionWith
import Derived.Deep.RegionHeld3
namespace Go.Proofs.YtlnlhjkdbpkaiaaDoor
open Go.RowKit

/-- The strings lie at b from place off on. -/
def StrsAt (W : World) (b off : Nat) (l : List ByteArray) : Prop := ∀ j, j < l.length → W.cell? ⟨b, off + j, none⟩ = some (.string (l.getD j ByteArray.empty))
theorem StrsAt.below {B : Nat} {W W' : World} {b off : Nat} {l : List ByteArray} (h : StrsAt W b off l) (hb : Below B W W') (hB : b < B) : StrsAt W' b off l := fun j hj => (hb.cell (p := ⟨b, off + j, none⟩) hB).trans (h j hj)
theorem StrsAt.take {W : World} {b off : Nat} {l : List ByteArray} (h : StrsAt W b off l) (k : Nat) : StrsAt W b off (l.take k) := fun j hj => by
  rw [List.length_take] at hj
  rw [h j (by omega)]
  simp [List.getD, show j < k by omega]
theorem StrsAt.drop {W : World} {b off : Nat} {l : List ByteArray} (h : StrsAt W b off l) (k : Nat) : StrsAt W b (off + k) (l.drop k) := fun j hj => by
  rw [List.length_drop] at hj
  have := h (k + j) (by omega)
  rw [show off + k + j = off + (k + j) by omega, this]
  simp [List.getD]
/-- Each string is short. -/
def Short (l : List ByteArray) : Prop := ∀ x ∈ l, x.size ≤ 1000
theorem Short.take {l : List ByteArray} (h : Short l) (k : Nat) : Short (l.take k) := fun x hx => h x (List.mem_of_mem_take hx)
theorem Short.drop {l : List ByteArray} (h : Short l) (k : Nat) : Short (l.drop k) := fun x hx => h x (List.mem_of_mem_drop hx)
theorem Short.get {l : List ByteArray} (h : Short l) (j : Nat) : (l.getD j ByteArray.empty).size ≤ 1000 := by
  by_cases hj : j < l.length
  · simp only [List.getD, List.getElem?_eq_getElem hj, Option.getD_some]
    exact h _ (List.getElem_mem _)
  · simp only [List.getD, List.getElem?_eq_none (by omega : l.length ≤ j), Option.getD_none]; decide

abbrev rootB (l : List ByteArray) : ByteArray := Dt.root shaB l
theorem rootB_size (l : List ByteArray) : (rootB l).size = 32 := Dt.root_size shaB shaB_size l

set_option maxHeartbeats 1000000 in
theorem root_nil_any (a : Option Addr) (c : Nat) (w : World) (hT : Tabs w) :
    Calls Tryd.prog 26 #[.slice a 0 c] w fun e w' => e = .returned (.string (rootB [])) ∧ Below w.heap.size w w' := by
  have HT := Lib.hid hT
  clear hT
  go_enter Tryd.func26, Tryd.ntmps26
  go_wp2_with fail
  refine (Sum_any _ _ HT.out (by decide)).mono ?_
  rintro e w' ⟨rfl, hB⟩
  go_wp2_with fail
  go_ret
  exact ⟨rfl, hB⟩

set_option maxRecDepth 100000 in
set_option maxHeartbeats 4000000 in
theorem root_step (n : Nat) (ih : ∀ m, m < n → ∀ (l : List ByteArray) (b off cap : Nat) (w : World), l.length = m → 1 ≤ m → m ≤ cap → m ≤ 9223372036854775807 → StrsAt w b off l → b < w.heap.size → Short l → Tabs w →
      Calls Tryd.prog 26 #[.slice (some ⟨b, off, none⟩) m cap] w fun e w' => e = .returned (.string (rootB l)) ∧ Below w.heap.size w w')
    (l : List ByteArray) (b off cap : Nat) (w : World) (hn : l.length = n) (h1 : 1 ≤ n) (hcap : n ≤ cap) (hmax : n ≤ 9223372036854775807) (hS : StrsAt w b off l) (hb : b < w.heap.size) (hsh : Short l) (hT : Tabs w) :
    Calls Tryd.prog 26 #[.slice (some ⟨b, off, none⟩) n cap] w fun e w' => e = .returned (.string (rootB l)) ∧ Below w.heap.size w w' := by
  have HT := Lib.hid hT
  have HSA := Lib.hid hS
  have HIH := Lib.hid ih
  have HSH := Lib.hid hsh
  by_cases hone : n = 1
  · subst hone
    have hc := hS 0 (by omega)
    rw [Nat.add_zero] at hc
    have hx := hsh.get 0
    obtain ⟨x, rfl⟩ : ∃ x, l = [x] := by
      match l, hn with
      | [x], _ => exact ⟨x, rfl⟩
    simp only [List.getD_cons_zero] at hc hx
    clear hT hS ih hsh hn
    go_enter Tryd.func26, Tryd.ntmps26
    go_wp2_with fail
    refine (Leaf_any _ _ HT.out (by omega)).mono ?_
    rintro e w' ⟨rfl, hB⟩
    go_wp2_with fail
    go_ret
    exact ⟨rfl, hB⟩
  · obtain ⟨k, hk⟩ : ∃ k, k = Dt.lk n := ⟨_, rfl⟩
    have hk1 : 1 ≤ k := by rw [hk]; exact Dt.lk_pos n
    have hk2 : k < n := by rw [hk]; exact Dt.lk_lt (by omega)
    have HV : Hid (rootB l = Dt.node shaB (rootB (l.take k)) (rootB (l.drop k))) := Lib.hid (by unfold rootB; rw [Dt.root_more shaB (by omega), hn, hk])
    have HC : Hid (∀ W, Below w.heap.size w W → ∀ v x, (v = .slice (some ⟨b, off, none⟩) k cap ∧ x = rootB (l.take k)) ∨ (v = .slice (some ⟨b, off + k, none⟩) (n - k) (cap - k) ∧ x = rootB (l.drop k)) →
        Calls Tryd.prog 26 #[v] W fun e w' => e = .returned (.string x) ∧ Below w.heap.size w w') := Lib.hid (by
      intro W hW v x hv
      have hT' := HT.out.below hW
      have hS' := HSA.out.below hW hb
      have hz := hW.size
      rcases hv with ⟨rfl, rfl⟩ | ⟨rfl, rfl⟩
      · exact (ih k hk2 (l.take k) b off cap W (by simp; omega) hk1 (by omega) (by omega) (hS'.take k) (by omega) (hsh.take k) hT').mono fun e w' h => ⟨h.1, hW.trans (h.2.mono hz)⟩
      · exact (ih (n - k) (by omega) (l.drop k) b (off + k) (cap - k) W (by simp; omega) (by omega) (by omega) (by omega) (hS'.drop k) (by omega) (hsh.drop k) hT').mono fun e w' h => ⟨h.1, hW.trans (h.2.mono hz)⟩)
    have HND : Hid (∀ W, Below w.heap.size w W → Calls Tryd.prog 16 #[.string (rootB (l.take k)), .string (rootB (l.drop k))] W fun e w' => e = .returned (.string (rootB l)) ∧ Below w.heap.size w w') := Lib.hid (by
      intro W hW
      rw [HV.out]
      exact (Node_any _ _ W (HT.out.below hW) (by rw [rootB_size, rootB_size]; decide)).mono fun e w' h => ⟨h.1, hW.trans (h.2.mono hW.size)⟩)
    have hsp : Calls Tryd.prog 44 #[.int .i64 n] w fun e w' => e = .returned (.int .i64 (k : Nat)) ∧ w = w' := by rw [hk]; exact split_any n w (by omega) hmax
    have HSP := Lib.hid hsp
    have q0 : ((n : Int) == 0) = false := by simp; omega
    have q1 : ((n : Int) == 1) = false := by simp; omega
    have q2 : (k : Int) ≤ (cap : Int) := by omega
    have q3 : (k : Int) ≤ (n : Int) := by omega
    have q4 : ¬ cap = k := by omega
    have q5 : 0 ≤ (k : Int) := by omega
    clear hk hT hS ih hsh hsp hn hone
    go_enter Tryd.func26, Tryd.ntmps26
    go_wp2_with fail
    refine HSP.out.mono ?_
    rintro e w' ⟨rfl, rfl⟩
    go_wp2_with fail
    go_region_held3 (fun w' => Below w.heap.size w w') (first | exact Below.refl _ _ | exact (Below.refl _ _).drew | assumption) ((first | (go_at_call 26; refine (HC.out _ (by first | exact Below.refl _ _ | exact (Below.refl _ _).drew | assumption) _ _ (by first | exact .inl ⟨rfl, rfl⟩ | exact .inr ⟨rfl, rfl⟩)).mono ?_; rintro e w5 ⟨rfl, hb5⟩) | (go_at_call 16; refine (HND.out _ (by first | exact Below.refl _ _ | exact (Below.refl _ _).drew | assumption)).mono ?_; rintro e w5 ⟨rfl, hb5⟩)))
    all_goals
      go_wp2_with fail
      go_ret
      exact ⟨rfl, by assumption⟩

theorem root_some (n : Nat) : ∀ (l : List ByteArray) (b off cap : Nat) (w : World), l.length = n → 1 ≤ n → n ≤ cap → n ≤ 9223372036854775807 → StrsAt w b off l → b < w.heap.size → Short l → Tabs w →
    Calls Tryd.prog 26 #[.slice (some ⟨b, off, none⟩) n cap] w fun e w' => e = .returned (.string (rootB l)) ∧ Below w.heap.size w w' := by
  induction n using Nat.strongRecOn with
  | _ n ih => exact fun l b off cap w h1 h2 h3 h4 h5 h6 h7 h8 => root_step n (fun m hm l b off cap w h1 h2 h3 h4 h5 h6 h7 h8 => ih m hm l b off cap w h1 h2 h3 h4 h5 h6 h7 h8) l b off cap w h1 h2 h3 h4 h5 h6 h7 h8

/-- A slice of strings that reads as this list. -/
def ListAt (W : World) (v : Value) (l : List ByteArray) : Prop :=
  Short l ∧ ((∃ a c, v = .slice a 0 c ∧ l = []) ∨ ∃ b off cap, v = .slice (some ⟨b, off, none⟩) l.length cap ∧ 1 ≤ l.length ∧ l.length ≤ cap ∧ cap ≤ 9223372036854775807 ∧ StrsAt W b off l ∧ b < W.heap.size)
theorem ListAt.below {W W' : World} {v : Value} {l : List ByteArray} (h : ListAt W v l) (hb : Below W.heap.size W W') : ListAt W' v l := by
  refine ⟨h.1, ?_⟩
  rcases h.2 with h | ⟨b, off, cap, h1, h2, h3, h4, h5, h6⟩
  · exact .inl h
  · exact .inr ⟨b, off, cap, h1, h2, h3, h4, h5.below hb h6, Nat.lt_of_lt_of_le h6 hb.size⟩
theorem Root_any (v : Value) (l : List ByteArray) (w : World) (h : ListAt w v l) (hT : Tabs w) :
    Calls Tryd.prog 26 #[v] w fun e w' => e = .returned (.string (rootB l)) ∧ Below w.heap.size w w' := by
  obtain ⟨hs, ⟨a, c, rfl, rfl⟩ | ⟨b, off, cap, rfl, h1, h2, h3, h4, h5⟩⟩ := h
  · exact root_nil_any a c w hT
  · exact root_some l.length l b off cap w rfl h1 h2 (by omega) h4 h5 hs hT
end Go.Proofs.YtlnlhjkdbpkaiaaDoor
