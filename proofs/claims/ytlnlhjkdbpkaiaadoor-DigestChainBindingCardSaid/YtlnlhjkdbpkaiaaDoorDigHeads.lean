/- heads returns the strings that are digested for a head, in new memory, and the head. Conditions: the list is readable, its strings have at most 500 bytes, and it has at most 500 strings; the tables hold their numbers. -/
import Derived.Test.YtlnlhjkdbpkaiaaDoorDigWay
namespace Go.Proofs.YtlnlhjkdbpkaiaaDoor
open Go.RowKit

theorem headR_sz (r : List ByteArray) : (Dt.headR shaB r).size = 32 := Dt.headR_size shaB shaB_size r
theorem headsR_short (r : List ByteArray) (h : ∀ x ∈ r, x.size ≤ 500) : Short (Dt.headsR shaB r) := by
  induction r with
  | nil => intro y hy; cases hy
  | cons s r ih =>
    intro y hy
    rcases List.mem_cons.1 hy with rfl | hy
    · have := h s (by simp); rw [chainS_size, headR_sz]; omega
    · exact ih (fun x hx => h x (by simp [hx])) y hy
theorem take_rev_succ (l : List ByteArray) (k : Nat) (hk : k < l.length) : (l.take (k + 1)).reverse = l.getD k ByteArray.empty :: (l.take k).reverse := by
  rw [List.take_succ_eq_append_getElem hk, List.reverse_append]
  simp [List.getD, hk]

/-- 32 zero bytes, as a row. -/
def z32 : Array Value := ⟨List.replicate 32 (Value.int .u8 0)⟩
theorem make_z32 (w : World) : (Instr.makeSlice 42 (.int .i64 32) (.int .i64 32)).run Tryd.prog w = .ok (.slice (some ⟨w.heap.size, 0, none⟩) 32 32) (w.alloc (.cells z32 5)) := by kernel_rfl
theorem str_z32 (W : World) (g : Nat) (h : W.heap[g]? = some (.cells z32 5 (0, 0))) : (convert 42 9 (.slice (some ⟨g, 0, none⟩) 32 32)).run Tryd.prog W = .ok (.string Dt.zeros) W := by
  have := run_convert_bytes_back (P := Tryd.prog) W 42 9 5 ⟨g, 0, none⟩ 32 (List.replicate 32 0) Tryd.underlying42 Tryd.underlying5 Tryd.underlying9 (fun j hj => by
    rw [show (⟨g, 0, none⟩ : Addr).add j = ⟨g, j, none⟩ by cases j <;> simp [Addr.add]]
    rw [cell_of_row W g j _ _ _ h]
    have hj' : j < 32 := by rwa [List.length_replicate] at hj
    rw [List.getElem_replicate]
    show (⟨List.replicate 32 (Value.int .u8 0)⟩ : Array Value)[j]? = some (Value.int .u8 0)
    rw [List.getElem?_toArray, List.getElem?_replicate, if_pos hj'])
  exact this

set_option maxRecDepth 100000 in
set_option maxHeartbeats 4000000 in
theorem heads_some (l : List ByteArray) (b off cap : Nat) (w : World) (hz : ∀ x ∈ l, x.size ≤ 500) (hmax : l.length ≤ 500) (hS : StrsAt w b off l) (hb : b < w.heap.size) (hT : Tabs w) :
    Calls Tryd.prog 33 #[.slice (some ⟨b, off, none⟩) l.length cap] w fun e w' => ∃ v, e = .returned (.tuple #[v, .string (Dt.headR shaB l.reverse)]) ∧ OwnL w' w.heap.size v (Dt.headsR shaB l.reverse) ∧ Below w.heap.size w w' := by
  obtain ⟨m, hm⟩ : ∃ m, m = l.length := ⟨_, rfl⟩
  have HM := Lib.hid hm
  have HS : Hid (∀ W, Below w.heap.size w W → ∀ k, k < m → W.cell? ⟨b, off + k, none⟩ = some (.string (l.getD k ByteArray.empty))) := Lib.hid (fun W hW k hk => (hS.below hW hb) k (by omega))
  have HZ := Lib.hid hz
  have HT := Lib.hid hT
  rw [← hm] at hmax ⊢
  clear hS hT hz hm
  have hmk := make_z32 w
  have hsz := str_z32 _ w.heap.size (heap_alloc_new w (.cells z32 5))
  go_enter Tryd.func33, Tryd.ntmps33
  go_wp2
  go_loopw [4, 5, 6] (fun h v c wr => ∃ k : Nat, k ≤ m ∧ h = .string (Dt.headR shaB (l.take k).reverse) ∧ c = .int .i64 k ∧ OwnL wr w.heap.size v (Dt.headsR shaB (l.take k).reverse) ∧ Below w.heap.size w wr) (fun _ _ c _ => m - (intOf c).toNat)
  case atStart => exact ⟨0, by omega, rfl, rfl, OwnL.nil _ _, (Below.refl _ w).alloc (Nat.le_refl _) _⟩
  case round =>
    obtain ⟨k, hk, rfl, rfl, hO, hB⟩ := hrel
    have HO := Lib.hid hO
    have HB := Lib.hid hB
    clear hO hB
    by_cases hkm : k < m
    · obtain ⟨x, hx⟩ : ∃ x, x = l.getD k ByteArray.empty := ⟨_, rfl⟩
      have hc := HS.out _ HB.out k hkm
      have hxz : x.size ≤ 500 := by
        rw [hx]; simp only [List.getD, List.getElem?_eq_getElem (show k < l.length by rw [← HM.out]; exact hkm), Option.getD_some]; exact HZ.out _ (List.getElem_mem _)
      have hhz := headR_sz (l.take k).reverse
      have hll : (Dt.headsR shaB (l.take k).reverse).length ≤ 500 := by rw [Dt.headsR_len]; simp; omega
      have hsh := headsR_short (l.take k).reverse (fun y hy => HZ.out y (List.mem_of_mem_take (by simpa using hy)))
      have HN : Hid ((l.take (k + 1)).reverse = x :: (l.take k).reverse) := Lib.hid (by rw [hx]; exact take_rev_succ l k (by rw [← HM.out]; exact hkm))
      have HH : Hid (Dt.headR shaB (l.take (k + 1)).reverse = Dt.chain shaB (Dt.headR shaB (l.take k).reverse) x ∧ Dt.headsR shaB (l.take (k + 1)).reverse = Dt.chainS (Dt.headR shaB (l.take k).reverse) x :: Dt.headsR shaB (l.take k).reverse) := Lib.hid (by rw [HN.out]; exact ⟨rfl, rfl⟩)
      obtain ⟨hd, hhd⟩ : ∃ h, h = Dt.headR shaB (l.take k).reverse := ⟨_, rfl⟩
      obtain ⟨hs, hhs⟩ : ∃ h, h = Dt.headsR shaB (l.take k).reverse := ⟨_, rfl⟩
      rw [← hx] at hc
      rw [← hhd] at hhz HH ⊢
      rw [← hhs] at hll hsh HH HO
      have HA : Hid (∀ o, Below wr.heap.size wr (wr.alloc o)) := Lib.hid (fun o => (Below.refl _ wr).alloc (Nat.le_refl _) o)
      have HL : Hid (∀ o v, OwnL wr w.heap.size v hs → ListAt (wr.alloc o) v hs) := Lib.hid (fun o v h => (h.below (HA.out o)).list hsh)
      have HCC : Hid (∀ o W, Below wr.heap.size (wr.alloc o) W → W.cell? ⟨b, off + k, none⟩ = some (.string x)) := Lib.hid (fun o W hW => by rw [hx]; exact HS.out W (HB.out.trans (((HA.out o).trans hW).mono HB.out.size)) k hkm)
      have hl2 : [Dt.chainS hd x].length + hs.length ≤ 1000 := by simp; omega
      have i0 : 0 ≤ (k : Int) := by omega
      have i1 : (k : Int) < (m : Int) := by omega
      clear hx hsh hhd hhs
      go_wp2_with (refine wpList_append_list rfl (.tmp 22) (.tmp 23) rfl wr.heap.size _ _ [Dt.chainS hd x] hs rfl (OwnL.one (Nat.le_refl _) _) rfl (HL.out _ _ HO.out) hl2 (HA.out _).size ?_; intro u2 w2 ho2 hB2; have hc2 := HCC.out _ _ hB2)
      have HB2 := Lib.hid (HB.out.trans (((HA.out _).trans hB2).mono HB.out.size))
      refine (Chain_any _ _ _ (HT.out.below HB2.out) (by omega)).mono ?_
      rintro e w3 ⟨rfl, hB3⟩
      have HO3 := Lib.hid ((ho2.below hB3).mono HB.out.size)
      have HB3 := Lib.hid (HB2.out.trans (hB3.mono HB2.out.size))
      clear ho2 hB2 hB3
      go_wp2_with fail
      go_roundw
      case rel => exact ⟨k + 1, by omega, by rw [HH.out.1], by go_num, by rw [HH.out.2]; exact HO3.out, HB3.out⟩
      case measure => simp [intOf]; omega
    · have HV : Hid (l.reverse = (l.take k).reverse) := Lib.hid (by rw [List.take_of_length_le (by rw [← HM.out]; omega)])
      go_wp2_with fail
      go_ret2
      exact ⟨_, by rw [HV.out]; rfl, by rw [HV.out]; exact HO.out, HB.out⟩
set_option maxRecDepth 100000 in
set_option maxHeartbeats 4000000 in
theorem heads_nil (a : Option Addr) (c : Nat) (w : World) :
    Calls Tryd.prog 33 #[.slice a 0 c] w fun e w' => ∃ v, e = .returned (.tuple #[v, .string (Dt.headR shaB [])]) ∧ OwnL w' w.heap.size v (Dt.headsR shaB []) ∧ Below w.heap.size w w' := by
  have hmk := make_z32 w
  have hsz := str_z32 _ w.heap.size (heap_alloc_new w (.cells z32 5))
  go_enter Tryd.func33, Tryd.ntmps33
  go_wp2
  refine wp_loop_rounds 1 ?_
  rw [rounds_succ]
  go_wp2
  go_ret2
  exact ⟨_, rfl, OwnL.nil _ _, (Below.refl _ w).alloc (Nat.le_refl _) _⟩
theorem heads_any (v : Value) (l : List ByteArray) (w : World) (hz : ∀ x ∈ l, x.size ≤ 500) (hmax : l.length ≤ 500) (hL : ListAt w v l) (hT : Tabs w) :
    Calls Tryd.prog 33 #[v] w fun e w' => ∃ v, e = .returned (.tuple #[v, .string (Dt.headR shaB l.reverse)]) ∧ OwnL w' w.heap.size v (Dt.headsR shaB l.reverse) ∧ Below w.heap.size w w' := by
  obtain ⟨_, ⟨a, c, rfl, rfl⟩ | ⟨b, off, cap, rfl, k1, k2, k3, k4, k5⟩⟩ := hL
  · exact heads_nil a c w
  · exact heads_some l b off cap w hz hmax k4 k5 hT
end Go.Proofs.YtlnlhjkdbpkaiaaDoor
