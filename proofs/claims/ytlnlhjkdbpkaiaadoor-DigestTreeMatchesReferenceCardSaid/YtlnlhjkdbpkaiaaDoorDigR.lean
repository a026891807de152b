/- few returns the first strings, each cut to 60 bytes, in new memory. Conditions: the list is readable, its lengths fit an int, and the number is at most 100. -/
import Derived.Test.YtlnlhjkdbpkaiaaDoorDigQ
import Derived.LoopTactic
import Derived.WalkLawsBesides
namespace Go.Proofs.YtlnlhjkdbpkaiaaDoor
open Go.RowKit

theorem run_min2 (ts : Array TypeId) (t : TypeId) (x y : Int) (W : World) : (Builtin.min_ ts t #[.int .i64 x, .int .i64 y]).run Tryd.prog W = .ok (.int .i64 (if y < x then y else x)) W := by
  simp [Builtin.min_, Builtin.min2]
def cut60 (x : ByteArray) : ByteArray := x.extract 0 (min x.size 60)
def fewL (l : List ByteArray) (n : Nat) : List ByteArray := (l.take n).map cut60
theorem cut60_le (x : ByteArray) : (cut60 x).size ≤ 60 := by unfold cut60; simp; omega
theorem fewL_short (l : List ByteArray) (n : Nat) : Short (fewL l n) := fun x hx => by
  obtain ⟨y, _, rfl⟩ := List.mem_map.1 hx
  have := cut60_le y; omega
theorem fewL_len (l : List ByteArray) (n : Nat) : (fewL l n).length ≤ n := by simp [fewL]; omega
theorem fewL_succ (l : List ByteArray) (k : Nat) (hk : k < l.length) : fewL l (k + 1) = fewL l k ++ [cut60 (l.getD k ByteArray.empty)] := by
  unfold fewL
  rw [List.take_succ_eq_append_getElem hk, List.map_append]
  simp [List.getD, hk]

set_option maxRecDepth 100000 in
set_option maxHeartbeats 4000000 in
theorem few_some (l : List ByteArray) (b off cap n : Nat) (w : World) (h1 : 1 ≤ l.length) (hmax : l.length ≤ 9223372036854775807) (hz : ∀ x ∈ l, x.size ≤ 9223372036854775807) (hS : StrsAt w b off l) (hb : b < w.heap.size) (hn : n ≤ 100) :
    Calls Tryd.prog 20 #[.slice (some ⟨b, off, none⟩) l.length cap, .int .i64 n] w fun e w' => ∃ v, e = .returned v ∧ OwnL w' w.heap.size v (fewL l n) ∧ Below w.heap.size w w' := by
  obtain ⟨m, hm⟩ : ∃ m, m = l.length := ⟨_, rfl⟩
  have HS := Lib.hid hS
  have HM := Lib.hid hm
  have HZ := Lib.hid hz
  rw [← hm] at h1 hmax ⊢
  clear hS hm hz
  go_enter Tryd.func20, Tryd.ntmps20
  go_wp2
  go_loopw [5, 6] (fun v c wr => ∃ k : Nat, k ≤ m ∧ k ≤ n ∧ c = .int .i64 k ∧ OwnL wr w.heap.size v (fewL l k) ∧ Below w.heap.size w wr) (fun _ c _ => n - (intOf c).toNat)
  case atStart => exact ⟨0, by omega, by omega, rfl, by unfold fewL; exact OwnL.nil _ _, Below.refl _ _⟩
  case round =>
    obtain ⟨k, hk, hkn, rfl, hO, hB⟩ := hrel
    have HO := Lib.hid hO
    have HB := Lib.hid hB
    clear hO hB
    by_cases hlt : k < m
    · by_cases hlt2 : k < n
      · obtain ⟨x, hx⟩ : ∃ x, x = l.getD k ByteArray.empty := ⟨_, rfl⟩
        have hxs : x.size ≤ 9223372036854775807 := by
          rw [hx]; simp only [List.getD, List.getElem?_eq_getElem (show k < l.length by rw [← HM.out]; exact hlt), Option.getD_some]; exact HZ.out _ (List.getElem_mem _)
        have hc := HS.out k (by rw [← HM.out]; exact hlt)
        rw [← hx] at hc
        have HST : Hid (∀ W, Below w.heap.size w W → W.cell? ⟨b, off + k, none⟩ = some (.string x) ∧ Below w.heap.size w W) := Lib.hid (fun W hW => ⟨(hW.cell (p := ⟨b, off + k, none⟩) hb).trans hc, hW⟩)
        have hcw := (HST.out _ HB.out).1
        obtain ⟨q, hq⟩ : ∃ q, q = min x.size 60 := ⟨_, rfl⟩
        have hmin : ∀ (ts : Array TypeId) (t : TypeId) (W : World), (Builtin.min_ ts t #[.int .i64 (x.size : Int), .int .i64 60]).run Tryd.prog W = .ok (.int .i64 (q : Int)) W := by
          intro ts t W
          rw [run_min2, hq]
          congr 2
          split <;> omega
        have hq1 : q ≤ x.size := by omega
        have hq2 : q ≤ 60 := by omega
        have HN : Hid (fewL l (k + 1) = fewL l k ++ [x.extract 0 q]) := Lib.hid (by rw [fewL_succ l k (by rw [← HM.out]; exact hlt), ← hx, hq]; rfl)
        obtain ⟨fk, hfk⟩ : ∃ f, f = fewL l k := ⟨_, rfl⟩
        have hfl : fk.length ≤ 1000 := by rw [hfk]; have := fewL_len l k; omega
        rw [← hfk] at HN HO
        have i0 : 0 ≤ (k : Int) := by omega
        have i1 : (k : Int) < (m : Int) := by omega
        have q3 : (q : Int) ≤ (x.size : Int) := by omega
        clear hx hc hq hfk
        go_wp2
        go_region_held3 (fun w' => w'.cell? ⟨b, off + k, none⟩ = some (.string x) ∧ Below w.heap.size w w') (exact HST.out _ (by first | exact HB.out | exact HB.out.drew | assumption | exact below_alloc HB.out _ | exact (below_alloc HB.out _).drew | exact below_alloc HB.out.drew _)) ((first | (refine step_append_str rfl (.tmp 18) (.tmp 30) rfl w.heap.size _ fk rfl ?_ _ _ (x.extract 0 q) rfl ?_ hfl ?_ ?_; (first | exact OwnL.alloc HO.out _ | exact OwnL.alloc HO.out.drew _); go_simp; (first | exact (below_alloc HB.out _).size | exact (below_alloc HB.out.drew _).size); intro v7 w7 ho7 hg7; have hb7 : Below w.heap.size w w7 := (by first | exact (below_alloc HB.out _).trans hg7 | exact (below_alloc HB.out.drew _).trans hg7); clear hg7)))
        all_goals
          go_wp2
          go_roundw
          case rel => exact ⟨k + 1, by omega, by omega, by go_num, by rw [HN.out]; assumption, by assumption⟩
          case measure => simp [intOf]; omega
      · have HV : Hid (fewL l n = fewL l k) := Lib.hid (by rw [show n = k by omega])
        go_wp2
        go_ret
        exact ⟨_, rfl, by rw [HV.out]; exact HO.out, HB.out⟩
    · have HV : Hid (fewL l n = fewL l k) := Lib.hid (by
        unfold fewL
        rw [List.take_of_length_le (by rw [← HM.out]; omega), List.take_of_length_le (by rw [← HM.out]; omega)])
      go_wp2
      go_ret
      exact ⟨_, rfl, by rw [HV.out]; exact HO.out, HB.out⟩
set_option maxHeartbeats 1000000 in
theorem few_none (a : Option Addr) (c n : Nat) (w : World) :
    Calls Tryd.prog 20 #[.slice a 0 c, .int .i64 n] w fun e w' => ∃ v, e = .returned v ∧ OwnL w' w.heap.size v (fewL [] n) ∧ Below w.heap.size w w' := by
  have HV : Hid (fewL [] n = []) := Lib.hid (by simp [fewL])
  go_enter Tryd.func20, Tryd.ntmps20
  go_wp2
  refine wp_loop_rounds 1 ?_
  rw [rounds_succ]
  go_wp2
  go_ret
  exact ⟨_, rfl, by rw [HV.out]; exact OwnL.nil _ _, Below.refl _ _⟩
/-- An argument: a slice of strings, however long they are. -/
def ArgAt (W : World) (v : Value) (l : List ByteArray) : Prop :=
  (∀ x ∈ l, x.size ≤ 9223372036854775807) ∧ l.length ≤ 9223372036854775807 ∧ ((∃ a c, v = .slice a 0 c ∧ l = []) ∨ ∃ b off cap, v = .slice (some ⟨b, off, none⟩) l.length cap ∧ 1 ≤ l.length ∧ StrsAt W b off l ∧ b < W.heap.size)
theorem ArgAt.below {W W' : World} {v : Value} {l : List ByteArray} (h : ArgAt W v l) (hb : Below W.heap.size W W') : ArgAt W' v l := by
  refine ⟨h.1, h.2.1, ?_⟩
  rcases h.2.2 with h | ⟨b, off, cap, h1, h2, h3, h4⟩
  · exact .inl h
  · exact .inr ⟨b, off, cap, h1, h2, h3.below hb h4, Nat.lt_of_lt_of_le h4 hb.size⟩
theorem few_any (v : Value) (l : List ByteArray) (n : Nat) (w : World) (h : ArgAt w v l) (hn : n ≤ 100) :
    Calls Tryd.prog 20 #[v, .int .i64 n] w fun e w' => ∃ u, e = .returned u ∧ OwnL w' w.heap.size u (fewL l n) ∧ Below w.heap.size w w' := by
  obtain ⟨hz, hm, ⟨a, c, rfl, rfl⟩ | ⟨b, off, cap, rfl, h1, h2, h3⟩⟩ := h
  · exact few_none a c n w
  · exact few_some l b off cap n w h1 hm hz h2 h3 hn
theorem few_list {W : World} {base : Nat} {v : Value} {l : List ByteArray} {n : Nat} (h : OwnL W base v (fewL l n)) : ListAt W v (fewL l n) := h.list (fewL_short l n)
end Go.Proofs.YtlnlhjkdbpkaiaaDoor
