/- Refusing: a refusal with a reason, a refusal without one, a field that is asked for. Conditions: the value lies in memory; its numbers are small. number and power. Conditions: at most three bytes; a width from 1 to 3. A region that draws its order, where what is read is written only by an operation that waits for the reading: told by a condition on the world that holds as long as that operation has not come up. No condition of its own. (After the library's OrdersHeld.) -/
import Derived.Test.YtlhobhfmombjjaaGreatDoorPa02
import Derived.OrdersHeld
import Derived.Deep.RegionHeld
import Derived.BigQuiet
import Derived.Deep.QuietTactic
import Derived.WalkKit
namespace Go.Proofs.YtlhobhfmombjjaaGreatDoor
section RecD
open Go.RowKit Fx Rec

/-- How a function is stopped by a refusal. -/
abbrev Stops (r : Rf) : Ending := .panicked [{ v := .iface 104 (.agg #[.int .i64 r.offset, .int .i64 r.format, .int .i64 r.field, .int .i64 r.reason]), recovered := false }]

theorem refuse_any (a b c d : Int) (w : World) : Calls Tryz.prog 74 #[.int .i64 a, .int .i64 b, .int .i64 c, .int .i64 d] w fun e w' => e = Stops ⟨a, b, c, d⟩ ∧ ∃ n, w' = w.drewN n := by
  go_enter Tryz.func74, Tryz.ntmps74
  go_wp2
  exact ⟨rfl, rfl, 0, rfl⟩
theorem require_yes (w : World) : Calls Tryz.prog 63 #[.bool true] w fun e w' => e = .returned (.tuple #[]) ∧ w' = w := by
  go_enter Tryz.func63, Tryz.ntmps63
  go_wp2
  first | go_end0 | go_ret
  exact ⟨rfl, rfl⟩
theorem require_no (w : World) : Calls Tryz.prog 63 #[.bool false] w fun e w' => e = Stops zRf ∧ w' = w := by
  go_enter Tryz.func63, Tryz.ntmps63
  go_wp2
  exact ⟨rfl, rfl, rfl⟩

/-- A value that is being recognised. -/
structure Vl where
  depth : Int
  format : Int
  field : Int
  start : Int
  at_ : Int
  limit : Int
  nums : List Int
def vlC (v : Vl) : List Value := [.int .i64 v.depth, .int .i64 v.format, .int .i64 v.field, .int .i64 v.start, .int .i64 v.at_, .int .i64 v.limit] ++ v.nums.map fun (n : Int) => Value.int .i64 n
structure VAt (w : World) (vb : Nat) (v : Vl) : Prop where
  blk : Blk w vb 145 (vlC v).toArray
  len : v.nums.length = 16
theorem VAt.keep {w w' : World} {vb : Nat} {v : Vl} (h : VAt w vb v) (hb : w'.heap[vb]? = w.heap[vb]?) : VAt w' vb v := ⟨hb.trans h.blk, h.len⟩
theorem VAt.drew {w : World} {vb : Nat} {v : Vl} (h : VAt w vb v) : VAt w.drew vb v := ⟨h.blk, h.len⟩
theorem VAt.cells {w : World} {vb : Nat} {v : Vl} (h : VAt w vb v) : w.cell? ⟨vb, 0, none⟩ = some (.int .i64 v.depth) ∧ w.cell? ⟨vb, 1, none⟩ = some (.int .i64 v.format) ∧ w.cell? ⟨vb, 2, none⟩ = some (.int .i64 v.field) ∧
    w.cell? ⟨vb, 3, none⟩ = some (.int .i64 v.start) ∧ w.cell? ⟨vb, 4, none⟩ = some (.int .i64 v.at_) ∧ w.cell? ⟨vb, 5, none⟩ = some (.int .i64 v.limit) := by
  refine ⟨?_, ?_, ?_, ?_, ?_, ?_⟩ <;> (rw [h.blk.cell]; rfl)
theorem VAt.num {w : World} {vb : Nat} {v : Vl} (h : VAt w vb v) {i : Nat} (hi : i < 16) : w.cell? ⟨vb, 6 + i, none⟩ = some (.int .i64 (v.nums.getD i 0)) := by
  rw [h.blk.cell]
  have hl := h.len
  simp [vlC, List.getD, hl, hi, Nat.add_comm 6 i]

set_option maxHeartbeats 1000000 in
theorem vrequire_yes (x : Value) (m : Int) (w : World) : Calls Tryz.prog 95 #[x, .bool true, .int .i64 m] w fun e w' => e = .returned (.tuple #[]) ∧ w' = w := by
  go_enter Tryz.func95, Tryz.ntmps95
  go_wp2
  first | go_end0 | go_ret
  exact ⟨rfl, rfl⟩
set_option maxHeartbeats 1000000 in
theorem vrequire_no (vb : Nat) (v : Vl) (m : Int) (w : World) (h : VAt w vb v) :
    Calls Tryz.prog 95 #[.pointer (some ⟨vb, 0, none⟩), .bool false, .int .i64 m] w fun e w' => e = Stops ⟨v.at_, v.format, v.field, m⟩ ∧ ∃ n, w' = w.drewN n := by
  obtain ⟨c0, c1, c2, c3, c4, c5⟩ := h.cells
  clear h
  go_enter Tryz.func95, Tryz.ntmps95
  go_wp2_with fail
  refine wp_region_held_drew (S := (fun w' : World => ∃ n : Nat, w' = w.drewN n)) (by kernel_rfl) ⟨1, rfl⟩ (fun hHeld => ?_)
  refine wpAnyH_take (i := 0) (oi := ?o1) (v := ?v1) ?h1 ?a1 ?b1 ?c1 ?q1 (Or.inl ⟨?g1, ?y1⟩) ?s1 ?r1
  case h1 => (simp only [List.getElem?_toArray, List.getElem?_cons_zero]; rfl)
  case a1 => kernel_rfl
  case b1 => kernel_rfl
  case c1 => kernel_rfl
  case q1 => exact fun _ _ _ h => h
  case g1 => rfl
  case y1 => (intro wS hSw; obtain ⟨nS, rfl⟩ := hSw; go_simp; (try with_reducible rfl))
  case s1 => assumption
  (try simp only [Act.put, List.setIfInBounds_toArray, List.set_cons_zero, List.set_cons_succ])
  refine wpAnyH_take (i := 1) (oi := ?o2) (v := ?v2) ?h2 ?a2 ?b2 ?c2 ?q2 (Or.inl ⟨?g2, ?y2⟩) ?s2 ?r2
  case h2 => (simp only [List.getElem?_toArray, List.getElem?_cons_zero, List.getElem?_cons_succ]; rfl)
  case a2 => kernel_rfl
  case b2 => kernel_rfl
  case c2 => kernel_rfl
  case q2 => exact fun _ _ _ h => h
  case g2 => rfl
  case y2 => (intro wS hSw; obtain ⟨nS, rfl⟩ := hSw; go_simp; (try with_reducible rfl))
  case s2 => assumption
  (try simp only [Act.put, List.setIfInBounds_toArray, List.set_cons_zero, List.set_cons_succ])
  refine wpAnyH_take (i := 2) (oi := ?o3) (v := ?v3) ?h3 ?a3 ?b3 ?c3 ?q3 (Or.inl ⟨?g3, ?y3⟩) ?s3 ?r3
  case h3 => (simp only [List.getElem?_toArray, List.getElem?_cons_zero, List.getElem?_cons_succ]; rfl)
  case a3 => kernel_rfl
  case b3 => kernel_rfl
  case c3 => kernel_rfl
  case q3 => exact fun _ _ _ h => h
  case g3 => rfl
  case y3 => (intro wS hSw; obtain ⟨nS, rfl⟩ := hSw; go_simp; (try with_reducible rfl))
  case s3 => assumption
  (try simp only [Act.put, List.setIfInBounds_toArray, List.set_cons_zero, List.set_cons_succ])
  refine wpAnyH_take (i := 3) (oi := ?o4) (v := ?v4) ?h4 ?a4 ?b4 ?c4 ?q4 (Or.inl ⟨?g4, ?y4⟩) ?s4 ?r4
  case h4 => (simp only [List.getElem?_toArray, List.getElem?_cons_zero, List.getElem?_cons_succ]; rfl)
  case a4 => kernel_rfl
  case b4 => kernel_rfl
  case c4 => kernel_rfl
  case q4 => exact fun _ _ _ h => h
  case g4 => rfl
  case y4 => (intro wS hSw; obtain ⟨nS, rfl⟩ := hSw; go_simp; (try with_reducible rfl))
  case s4 => assumption
  (try simp only [Act.put, List.setIfInBounds_toArray, List.set_cons_zero, List.set_cons_succ])
  refine wpAnyH_take (i := 4) (oi := ?o5) (v := ?v5) ?h5 ?a5 ?b5 ?c5 ?q5 (Or.inl ⟨?g5, ?y5⟩) ?s5 ?r5
  case h5 => (simp only [List.getElem?_toArray, List.getElem?_cons_zero, List.getElem?_cons_succ]; rfl)
  case a5 => kernel_rfl
  case b5 => kernel_rfl
  case c5 => kernel_rfl
  case q5 => exact fun _ _ _ h => h
  case g5 => rfl
  case y5 => (intro wS hSw; obtain ⟨nS, rfl⟩ := hSw; go_simp; (try with_reducible rfl))
  case s5 => assumption
  (try simp only [Act.put, List.setIfInBounds_toArray, List.set_cons_zero, List.set_cons_succ])
  refine wpAnyH_take (i := 5) (oi := ?o6) (v := ?v6) ?h6 ?a6 ?b6 ?c6 ?q6 (Or.inl ⟨?g6, ?y6⟩) ?s6 ?r6
  case h6 => (simp only [List.getElem?_toArray, List.getElem?_cons_zero, List.getElem?_cons_succ]; rfl)
  case a6 => kernel_rfl
  case b6 => kernel_rfl
  case c6 => kernel_rfl
  case q6 => exact fun _ _ _ h => h
  case g6 => rfl
  case y6 => (intro wS hSw; obtain ⟨nS, rfl⟩ := hSw; go_simp; (try with_reducible rfl))
  case s6 => assumption
  (try simp only [Act.put, List.setIfInBounds_toArray, List.set_cons_zero, List.set_cons_succ])
  refine wpAnyH_take (i := 6) (oi := ?o7) (v := ?v7) ?h7 ?a7 ?b7 ?c7 ?q7 (Or.inl ⟨?g7, ?y7⟩) ?s7 ?r7
  case h7 => (simp only [List.getElem?_toArray, List.getElem?_cons_zero, List.getElem?_cons_succ]; rfl)
  case a7 => kernel_rfl
  case b7 => kernel_rfl
  case c7 => kernel_rfl
  case q7 => exact fun _ _ _ h => h
  case g7 => rfl
  case y7 => (intro wS hSw; obtain ⟨nS, rfl⟩ := hSw; go_simp; (try with_reducible rfl))
  case s7 => assumption
  (try simp only [Act.put, List.setIfInBounds_toArray, List.set_cons_zero, List.set_cons_succ])
  refine wpAnyH_take (i := 7) (oi := ?o8) (v := ?v8) ?h8 ?a8 ?b8 ?c8 ?q8 (Or.inl ⟨?g8, ?y8⟩) ?s8 ?r8
  case h8 => (simp only [List.getElem?_toArray, List.getElem?_cons_zero, List.getElem?_cons_succ]; rfl)
  case a8 => kernel_rfl
  case b8 => kernel_rfl
  case c8 => kernel_rfl
  case q8 => exact fun _ _ _ h => h
  case g8 => rfl
  case y8 => (intro wS hSw; obtain ⟨nS, rfl⟩ := hSw; go_simp; (try with_reducible rfl))
  case s8 => assumption
  (try simp only [Act.put, List.setIfInBounds_toArray, List.set_cons_zero, List.set_cons_succ])
  refine wpAnyH_take (i := 8) (oi := ?o9) (v := ?v9) ?h9 ?a9 ?b9 ?c9 ?q9 (Or.inl ⟨?g9, ?y9⟩) ?s9 ?r9
  case h9 => (simp only [List.getElem?_toArray, List.getElem?_cons_zero, List.getElem?_cons_succ]; rfl)
  case a9 => kernel_rfl
  case b9 => kernel_rfl
  case c9 => kernel_rfl
  case q9 => exact fun _ _ _ h => h
  case g9 => rfl
  case y9 => (intro wS hSw; obtain ⟨nS, rfl⟩ := hSw; go_simp; (try with_reducible rfl))
  case s9 => assumption
  (try simp only [Act.put, List.setIfInBounds_toArray, List.set_cons_zero, List.set_cons_succ])
  refine wpAnyH_take (i := 9) (oi := ?o10) (v := ?v10) ?h10 ?a10 ?b10 ?c10 ?q10 (Or.inl ⟨?g10, ?y10⟩) ?s10 ?r10
  case h10 => (simp only [List.getElem?_toArray, List.getElem?_cons_zero, List.getElem?_cons_succ]; rfl)
  case a10 => kernel_rfl
  case b10 => kernel_rfl
  case c10 => kernel_rfl
  case q10 => exact fun _ _ _ h => h
  case g10 => rfl
  case y10 => (intro wS hSw; obtain ⟨nS, rfl⟩ := hSw; go_simp; (try with_reducible rfl))
  case s10 => assumption
  (try simp only [Act.put, List.setIfInBounds_toArray, List.set_cons_zero, List.set_cons_succ])
  refine wpAnyH_take (i := 10) (oi := ?o11) (v := ?v11) ?h11 ?a11 ?b11 ?c11 ?q11 (Or.inl ⟨?g11, ?y11⟩) ?s11 ?r11
  case h11 => (simp only [List.getElem?_toArray, List.getElem?_cons_zero, List.getElem?_cons_succ]; rfl)
  case a11 => kernel_rfl
  case b11 => kernel_rfl
  case c11 => kernel_rfl
  case q11 => exact fun _ _ _ h => h
  case g11 => rfl
  case y11 => (intro wS hSw; obtain ⟨nS, rfl⟩ := hSw; go_simp; (try with_reducible rfl))
  case s11 => assumption
  (try simp only [Act.put, List.setIfInBounds_toArray, List.set_cons_zero, List.set_cons_succ])
  refine wpAnyH_take (i := 11) (oi := ?o12) (v := ?v12) ?h12 ?a12 ?b12 ?c12 ?q12 (Or.inl ⟨?g12, ?y12⟩) ?s12 ?r12
  case h12 => (simp only [List.getElem?_toArray, List.getElem?_cons_zero, List.getElem?_cons_succ]; rfl)
  case a12 => kernel_rfl
  case b12 => kernel_rfl
  case c12 => kernel_rfl
  case q12 => exact fun _ _ _ h => h
  case g12 => rfl
  case y12 => (intro wS hSw; obtain ⟨nS, rfl⟩ := hSw; go_simp; (try with_reducible rfl))
  case s12 => assumption
  (try simp only [Act.put, List.setIfInBounds_toArray, List.set_cons_zero, List.set_cons_succ])
  refine wpAnyH_take (i := 12) (oi := ?o13) (v := ?v13) ?h13 ?a13 ?b13 ?c13 ?q13 (Or.inl ⟨?g13, ?y13⟩) ?s13 ?r13
  case h13 => (simp only [List.getElem?_toArray, List.getElem?_cons_zero, List.getElem?_cons_succ]; rfl)
  case a13 => kernel_rfl
  case b13 => kernel_rfl
  case c13 => kernel_rfl
  case q13 => exact fun _ _ _ h => h
  case g13 => rfl
  case y13 => (intro wS hSw; obtain ⟨nS, rfl⟩ := hSw; go_simp; (try with_reducible rfl))
  case s13 => assumption
  (try simp only [Act.put, List.setIfInBounds_toArray, List.set_cons_zero, List.set_cons_succ])
  refine wpAnyH_ready (rs := [13]) (by kernel_rfl) (by simp) ?_
  refine AllReadyH.cons (o := ?oB14) ?hB14 ?kB14 AllReadyH.nil
  case hB14 => (simp only [List.getElem?_toArray, List.getElem?_cons_zero, List.getElem?_cons_succ]; rfl)
  case kB14 =>
    intro K hK
    go_simp
    refine (refuse_any _ _ _ _ w.drew).mono ?_
    rintro e w5 ⟨rfl, n5, rfl⟩
    exact ⟨rfl, rfl, _, World.drewN_drewN _ 1 _⟩

theorem wr64 {n : Int} (h1 : -9223372036854775808 ≤ n) (h2 : n ≤ 9223372036854775807) : IntKind.i64.wrap n = n := by
  rw [IntKind.wrap_i64]; omega
/-- The value's numbers are small. -/
structure VOk (v : Vl) : Prop where
  at0 : 0 ≤ v.at_
  lim : v.at_ ≤ v.limit
  max : v.limit ≤ 65536
  st0 : 0 ≤ v.start
  st1 : v.start ≤ v.at_
  dep : 0 ≤ v.depth ∧ v.depth ≤ 100
  num : ∀ i, i < 16 → 0 ≤ v.nums.getD i 0 ∧ v.nums.getD i 0 ≤ 16777215
set_option maxHeartbeats 1000000 in
theorem after_yes (vb : Nat) (v : Vl) (n : Int) (w : World) (h : VAt w vb v) (hv : VOk v) (n0 : 0 ≤ n) (n1 : n ≤ 16777215) (hn : n ≤ v.limit - v.at_) :
    Calls Tryz.prog 94 #[.pointer (some ⟨vb, 0, none⟩), .int .i64 n] w fun e w' => e = .returned (.int .i64 (v.at_ + n)) ∧ ∃ m, w' = w.drewN m := by
  obtain ⟨c0, c1, c2, c3, c4, c5⟩ := h.cells
  have b0 := hv.at0
  have b1 := hv.lim
  have b2 := hv.max
  obtain ⟨D, hD⟩ : ∃ D, D = v.limit - v.at_ := ⟨_, rfl⟩
  have hw : IntKind.i64.wrap (v.limit - v.at_) = D := by rw [wr64 (by omega) (by omega)]; exact hD.symm
  have hd : decide (n ≤ D) = true := by rw [decide_eq_true_eq]; omega
  have hs : IntKind.i64.wrap (v.at_ + n) = v.at_ + n := wr64 (by omega) (by omega)
  clear h hv hn hD
  go_enter Tryz.func94, Tryz.ntmps94
  go_wp2_with fail
  refine wp_region_held_drew (S := (fun w' : World => ∃ n : Nat, w' = w.drewN n)) (by kernel_rfl) ⟨1, rfl⟩ (fun hHeld => ?_)
  refine wpAnyH_take (i := 0) (oi := ?o15) (v := ?v15) ?h15 ?a15 ?b15 ?c15 ?q15 (Or.inl ⟨?g15, ?y15⟩) ?s15 ?r15
  case h15 => (simp only [List.getElem?_toArray, List.getElem?_cons_zero]; rfl)
  case a15 => kernel_rfl
  case b15 => kernel_rfl
  case c15 => kernel_rfl
  case q15 => exact fun _ _ _ h => h
  case g15 => rfl
  case y15 => (intro wS hSw; obtain ⟨nS, rfl⟩ := hSw; go_simp; (try with_reducible rfl))
  case s15 => assumption
  (try simp only [Act.put, List.setIfInBounds_toArray, List.set_cons_zero, List.set_cons_succ])
  refine wpAnyH_take (i := 1) (oi := ?o16) (v := ?v16) ?h16 ?a16 ?b16 ?c16 ?q16 (Or.inl ⟨?g16, ?y16⟩) ?s16 ?r16
  case h16 => (simp only [List.getElem?_toArray, List.getElem?_cons_zero, List.getElem?_cons_succ]; rfl)
  case a16 => kernel_rfl
  case b16 => kernel_rfl
  case c16 => kernel_rfl
  case q16 => exact fun _ _ _ h => h
  case g16 => rfl
  case y16 => (intro wS hSw; obtain ⟨nS, rfl⟩ := hSw; go_simp; (try with_reducible rfl))
  case s16 => assumption
  (try simp only [Act.put, List.setIfInBounds_toArray, List.set_cons_zero, List.set_cons_succ])
  refine wpAnyH_take (i := 2) (oi := ?o17) (v := ?v17) ?h17 ?a17 ?b17 ?c17 ?q17 (Or.inl ⟨?g17, ?y17⟩) ?s17 ?r17
  case h17 => (simp only [List.getElem?_toArray, List.getElem?_cons_zero, List.getElem?_cons_succ]; rfl)
  case a17 => kernel_rfl
  case b17 => kernel_rfl
  case c17 => kernel_rfl
  case q17 => exact fun _ _ _ h => h
  case g17 => rfl
  case y17 => (intro wS hSw; obtain ⟨nS, rfl⟩ := hSw; go_simp; (try with_reducible rfl))
  case s17 => assumption
  (try simp only [Act.put, List.setIfInBounds_toArray, List.set_cons_zero, List.set_cons_succ])
  refine wpAnyH_take (i := 3) (oi := ?o18) (v := ?v18) ?h18 ?a18 ?b18 ?c18 ?q18 (Or.inl ⟨?g18, ?y18⟩) ?s18 ?r18
  case h18 => (simp only [List.getElem?_toArray, List.getElem?_cons_zero, List.getElem?_cons_succ]; rfl)
  case a18 => kernel_rfl
  case b18 => kernel_rfl
  case c18 => kernel_rfl
  case q18 => exact fun _ _ _ h => h
  case g18 => rfl
  case y18 => (intro wS hSw; obtain ⟨nS, rfl⟩ := hSw; go_simp; (try with_reducible rfl))
  case s18 => assumption
  (try simp only [Act.put, List.setIfInBounds_toArray, List.set_cons_zero, List.set_cons_succ])
  refine wpAnyH_take (i := 4) (oi := ?o19) (v := ?v19) ?h19 ?a19 ?b19 ?c19 ?q19 (Or.inl ⟨?g19, ?y19⟩) ?s19 ?r19
  case h19 => (simp only [List.getElem?_toArray, List.getElem?_cons_zero, List.getElem?_cons_succ]; rfl)
  case a19 => kernel_rfl
  case b19 => kernel_rfl
  case c19 => kernel_rfl
  case q19 => exact fun _ _ _ h => h
  case g19 => rfl
  case y19 => (intro wS hSw; obtain ⟨nS, rfl⟩ := hSw; go_simp; (try with_reducible rfl))
  case s19 => assumption
  (try simp only [Act.put, List.setIfInBounds_toArray, List.set_cons_zero, List.set_cons_succ])
  refine wpAnyH_take (i := 5) (oi := ?o20) (v := ?v20) ?h20 ?a20 ?b20 ?c20 ?q20 (Or.inl ⟨?g20, ?y20⟩) ?s20 ?r20
  case h20 => (simp only [List.getElem?_toArray, List.getElem?_cons_zero, List.getElem?_cons_succ]; rfl)
  case a20 => kernel_rfl
  case b20 => kernel_rfl
  case c20 => kernel_rfl
  case q20 => exact fun _ _ _ h => h
  case g20 => rfl
  case y20 => (intro wS hSw; obtain ⟨nS, rfl⟩ := hSw; go_simp; (try with_reducible rfl))
  case s20 => assumption
  (try simp only [Act.put, List.setIfInBounds_toArray, List.set_cons_zero, List.set_cons_succ])
  refine wpAnyH_take (i := 6) (oi := ?o21) (v := ?v21) ?h21 ?a21 ?b21 ?c21 ?q21 (Or.inl ⟨?g21, ?y21⟩) ?s21 ?r21
  case h21 => (simp only [List.getElem?_toArray, List.getElem?_cons_zero, List.getElem?_cons_succ]; rfl)
  case a21 => kernel_rfl
  case b21 => kernel_rfl
  case c21 => kernel_rfl
  case q21 => exact fun _ _ _ h => h
  case g21 => rfl
  case y21 => (intro wS hSw; obtain ⟨nS, rfl⟩ := hSw; go_simp; (try with_reducible rfl))
  case s21 => assumption
  (try simp only [Act.put, List.setIfInBounds_toArray, List.set_cons_zero, List.set_cons_succ])
  refine wpAnyH_take (i := 7) (oi := ?o22) (v := ?v22) ?h22 ?a22 ?b22 ?c22 ?q22 (Or.inl ⟨?g22, ?y22⟩) ?s22 ?r22
  case h22 => (simp only [List.getElem?_toArray, List.getElem?_cons_zero, List.getElem?_cons_succ]; rfl)
  case a22 => kernel_rfl
  case b22 => kernel_rfl
  case c22 => kernel_rfl
  case q22 => exact fun _ _ _ h => h
  case g22 => rfl
  case y22 => (intro wS hSw; obtain ⟨nS, rfl⟩ := hSw; go_simp; (try with_reducible rfl))
  case s22 => assumption
  (try simp only [Act.put, List.setIfInBounds_toArray, List.set_cons_zero, List.set_cons_succ])
  refine wpAnyH_take (i := 8) (oi := ?o23) (v := ?v23) ?h23 ?a23 ?b23 ?c23 ?q23 (Or.inl ⟨?g23, ?y23⟩) ?s23 ?r23
  case h23 => (simp only [List.getElem?_toArray, List.getElem?_cons_zero, List.getElem?_cons_succ]; rfl)
  case a23 => kernel_rfl
  case b23 => kernel_rfl
  case c23 => kernel_rfl
  case q23 => exact fun _ _ _ h => h
  case g23 => rfl
  case y23 => (intro wS hSw; obtain ⟨nS, rfl⟩ := hSw; go_simp; (try with_reducible rfl))
  case s23 => assumption
  (try simp only [Act.put, List.setIfInBounds_toArray, List.set_cons_zero, List.set_cons_succ])
  refine wpAnyH_take (i := 9) (oi := ?o24) (v := ?v24) ?h24 ?a24 ?b24 ?c24 ?q24 (Or.inl ⟨?g24, ?y24⟩) ?s24 ?r24
  case h24 => (simp only [List.getElem?_toArray, List.getElem?_cons_zero, List.getElem?_cons_succ]; rfl)
  case a24 => kernel_rfl
  case b24 => kernel_rfl
  case c24 => kernel_rfl
  case q24 => exact fun _ _ _ h => h
  case g24 => rfl
  case y24 => (intro wS hSw; obtain ⟨nS, rfl⟩ := hSw; go_simp; (try with_reducible rfl))
  case s24 => assumption
  (try simp only [Act.put, List.setIfInBounds_toArray, List.set_cons_zero, List.set_cons_succ])
  refine wpAnyH_take (i := 10) (oi := ?o25) (v := ?v25) ?h25 ?a25 ?b25 ?c25 ?q25 (Or.inl ⟨?g25, ?y25⟩) ?s25 ?r25
  case h25 => (simp only [List.getElem?_toArray, List.getElem?_cons_zero, List.getElem?_cons_succ]; rfl)
  case a25 => kernel_rfl
  case b25 => kernel_rfl
  case c25 => kernel_rfl
  case q25 => exact fun _ _ _ h => h
  case g25 => rfl
  case y25 => (intro wS hSw; obtain ⟨nS, rfl⟩ := hSw; go_simp; (try with_reducible rfl))
  case s25 => assumption
  (try simp only [Act.put, List.setIfInBounds_toArray, List.set_cons_zero, List.set_cons_succ])
  refine wpAnyH_take (i := 11) (oi := ?o26) (v := ?v26) ?h26 ?a26 ?b26 ?c26 ?q26 (Or.inl ⟨?g26, ?y26⟩) ?s26 ?r26
  case h26 => (simp only [List.getElem?_toArray, List.getElem?_cons_zero, List.getElem?_cons_succ]; rfl)
  case a26 => kernel_rfl
  case b26 => kernel_rfl
  case c26 => kernel_rfl
  case q26 => exact fun _ _ _ h => h
  case g26 => rfl
  case y26 => (intro wS hSw; obtain ⟨nS, rfl⟩ := hSw; go_simp; (try with_reducible rfl))
  case s26 => assumption
  (try simp only [Act.put, List.setIfInBounds_toArray, List.set_cons_zero, List.set_cons_succ])
  refine wpAnyH_ready (rs := [12]) (by kernel_rfl) (by simp) ?_
  refine AllReadyH.cons (o := ?oB27) ?hB27 ?kB27 AllReadyH.nil
  case hB27 => (simp only [List.getElem?_toArray, List.getElem?_cons_zero, List.getElem?_cons_succ]; rfl)
  case kB27 =>
    intro K hK
    go_simp
    refine (vrequire_yes _ _ w.drew).mono ?_
    rintro e w5 ⟨rfl, rfl⟩
    refine hK.out _ _ ⟨1, rfl⟩ (fun _ => ?_)
    clear hK K
    (try simp only [Act.put, List.setIfInBounds_toArray, List.set_cons_zero, List.set_cons_succ])
    refine wpAnyH_done (by kernel_rfl) ?_ _
    go_wp2
    go_ret
    exact ⟨rfl, 1, rfl⟩

set_option maxHeartbeats 1000000 in
theorem after_no (vb : Nat) (v : Vl) (n : Int) (w : World) (h : VAt w vb v) (hv : VOk v) (hn : ¬ n ≤ v.limit - v.at_) :
    Calls Tryz.prog 94 #[.pointer (some ⟨vb, 0, none⟩), .int .i64 n] w fun e w' => e = Stops ⟨v.at_, v.format, v.field, 1⟩ ∧ ∃ m, w' = w.drewN m := by
  obtain ⟨c0, c1, c2, c3, c4, c5⟩ := h.cells
  have b0 := hv.at0
  have b1 := hv.lim
  have b2 := hv.max
  obtain ⟨D, hD⟩ : ∃ D, D = v.limit - v.at_ := ⟨_, rfl⟩
  have hw : IntKind.i64.wrap (v.limit - v.at_) = D := by rw [wr64 (by omega) (by omega)]; exact hD.symm
  have hd : decide (n ≤ D) = false := by rw [decide_eq_false_iff_not]; omega
  have HV := Lib.hid h
  clear h hv hn hD
  go_enter Tryz.func94, Tryz.ntmps94
  go_wp2_with fail
  refine wp_region_held_drew (S := (fun w' : World => ∃ n : Nat, w' = w.drewN n)) (by kernel_rfl) ⟨1, rfl⟩ (fun hHeld => ?_)
  refine wpAnyH_take (i := 0) (oi := ?o28) (v := ?v28) ?h28 ?a28 ?b28 ?c28 ?q28 (Or.inl ⟨?g28, ?y28⟩) ?s28 ?r28
  case h28 => (simp only [List.getElem?_toArray, List.getElem?_cons_zero]; rfl)
  case a28 => kernel_rfl
  case b28 => kernel_rfl
  case c28 => kernel_rfl
  case q28 => exact fun _ _ _ h => h
  case g28 => rfl
  case y28 => (intro wS hSw; obtain ⟨nS, rfl⟩ := hSw; go_simp; (try with_reducible rfl))
  case s28 => assumption
  (try simp only [Act.put, List.setIfInBounds_toArray, List.set_cons_zero, List.set_cons_succ])
  refine wpAnyH_take (i := 1) (oi := ?o29) (v := ?v29) ?h29 ?a29 ?b29 ?c29 ?q29 (Or.inl ⟨?g29, ?y29⟩) ?s29 ?r29
  case h29 => (simp only [List.getElem?_toArray, List.getElem?_cons_zero, List.getElem?_cons_succ]; rfl)
  case a29 => kernel_rfl
  case b29 => kernel_rfl
  case c29 => kernel_rfl
  case q29 => exact fun _ _ _ h => h
  case g29 => rfl
  case y29 => (intro wS hSw; obtain ⟨nS, rfl⟩ := hSw; go_simp; (try with_reducible rfl))
  case s29 => assumption
  (try simp only [Act.put, List.setIfInBounds_toArray, List.set_cons_zero, List.set_cons_succ])
  refine wpAnyH_take (i := 2) (oi := ?o30) (v := ?v30) ?h30 ?a30 ?b30 ?c30 ?q30 (Or.inl ⟨?g30, ?y30⟩) ?s30 ?r30
  case h30 => (simp only [List.getElem?_toArray, List.getElem?_cons_zero, List.getElem?_cons_succ]; rfl)
  case a30 => kernel_rfl
  case b30 => kernel_rfl
  case c30 => kernel_rfl
  case q30 => exact fun _ _ _ h => h
  case g30 => rfl
  case y30 => (intro wS hSw; obtain ⟨nS, rfl⟩ := hSw; go_simp; (try with_reducible rfl))
  case s30 => assumption
  (try simp only [Act.put, List.setIfInBounds_toArray, List.set_cons_zero, List.set_cons_succ])
  refine wpAnyH_take (i := 3) (oi := ?o31) (v := ?v31) ?h31 ?a31 ?b31 ?c31 ?q31 (Or.inl ⟨?g31, ?y31⟩) ?s31 ?r31
  case h31 => (simp only [List.getElem?_toArray, List.getElem?_cons_zero, List.getElem?_cons_succ]; rfl)
  case a31 => kernel_rfl
  case b31 => kernel_rfl
  case c31 => kernel_rfl
  case q31 => exact fun _ _ _ h => h
  case g31 => rfl
  case y31 => (intro wS hSw; obtain ⟨nS, rfl⟩ := hSw; go_simp; (try with_reducible rfl))
  case s31 => assumption
  (try simp only [Act.put, List.setIfInBounds_toArray, List.set_cons_zero, List.set_cons_succ])
  refine wpAnyH_take (i := 4) (oi := ?o32) (v := ?v32) ?h32 ?a32 ?b32 ?c32 ?q32 (Or.inl ⟨?g32, ?y32⟩) ?s32 ?r32
  case h32 => (simp only [List.getElem?_toArray, List.getElem?_cons_zero, List.getElem?_cons_succ]; rfl)
  case a32 => kernel_rfl
  case b32 => kernel_rfl
  case c32 => kernel_rfl
  case q32 => exact fun _ _ _ h => h
  case g32 => rfl
  case y32 => (intro wS hSw; obtain ⟨nS, rfl⟩ := hSw; go_simp; (try with_reducible rfl))
  case s32 => assumption
  (try simp only [Act.put, List.setIfInBounds_toArray, List.set_cons_zero, List.set_cons_succ])
  refine wpAnyH_take (i := 5) (oi := ?o33) (v := ?v33) ?h33 ?a33 ?b33 ?c33 ?q33 (Or.inl ⟨?g33, ?y33⟩) ?s33 ?r33
  case h33 => (simp only [List.getElem?_toArray, List.getElem?_cons_zero, List.getElem?_cons_succ]; rfl)
  case a33 => kernel_rfl
  case b33 => kernel_rfl
  case c33 => kernel_rfl
  case q33 => exact fun _ _ _ h => h
  case g33 => rfl
  case y33 => (intro wS hSw; obtain ⟨nS, rfl⟩ := hSw; go_simp; (try with_reducible rfl))
  case s33 => assumption
  (try simp only [Act.put, List.setIfInBounds_toArray, List.set_cons_zero, List.set_cons_succ])
  refine wpAnyH_take (i := 6) (oi := ?o34) (v := ?v34) ?h34 ?a34 ?b34 ?c34 ?q34 (Or.inl ⟨?g34, ?y34⟩) ?s34 ?r34
  case h34 => (simp only [List.getElem?_toArray, List.getElem?_cons_zero, List.getElem?_cons_succ]; rfl)
  case a34 => kernel_rfl
  case b34 => kernel_rfl
  case c34 => kernel_rfl
  case q34 => exact fun _ _ _ h => h
  case g34 => rfl
  case y34 => (intro wS hSw; obtain ⟨nS, rfl⟩ := hSw; go_simp; (try with_reducible rfl))
  case s34 => assumption
  (try simp only [Act.put, List.setIfInBounds_toArray, List.set_cons_zero, List.set_cons_succ])
  refine wpAnyH_take (i := 7) (oi := ?o35) (v := ?v35) ?h35 ?a35 ?b35 ?c35 ?q35 (Or.inl ⟨?g35, ?y35⟩) ?s35 ?r35
  case h35 => (simp only [List.getElem?_toArray, List.getElem?_cons_zero, List.getElem?_cons_succ]; rfl)
  case a35 => kernel_rfl
  case b35 => kernel_rfl
  case c35 => kernel_rfl
  case q35 => exact fun _ _ _ h => h
  case g35 => rfl
  case y35 => (intro wS hSw; obtain ⟨nS, rfl⟩ := hSw; go_simp; (try with_reducible rfl))
  case s35 => assumption
  (try simp only [Act.put, List.setIfInBounds_toArray, List.set_cons_zero, List.set_cons_succ])
  refine wpAnyH_take (i := 8) (oi := ?o36) (v := ?v36) ?h36 ?a36 ?b36 ?c36 ?q36 (Or.inl ⟨?g36, ?y36⟩) ?s36 ?r36
  case h36 => (simp only [List.getElem?_toArray, List.getElem?_cons_zero, List.getElem?_cons_succ]; rfl)
  case a36 => kernel_rfl
  case b36 => kernel_rfl
  case c36 => kernel_rfl
  case q36 => exact fun _ _ _ h => h
  case g36 => rfl
  case y36 => (intro wS hSw; obtain ⟨nS, rfl⟩ := hSw; go_simp; (try with_reducible rfl))
  case s36 => assumption
  (try simp only [Act.put, List.setIfInBounds_toArray, List.set_cons_zero, List.set_cons_succ])
  refine wpAnyH_take (i := 9) (oi := ?o37) (v := ?v37) ?h37 ?a37 ?b37 ?c37 ?q37 (Or.inl ⟨?g37, ?y37⟩) ?s37 ?r37
  case h37 => (simp only [List.getElem?_toArray, List.getElem?_cons_zero, List.getElem?_cons_succ]; rfl)
  case a37 => kernel_rfl
  case b37 => kernel_rfl
  case c37 => kernel_rfl
  case q37 => exact fun _ _ _ h => h
  case g37 => rfl
  case y37 => (intro wS hSw; obtain ⟨nS, rfl⟩ := hSw; go_simp; (try with_reducible rfl))
  case s37 => assumption
  (try simp only [Act.put, List.setIfInBounds_toArray, List.set_cons_zero, List.set_cons_succ])
  refine wpAnyH_take (i := 10) (oi := ?o38) (v := ?v38) ?h38 ?a38 ?b38 ?c38 ?q38 (Or.inl ⟨?g38, ?y38⟩) ?s38 ?r38
  case h38 => (simp only [List.getElem?_toArray, List.getElem?_cons_zero, List.getElem?_cons_succ]; rfl)
  case a38 => kernel_rfl
  case b38 => kernel_rfl
  case c38 => kernel_rfl
  case q38 => exact fun _ _ _ h => h
  case g38 => rfl
  case y38 => (intro wS hSw; obtain ⟨nS, rfl⟩ := hSw; go_simp; (try with_reducible rfl))
  case s38 => assumption
  (try simp only [Act.put, List.setIfInBounds_toArray, List.set_cons_zero, List.set_cons_succ])
  refine wpAnyH_take (i := 11) (oi := ?o39) (v := ?v39) ?h39 ?a39 ?b39 ?c39 ?q39 (Or.inl ⟨?g39, ?y39⟩) ?s39 ?r39
  case h39 => (simp only [List.getElem?_toArray, List.getElem?_cons_zero, List.getElem?_cons_succ]; rfl)
  case a39 => kernel_rfl
  case b39 => kernel_rfl
  case c39 => kernel_rfl
  case q39 => exact fun _ _ _ h => h
  case g39 => rfl
  case y39 => (intro wS hSw; obtain ⟨nS, rfl⟩ := hSw; go_simp; (try with_reducible rfl))
  case s39 => assumption
  (try simp only [Act.put, List.setIfInBounds_toArray, List.set_cons_zero, List.set_cons_succ])
  refine wpAnyH_ready (rs := [12]) (by kernel_rfl) (by simp) ?_
  refine AllReadyH.cons (o := ?oB40) ?hB40 ?kB40 AllReadyH.nil
  case hB40 => (simp only [List.getElem?_toArray, List.getElem?_cons_zero, List.getElem?_cons_succ]; rfl)
  case kB40 =>
    intro K hK
    go_simp
    refine (vrequire_no vb v 1 w.drew HV.out.drew).mono ?_
    rintro e w5 ⟨rfl, n5, rfl⟩
    exact ⟨rfl, rfl, _, World.drewN_drewN _ 1 _⟩
end RecD
section RecE
open Go.RowKit Fx Rec

theorem power_any (n : Int) (w : World) (h1 : 1 ≤ n) (h3 : n ≤ 3) : Calls Tryz.prog 96 #[.int .i64 n] w fun e w' => e = .returned (.int .i64 (pow n)) ∧ w' = w := by
  obtain rfl | rfl | rfl : n = 1 ∨ n = 2 ∨ n = 3 := by omega
  all_goals
    go_enter Tryz.func96, Tryz.ntmps96
    go_wp2
    go_ret
    exact ⟨rfl, rfl⟩

theorem numL_snoc (l : List UInt8) (b : UInt8) : numL (l ++ [b]) = 256 * numL l + (b.toNat : Int) := by unfold numL; rw [List.foldl_append]; rfl
theorem numL_bound (l : List UInt8) : 0 ≤ numL l ∧ numL l < 256 ^ l.length := by
  obtain ⟨r, rfl⟩ : ∃ r : List UInt8, l = r.reverse := ⟨l.reverse, by simp⟩
  induction r with
  | nil => exact ⟨by decide, by decide⟩
  | cons b t ih =>
    rw [List.reverse_cons, numL_snoc, List.length_append]
    have h1 : b.toNat < 256 := b.toNat_lt
    have h2 : (256 : Int) ^ (t.reverse.length + [b].length) = 256 * 256 ^ t.reverse.length := by rw [List.length_singleton, Int.pow_succ, Int.mul_comm]
    omega
theorem num_bound {s : ByteArray} (h : s.size ≤ 3) : 0 ≤ num s ∧ num s ≤ 16777215 := by
  have := numL_bound s.data.toList
  have hl : s.data.toList.length ≤ 3 := by simpa using h
  have h3 : (256 : Int) ^ s.data.toList.length ≤ 256 ^ 3 := by
    have : ∀ k : Nat, k ≤ 3 → (256 : Int) ^ k ≤ 256 ^ 3 := fun k hk => by
      obtain rfl | rfl | rfl | rfl : k = 0 ∨ k = 1 ∨ k = 2 ∨ k = 3 := by omega
      all_goals decide
    exact this _ hl
  unfold num
  omega
/-- The number of the first k bytes. -/
def numTo (s : ByteArray) (k : Nat) : Int := numL (s.data.toList.take k)
theorem numTo_succ {s : ByteArray} {k : Nat} (hk : k < s.size) : numTo s (k + 1) = 256 * numTo s k + ((s[k]).toNat : Int) := by
  unfold numTo
  have : s.data.toList.take (k + 1) = s.data.toList.take k ++ [s[k]] := by
    rw [List.take_succ_eq_append_getElem (by simpa using hk)]
    rfl
  rw [this, numL_snoc]
theorem numTo_bound {s : ByteArray} {k : Nat} (hk : k ≤ 2) : 0 ≤ numTo s k ∧ numTo s k ≤ 65535 := by
  have := numL_bound (s.data.toList.take k)
  have hl : (s.data.toList.take k).length ≤ 2 := by rw [List.length_take]; omega
  have h3 : (256 : Int) ^ (s.data.toList.take k).length ≤ 256 ^ 2 := by
    have : ∀ k : Nat, k ≤ 2 → (256 : Int) ^ k ≤ 256 ^ 2 := fun k hk => by
      obtain rfl | rfl | rfl : k = 0 ∨ k = 1 ∨ k = 2 := by omega
      all_goals decide
    exact this _ hl
  unfold numTo
  omega
set_option maxHeartbeats 1000000 in
theorem number_any (s : ByteArray) (w : World) (hs : s.size ≤ 3) : Calls Tryz.prog 45 #[.string s] w fun e w' => e = .returned (.int .i64 (num s)) ∧ w' = w := by
  go_enter Tryz.func45, Tryz.ntmps45
  go_wp2_with fail
  go_loopw [3, 7] (fun n i wr => ∃ (k : Nat) (N : Int), k ≤ s.size ∧ n = .int .i64 N ∧ i = .int .i64 k ∧ N = numTo s k ∧ wr = w) (fun _ i _ => s.size - (intOf i).toNat)
  case atStart => exact ⟨0, 0, Nat.zero_le _, rfl, rfl, rfl, rfl⟩
  case round =>
    obtain ⟨k, N, hk, rfl, rfl, hN, rfl⟩ := hrel
    by_cases hlt : k < s.size
    · have hb := numTo_bound (s := s) (k := k) (by omega)
      rw [← hN] at hb
      have hsu := numTo_succ hlt
      rw [← hN] at hsu
      have hc : (s[k]).toNat < 256 := (s[k]).toNat_lt
      obtain ⟨B, hB⟩ : ∃ B : Int, ((s[k]).toNat : Int) = B := ⟨_, rfl⟩
      rw [hB] at hsu
      have hB0 : 0 ≤ B ∧ B ≤ 255 := by omega
      have HS := Lib.hid hsu
      clear hc hN hsu
      go_wp2_with fail
      exact ⟨⟨k + 1, 256 * N + B, by omega, by rw [Int.mul_comm], by go_num, HS.out.symm, trivial⟩, by simp [intOf]; omega⟩
    · obtain rfl : k = s.size := by omega
      have e : numTo s s.size = num s := by unfold numTo num; rw [List.take_of_length_le (by simp)]
      rw [e] at hN
      have HN := Lib.hid hN
      clear hN
      go_wp2_with fail
      go_ret
      exact ⟨by rw [HN.out]; rfl, rfl⟩
end RecE
section RecT
open Go.RowKit

section
variable {P : Program} {ops : Array Oper} {Q : Exit → Act → World → Prop} {md : Region.Mode} {m : Nat} {F S' : World → Prop}
/-- Whatever has come up, what it waits for has come up. -/
def Closed (md : Region.Mode) (ops : Array Oper) (L : Array Bool) : Prop := ∀ k o, ops[k]? = some o → L.getD k false = true → ∀ e ∈ o.after, Region.binds md e = true → L.getD e.on false = true
def closedB (md : Region.Mode) (ops : Array Oper) (L : Array Bool) : Bool := (List.range ops.size).all fun k => match ops[k]? with
  | none => true
  | some o => !L.getD k false || o.after.toList.all fun e => !Region.binds md e || L.getD e.on false
theorem closed_of {L : Array Bool} (h : closedB md ops L = true) : Closed md ops L := fun k o ho hk e he hb => by
  unfold closedB at h
  rw [List.all_eq_true] at h
  have h1 := h k (by rw [List.mem_range]; exact (Array.getElem?_eq_some_iff.1 ho).1)
  simp only [ho, Bool.or_eq_true, Bool.not_eq_true', List.all_eq_true] at h1
  rcases h1 with h1 | h1
  · rw [h1] at hk; cases hk
  · rcases h1 e (by simpa using he) with h2 | h2
    · rw [h2] at hb; cases hb
    · exact h2
/-- One waits for another. -/
def dependsB (md : Region.Mode) (ops : Array Oper) : Nat → Nat → Nat → Bool
  | 0, _, _ => false
  | n + 1, k, i => match ops[k]? with
    | none => false
    | some o => o.after.toList.any fun e => Region.binds md e && (e.on == i || dependsB md ops n e.on i)
theorem depends_of {L : Array Bool} (hc : Closed md ops L) {i : Nat} : ∀ (n k : Nat), dependsB md ops n k i = true → L.getD k false = true → L.getD i false = true
  | 0, _, h, _ => by cases h
  | n + 1, k, h, hk => by
    unfold dependsB at h
    cases ho : ops[k]? with
    | none => simp only [ho] at h; cases h
    | some o =>
      simp only [ho, List.any_eq_true, Bool.and_eq_true, Bool.or_eq_true, beq_iff_eq] at h
      obtain ⟨e, he, hb, h1⟩ := h
      have h2 := hc k o ho hk e (by simpa using he) hb
      rcases h1 with h1 | h1
      · rw [← h1]; exact h2
      · exact depends_of hc n e.on h1 h2
theorem unlisted {L : Array Bool} {k : Nat} (hk : k < L.size) (h : ¬ L.getD k false = true) : L.getD k true = false := by
  simp [hk] at h ⊢
  exact h
theorem listed_not {L : Array Bool} {k : Nat} (h : L.getD k true = false) : ¬ L.getD k false = true := by
  intro h2
  rcases Nat.lt_or_ge k L.size with h' | h'
  · simp [h'] at h h2; rw [h] at h2; cases h2
  · simp [Array.getElem?_eq_none h'] at h
theorem Closed.step {L : Array Bool} (hc : Closed md ops L) {j : Nat} (hj : j ∈ Region.ready md ops L) : Closed md ops (L.setIfInBounds j true) := fun k o ho hk e he hb => by
  by_cases hjk : j = k
  · subst hjk
    obtain ⟨_, o', ho', hall⟩ := mem_ready.1 hj
    rw [ho] at ho'
    cases ho'
    exact getD_set_true (hall e he hb)
  · rw [getD_set_ne false hjk] at hk
    exact getD_set_true (hc k o ho hk e he hb)

/-- Whatever order is picked from here on; as long as m has not come up, F holds. -/
def wpAnyT (P : Program) (md : Region.Mode) (ops : Array Oper) (Q : Exit → Act → World → Prop) (m : Nat) (F : World → Prop) : Nat → Array Bool → Act → World → Prop
  | 0, L, a, w => Region.ready md ops L = [] ∧ Q .normal a w
  | fuel + 1, L, a, w =>
    (Region.ready md ops L = [] → Q .normal a w) ∧
    ∀ i ∈ Region.ready md ops L, wpOp P ops Q i (fun a' w' => ((L.setIfInBounds i true).getD m true = false → F w') ∧ wpAnyT P md ops Q m F fuel (L.setIfInBounds i true) a' w') a w
theorem wpAny_of_T : ∀ (fuel : Nat) (L : Array Bool) (a : Act) (w : World), wpAnyT P md ops Q m F fuel L a w → wpAny P md ops Q fuel L a w
  | 0, _, _, _, h => h
  | fuel + 1, _, _, _, h => ⟨h.1, fun i hi => wpOp_mono (fun a' w' h' => wpAny_of_T fuel _ a' w' h'.2) (h.2 i hi)⟩
theorem firstT {i : Nat} {oi : Oper} {v : Value} (Y : Act → Prop) (hi : ops[i]? = some oi) (him : i ≠ m)
    (step : ∀ (a : Act) (w : World) (K : Act → World → Prop), Y a → S' w → K (a.put oi.dst v) w → wpOp P ops Q i K a w)
    (put : ∀ (j : Nat) (oj : Oper), ops[j]? = some oj → oi.apart ops oj = true → ∀ (a : Act) (w : World) (K : Act → World → Prop), Y a → wpOp P ops Q j K (a.put oi.dst v) w → wpOp P ops Q j (fun a' w' => Y a' ∧ K (a'.put oi.dst v) w') a w)
    (hF : ∀ (L : Array Bool) (w : World), m < L.size → Closed md ops L → L.getD i true = false → (L.getD m true = false → F w) → S' w) :
    ∀ (fuel : Nat) (L : Array Bool) (a : Act) (w : World), m < L.size → Closed md ops L →
      (∀ j oj, ops[j]? = some oj → j ≠ i → L.getD j true = false → (∀ e ∈ oj.after, Region.binds md e = true → e.on ≠ i) → oi.apart ops oj = true) →
      i ∈ Region.ready md ops L → Y a → (L.getD m true = false → F w) →
      wpAnyT P md ops Q m F fuel (L.setIfInBounds i true) (a.put oi.dst v) w → wpAnyT P md ops Q m F (fuel + 1) L a w := by
  intro fuel
  induction fuel with
  | zero =>
    intro L a w hm hc _ hr hy hS H
    refine ⟨fun h => (by rw [h] at hr; cases hr), fun j hj => ?_⟩
    by_cases hji : j = i
    · subst hji
      exact step a w _ hy (hF L w hm hc (mem_ready.1 hr).1 hS) ⟨fun h => hS (by rwa [getD_set_ne true him] at h), H⟩
    · have := ready_mono hj hji
      rw [H.1] at this
      cases this
  | succ fuel ih =>
    intro L a w hm hc hfree hr hy hS H
    refine ⟨fun h => (by rw [h] at hr; cases hr), fun j hj => ?_⟩
    by_cases hji : j = i
    · subst hji
      exact step a w _ hy (hF L w hm hc (mem_ready.1 hr).1 hS) ⟨fun h => hS (by rwa [getD_set_ne true him] at h), H⟩
    · have h1 := H.2 j (ready_mono hj hji)
      obtain ⟨hjun, oj, hoj, hall⟩ := mem_ready.1 hj
      have hiun := (mem_ready.1 hr).1
      have hnot : ∀ e ∈ oj.after, Region.binds md e = true → e.on ≠ i := fun e he hb heq => by
        have h1 := hall e he hb
        rw [heq] at h1
        exact listed_not hiun h1
      have h2 := put j oj hoj (hfree j oj hoj hji hjun hnot) a w _ hy h1
      have hfree' : ∀ k ok, ops[k]? = some ok → k ≠ i → (L.setIfInBounds j true).getD k true = false →
          (∀ e ∈ ok.after, Region.binds md e = true → e.on ≠ i) → oi.apart ops ok = true := fun k ok hk hki hun hno => by
        refine hfree k ok hk hki ?_ hno
        by_cases hjk : j = k
        · subst hjk; exact hjun
        · rw [getD_set_ne true hjk] at hun; exact hun
      refine wpOp_mono (fun a' w' h3 => ?_) h2
      have hS' : (L.setIfInBounds j true).getD m true = false → F w' := fun h => h3.2.1 (by
        rw [Array.setIfInBounds_comm _ _ (Ne.symm hji), getD_set_ne true him]; exact h)
      refine ⟨hS', ih (L.setIfInBounds j true) a' w' (by simpa using hm) (hc.step hj) hfree' (ready_mono hr (Ne.symm hji)) h3.1 hS' ?_⟩
      rw [Array.setIfInBounds_comm _ _ hji]
      exact h3.2.2

/-- Number i is taken first; m waits for it, and as long as m has not come up it yields v. -/
theorem wpAnyT_take {i : Nat} {oi : Oper} {v : Value} {fuel : Nat} {L : Array Bool} {a : Act} {w : World} (hi : ops[i]? = some oi)
    (hs : Region.noSelect ops = true) (hf : Region.free md ops L i = true) (hr : (Region.ready md ops L).contains i = true) (hm : decide (m < L.size) = true) (hc : closedB md ops L = true) (hd : dependsB md ops 100 m i = true) (him : decide (i ≠ m) = true)
    (hQ : ∀ c a w, Q (.panic c) (a.put oi.dst v) w → Q (.panic c) a w) (hy : YieldsIf P ops F oi v a) (hS : F w)
    (h : wpAnyT P md ops Q m F fuel (L.setIfInBounds i true) (a.put oi.dst v) w) : wpAnyT P md ops Q m F (fuel + 1) L a w :=
  firstT (S' := F) (YieldsIf P ops F oi v) hi (of_decide_eq_true him) (fun _ _ _ hy hS hK => hy.wpOp hi hS hK)
    (fun j oj hj hap a w K hy hK => wpOp_putIf hj hap (fun cs b => Region.noSelect_spec hs i oi cs b hi) (fun cs b => Region.noSelect_spec hs j oj cs b hj) hQ hy hK)
    (fun L w hm hc hun hS => hS (unlisted hm fun h => listed_not hun (depends_of hc 100 m hd h)))
    fuel L a w (of_decide_eq_true hm) (closed_of hc) (Region.free_spec hi hf) (by simpa using hr) hy (fun _ => hS) h
/-- Number i is taken first; it yields v in whatever world. -/
theorem wpAnyT_any {i : Nat} {oi : Oper} {v : Value} {fuel : Nat} {L : Array Bool} {a : Act} {w : World} (hi : ops[i]? = some oi)
    (hs : Region.noSelect ops = true) (hf : Region.free md ops L i = true) (hr : (Region.ready md ops L).contains i = true) (hm : decide (m < L.size) = true) (hc : closedB md ops L = true) (him : decide (i ≠ m) = true)
    (hQ : ∀ c a w, Q (.panic c) (a.put oi.dst v) w → Q (.panic c) a w) (hy : YieldsIf P ops (fun _ => True) oi v a) (hS : L.getD m true = false → F w)
    (h : wpAnyT P md ops Q m F fuel (L.setIfInBounds i true) (a.put oi.dst v) w) : wpAnyT P md ops Q m F (fuel + 1) L a w :=
  firstT (S' := fun _ => True) (YieldsIf P ops (fun _ => True) oi v) hi (of_decide_eq_true him) (fun _ _ _ hy hS hK => hy.wpOp hi hS hK)
    (fun j oj hj hap a w K hy hK => wpOp_putIf hj hap (fun cs b => Region.noSelect_spec hs i oi cs b hi) (fun cs b => Region.noSelect_spec hs j oj cs b hj) hQ hy hK)
    (fun _ _ _ _ _ _ => trivial)
    fuel L a w (of_decide_eq_true hm) (closed_of hc) (Region.free_spec hi hf) (by simpa using hr) hy hS h

/-- Each of these comes up next. -/
def AllReadyT (P : Program) (md : Region.Mode) (ops : Array Oper) (Q : Exit → Act → World → Prop) (m : Nat) (F : World → Prop) (fuel : Nat) (L : Array Bool) (a : Act) (w : World) (rs : List Nat) : Prop :=
  ∀ i ∈ rs, wpOp P ops Q i (fun a' w' => ((L.setIfInBounds i true).getD m true = false → F w') ∧ wpAnyT P md ops Q m F fuel (L.setIfInBounds i true) a' w') a w
theorem AllReadyT.nil {fuel : Nat} {L : Array Bool} {a : Act} {w : World} : AllReadyT P md ops Q m F fuel L a w [] := fun _ h => by cases h
theorem AllReadyT.cons {fuel : Nat} {L : Array Bool} {a : Act} {w : World} {i : Nat} {o : Oper} {rs : List Nat} (ho : ops[i]? = some o)
    (h : ∀ K' : Act → World → Prop, Shut (∀ a w, ((L.setIfInBounds i true).getD m true = false → F w) → wpAnyT P md ops Q m F fuel (L.setIfInBounds i true) a w → K' a w) → if Region.wanted o (yielded ops a.tmps) = true then Oper.wp P o a w K' Q else K' (a.put o.dst undef) w)
    (hs : AllReadyT P md ops Q m F fuel L a w rs) : AllReadyT P md ops Q m F fuel L a w (i :: rs) := fun j hj => by
  rcases List.mem_cons.1 hj with rfl | hj
  · exact wpOp_step ho (fun K' hK => h K' (fun a w hS hW => hK a w ⟨hS, hW⟩))
  · exact hs j hj
theorem wpAnyT_ready {rs : List Nat} {fuel : Nat} {L : Array Bool} {a : Act} {w : World} (hr : Region.ready md ops L = rs) (hne : rs ≠ [])
    (h : AllReadyT P md ops Q m F fuel L a w rs) : wpAnyT P md ops Q m F (fuel + 1) L a w :=
  ⟨fun h0 => absurd (hr ▸ h0) hne, hr ▸ h⟩
theorem wpAnyT_done {L : Array Bool} {a : Act} {w : World} (hr : Region.ready md ops L = []) (h : Q .normal a w) : ∀ fuel, wpAnyT P md ops Q m F fuel L a w
  | 0 => ⟨hr, h⟩
  | _ + 1 => ⟨fun _ => h, by rw [hr]; simp⟩
theorem wp_region_T {id : Nat} {a : Act} {w : World} (m : Nat) (F : World → Prop) (hm : P.follows .mixedOrders = true) (hF : F w.drew)
    (h : F w.drew → wpAnyT P .any ops Q m F ops.size (Array.replicate ops.size false) a w.drew) : (Code.region id ops true).wp P Q a w :=
  wp_region_any hm (wpAny_of_T _ _ _ _ (h hF))
/-- Behind m. -/
theorem no_more {L : Array Bool} {p : Prop} (h : L.getD m true = true) : L.getD m true = false → p := fun h2 => by rw [h] at h2; cases h2

/-! a call that keeps the world -/
/-- The operation calls a function that gives v and leaves the world as it is. -/
def CallsIf (P : Program) (ops : Array Oper) (S : World → Prop) (o : Oper) (v : Value) (a : Act) : Prop :=
  Region.wanted o (yielded ops a.tmps) = true ∧ ∃ f args, ∀ w, S w → (execOp a.eval o).run P w = .ok (.enter f args) w ∧ Calls P f args w fun e w' => e = .returned v ∧ w' = w
theorem callsif_step {S : World → Prop} {i : Nat} {o : Oper} {v : Value} {a : Act} (hi : ops[i]? = some o) (hy : CallsIf P ops S o v a) {K : Act → World → Prop} {w : World} (hS : S w) (h : K (a.put o.dst v) w) : wpOp P ops Q i K a w := by
  obtain ⟨hw, f, args, hc⟩ := hy
  obtain ⟨h1, h2⟩ := hc w hS
  unfold Go.wpOp
  simp only [hi, hw, if_true]
  refine .inl ?_
  unfold Oper.wp
  rw [h1]
  exact h2.mono fun e w' ⟨he, hw'⟩ => by subst he; subst hw'; exact h
theorem callsif_same {S : World → Prop} {o : Oper} {v : Value} {a a' : Act} (hy : CallsIf P ops S o v a) (he : execOp a'.eval o = execOp a.eval o) (hw : Region.wanted o (yielded ops a'.tmps) = Region.wanted o (yielded ops a.tmps)) : CallsIf P ops S o v a' := by
  obtain ⟨h1, f, args, h2⟩ := hy
  exact ⟨by rw [hw]; exact h1, f, args, fun w hS => by rw [he]; exact h2 w hS⟩
theorem callsif_put {S : World → Prop} {j : Nat} {oi oj : Oper} {v : Value} (hj : ops[j]? = some oj) (hap : oi.apart ops oj = true) (hsi : ∀ cs b, oi.op ≠ .select cs b) (hsj : ∀ cs b, oj.op ≠ .select cs b)
    (hQ : ∀ c a w, Q (.panic c) (a.put oi.dst v) w → Q (.panic c) a w) {K : Act → World → Prop} {a : Act} {w : World} (hy : CallsIf P ops S oi v a) (h : wpOp P ops Q j K (a.put oi.dst v) w) :
    wpOp P ops Q j (fun a' w' => CallsIf P ops S oi v a' ∧ K (a'.put oi.dst v) w') a w := by
  obtain ⟨h1, h2, h3⟩ := Oper.apart_spec hap
  have keep : ∀ u, CallsIf P ops S oi v (a.put oj.dst u) := fun u => callsif_same hy (execOp_put oi hsi a oj.dst u h3) (wanted_put oi a oj.dst u h3)
  have next : ∀ (u : Value) (w' : World), K ((a.put oi.dst v).put oj.dst u) w' → CallsIf P ops S oi v (a.put oj.dst u) ∧ K ((a.put oj.dst u).put oi.dst v) w' := fun u w' hk => ⟨keep u, by rw [← Act.put_comm a v u h2]; exact hk⟩
  unfold wpOp at h ⊢
  simp only [hj] at h ⊢
  rw [wanted_put oj a oi.dst v h1] at h
  by_cases hw : Region.wanted oj (yielded ops a.tmps) = true
  · rw [if_pos hw] at h ⊢
    rcases h with h | ⟨hasks, hlets⟩
    · left
      unfold Oper.wp at h ⊢
      rw [execOp_put oj hsj a oi.dst v h1] at h
      generalize (execOp a.eval oj).run P w = r at h ⊢
      match r, h with
      | .ok (.value u) w', h => exact next u w' h
      | .ok .skip w', h => exact next undef w' h
      | .ok (.defer d) w', h =>
        have hd : CallsIf P ops S oi v ({ a with defers := d :: a.defers } : Act) := callsif_same hy rfl rfl
        refine ⟨callsif_same hd (execOp_put oi hsi _ oj.dst undef h3) (wanted_put oi _ oj.dst undef h3), ?_⟩
        rw [← Act.put_comm _ v undef h2, ← Act.put_defers]
        exact h
      | .ok (.enter f args) w', h =>
        refine Calls.mono h fun e w'' he => ?_
        cases e with
        | returned u => exact next u w'' he
        | panicked c => exact hQ _ _ _ he
        | outgrown => exact he
      | .ok (.row row args) w', h => exact Rows.mono h fun u w'' he => next u w'' he
      | .halt (.panic u) w', h => exact hQ _ _ _ h
    · right
      refine ⟨?_, hlets⟩
      unfold Oper.asks at hasks ⊢
      rw [execOp_put oj hsj a oi.dst v h1] at hasks
      exact hasks
  · rw [if_neg hw] at h ⊢
    exact next undef w h
/-- The call number i is taken first; m waits for it. -/
theorem wpAnyT_call {i : Nat} {oi : Oper} {v : Value} {fuel : Nat} {L : Array Bool} {a : Act} {w : World} (hi : ops[i]? = some oi)
    (hs : Region.noSelect ops = true) (hf : Region.free md ops L i = true) (hr : (Region.ready md ops L).contains i = true) (hm : decide (m < L.size) = true) (hc : closedB md ops L = true) (hd : dependsB md ops 100 m i = true) (him : decide (i ≠ m) = true)
    (hQ : ∀ c a w, Q (.panic c) (a.put oi.dst v) w → Q (.panic c) a w) (hw : Region.wanted oi (yielded ops a.tmps) = true) (f : FuncId) (args : Array Value) (he : ∀ w, F w → (execOp a.eval oi).run P w = .ok (.enter f args) w) (hcl : ∀ w, F w → Calls P f args w fun e w' => e = .returned v ∧ w' = w) (hS : F w)
    (h : wpAnyT P md ops Q m F fuel (L.setIfInBounds i true) (a.put oi.dst v) w) : wpAnyT P md ops Q m F (fuel + 1) L a w :=
  firstT (S' := F) (CallsIf P ops F oi v) hi (of_decide_eq_true him) (fun _ _ _ hy hS hK => callsif_step hi hy hS hK)
    (fun j oj hj hap _ _ _ hy hK => callsif_put hj hap (fun cs b => Region.noSelect_spec hs i oi cs b hi) (fun cs b => Region.noSelect_spec hs j oj cs b hj) hQ hy hK)
    (fun L w hm hc hun hS => hS (unlisted hm fun h => listed_not hun (depends_of hc 100 m hd h)))
    fuel L a w (of_decide_eq_true hm) (closed_of hc) (Region.free_spec hi hf) (by simpa using hr) ⟨hw, f, args, fun w hS => ⟨he w hS, hcl w hS⟩⟩ (fun _ => hS) h
end
end RecT
end Go.Proofs.YtlhobhfmombjjaaGreatDoor
