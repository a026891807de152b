/- What the kinds ask of a table. Conditions: the table lies there; the fields' numbers are ints. Whether a field may stand next, by its kind. Conditions: the table lies there; the fields' numbers are ints. add: a field is put behind the open format's fields, or the reading stops. Conditions: the table lies there; the field's numbers are ints. One element is appended to a row of the call's own. No condition of its own. The closure of adder: the sum of the first n bytes, each byte looked at once. Conditions: the function of the bytes keeps the world; at most 65536 bytes. Maps from ints to whatever, told by their entries: looking up, laying a new entry. No condition of its own. -/
import Derived.Test.YtdndmhlmbpgdeaaGreatDoorPb03
import Derived.Lib.QuietBelow
import Derived.RegionTactic
import Derived.ChangeAlike
import Derived.BigRegion
import Derived.Deep.RegionHeld3
import Derived.Deep.RegionWith
import Derived.Deep.RegionLaw
import Derived.Test.YtdndmhlmbpgdeaaGreatDoorPb01
import Derived.WalkKit
import Derived.WideMake
import Derived.MapKept
namespace Go.Proofs.YtdndmhlmbpgdeaaGreatDoor
section FmtE
open Go.RowKit Fx Go.Sort

/-- A field's numbers are ints, and its text is no longer than a text can be. -/
structure Ints (f : Fld) : Prop where
  k1 : -9223372036854775808 ≤ f.kind
  k2 : f.kind ≤ 9223372036854775807
  n1 : -9223372036854775808 ≤ f.n
  n2 : f.n ≤ 9223372036854775807
  f1 : -9223372036854775808 ≤ f.frm
  f2 : f.frm ≤ 9223372036854775807
  t : f.text.size ≤ 9223372036854775807

theorem bdn {B : Nat} {a w : World} (h : Below B a w) (n : Nat) : Below B a (w.drewN n) := ⟨h.os, h.tape, h.output, h.size, h.block⟩
theorem MapIs.look_drews {w : World} {mb : Nat} {m : List (Int × Int)} (h : MapIs w mb m) {id : Int} (h1 : -9223372036854775808 ≤ id) (h2 : id ≤ 9223372036854775807) (k : Nat) :
    (Instr.lookup 187 (.map (some mb)) (.int .i64 id) false).run Tryz.prog (w.drewN k) = .ok (.int .i64 (lkz m id)) (w.drewN k) := (h.of_block (w' := w.drewN k) rfl).look_ h1 h2

theorem knows_any (P : Nat → Prop) (tb : Nat) (s : St) (id : Int) (v : Bool) (w : World) (hT : TabAt w P tb s) (h1 : -9223372036854775808 ≤ id) (h2 : id ≤ 9223372036854775807) (hv : knows (lm s.d) id = v) :
    Calls Tryz.prog 150 #[adr tb, .int .i64 id] w fun e w' => e = .returned (.bool v) ∧ w = w' := by
  obtain ⟨cs, mb, b1, b2, c, b3, vF, vs, vO, hC, hO⟩ := hT
  have c36 : w.cell? ⟨tb, 36, none⟩ = some (.map (some mb)) := (hC.blk.cell 36).trans hC.cM
  have hl := hC.blk.lt
  have hr := hC.map.look_ok h1 h2
  rw [hv] at hr
  clear hv hC hO
  go_enter Tryz.func150, Tryz.ntmps150
  go_wp2
  go_ret
  exact ⟨rfl, rfl⟩
theorem lookLen_any (P : Nat → Prop) (tb : Nat) (s : St) (f : Fld) (w : World) (hT : TabAt w P tb s) (hf : Ints f) :
    Calls Tryz.prog 136 #[adr tb, fldV f] w fun e w' => e = .returned (.int .i64 (lkz (lm s.d) f.n)) ∧ Below w.heap.size w w' := by
  have HT := Lib.hid (hT.below (bx (.cells #[.int .i64 f.kind, .int .i64 f.n, .int .i64 f.frm, .string f.text] 56)))
  have HF := Lib.hid hf
  clear hT hf
  go_enter Tryz.func136, Tryz.ntmps136
  go_wp2
  obtain ⟨cs, mb, b1, b2, c, b3, vF, vs, vO, hC, hO⟩ := HT.out
  have c36 := (hC.blk.cell 36).trans hC.cM
  have hl := hC.blk.lt
  have hr := hC.map.look_drews HF.out.n1 HF.out.n2
  clear hC hO
  go_quiet (fail)
  go_wp2
  go_ret
  exact ⟨rfl, bdn (bx _) _⟩
theorem own_slice {w : World} {B : Nat} {e : TypeId} {sz : Nat} {v : Value} {n : Nat} {xs : List Value} (h : w.ownsRow B e sz v n xs) : ∃ a c, v = .slice a n c ∧ n ≤ c ∧ c ≤ maxLen := by
  rcases h.2 with ⟨rfl, rfl⟩ | ⟨g, cap, cur, rfl, _, _, h1, h2, _⟩
  · exact ⟨none, 0, rfl, Nat.le_refl _, Nat.zero_le _⟩
  · exact ⟨_, _, rfl, h1, h2⟩
theorem own_flds {w : World} {v : Value} {fs : List Fld} (h : w.ownsRow 0 56 4 v fs.length (flat fs)) (h0 : 1 ≤ fs.length) :
    ∃ g cap, v = .slice (some ⟨g, 0, none⟩) fs.length cap ∧ g < w.heap.size ∧ fs.length ≤ cap ∧ cap ≤ maxLen ∧ ∀ i, i < fs.length → FldAt w g (i * 4) (fs.getD i zf) := by
  rcases FldsAt.of_own h with ⟨a, c, _, h1⟩ | ⟨b, off, cap, rfl, _, h2, h3, h4, h5⟩
  · rw [h1] at h0; simp at h0
  · rcases h.2 with ⟨h6, _⟩ | ⟨g, cap', cur, h6, _⟩
    · cases h6
    · have e : (⟨b, off, none⟩ : Addr) = ⟨g, 0, none⟩ := by injection h6 with h6; injection h6
      injection e with e1 e2
      subst e1; subst e2
      exact ⟨_, _, rfl, h4, h2, h3, fun i hi => by have := h5 i hi; rwa [Nat.zero_add] at this⟩

set_option maxHeartbeats 1000000 in
theorem counts_any (P : Nat → Prop) (tb : Nat) (s : St) (q : Int) (v : Bool) (w : World) (hT : TabAt w P tb s) (hl : s.o.fs.length ≤ 16) (hv : counts s.o.fs q = v) :
    Calls Tryz.prog 147 #[adr tb, .int .i64 q] w fun e w' => e = .returned (.bool v) ∧ w = w' := by
  have HV := Lib.hid hv
  clear hv
  obtain ⟨cs, mb, b1, b2, c, b3, vF, vs, vO, hC, hO⟩ := hT
  have c38 : w.cell? ⟨tb, 38, none⟩ = some vO := (hC.blk.cell 38).trans hO.cO
  have hbl := hC.blk.lt
  by_cases h1 : 0 ≤ q
  · obtain ⟨Q, rfl⟩ : ∃ Q : Nat, (Q : Int) = q := ⟨q.toNat, by omega⟩
    obtain ⟨n, hn⟩ : ∃ n, n = s.o.fs.length := ⟨_, rfl⟩
    by_cases h2 : Q < n
    · obtain ⟨g, cap, rfl, h3, h4, h5, h6⟩ := own_flds hO.rowO (by omega)
      have hc := (h6 Q (by omega)).c0
      obtain ⟨K, hK⟩ : ∃ K, K = (s.o.fs.getD Q zf).kind := ⟨_, rfl⟩
      rw [← hK] at hc
      have hu : w.cell? ⟨tb, 40 + Q, none⟩ = some (.bool (usedB s.o.fs Q)) := (hC.blk.cell _).trans (hO.cU Q (by omega))
      obtain ⟨U, hU⟩ : ∃ U, U = usedB s.o.fs Q := ⟨_, rfl⟩
      rw [← hU] at hu
      rw [← hn] at c38 h4
      have HR : Hid ((decide (K = 2) && !U) = v) := Lib.hid (by
        rw [← HV.out, hK, hU]; unfold counts usedB
        rw [decide_eq_true h1, decide_eq_true (show (Q : Int) < s.o.fs.length by omega)]; simp)
      have hn16 : n ≤ 16 := by omega
      have h2' : (Q : Int) < n := by omega
      clear hC hO h6 HV hK hU hn hl
      unfold maxLen at h5
      by_cases hk : K = 2
      · have hk2 : ((K : Int) == 2) = true := by simpa using hk
        have HR2 : Hid ((!U) = v) := Lib.hid (by rw [← HR.out, hk]; rfl)
        clear hk HR
        go_enter Tryz.func147, Tryz.ntmps147
        go_wp2_with fail
        go_ret
        exact ⟨ret_bool HR2.out, rfl⟩
      · have hk2 : ((K : Int) == 2) = false := by simpa using hk
        have HR2 : Hid (false = v) := Lib.hid (by rw [← HR.out]; simp [hk])
        clear hk HR
        go_enter Tryz.func147, Tryz.ntmps147
        go_wp2_with fail
        go_ret
        exact ⟨ret_bool HR2.out, rfl⟩
    · obtain ⟨a, cp, rfl, _, _⟩ := own_slice hO.rowO
      have HR2 : Hid (false = v) := Lib.hid (by
        rw [← HV.out]; unfold counts
        rw [decide_eq_true h1, decide_eq_false (show ¬ (Q : Int) < s.o.fs.length by omega)]; rfl)
      have h2' : decide (Q < n) = false := by simpa using h2
      have h2'' : ¬ (Q : Int) < n := by omega
      rw [← hn] at c38
      clear hC hO HV h2 hn hl
      go_enter Tryz.func147, Tryz.ntmps147
      go_wp2_with fail
      go_ret
      exact ⟨ret_bool HR2.out, rfl⟩
  · have h1' : decide (0 ≤ q) = false := by simpa using h1
    have HR2 : Hid (false = v) := Lib.hid (by rw [← HV.out]; unfold counts; rw [decide_eq_false h1]; rfl)
    clear hC hO HV hl c38
    go_enter Tryz.func147, Tryz.ntmps147
    go_wp2_with fail
    go_ret
    exact ⟨ret_bool HR2.out, rfl⟩

/-- tells, of a number that is there. -/
theorem tells_any (P : Nat → Prop) (tb : Nat) (s : St) (Q : Nat) (n : Int) (N : Nat) (v : Bool) (w : World) (hT : TabAt w P tb s) (hQ : Q < s.o.fs.length) (hl : s.o.fs.length ≤ 16) (hN : (s.o.fs.getD Q zf).n = N) (h1 : 1 ≤ N) (h3 : N ≤ 3)
    (hv : decide (n < 2 ^ (8 * N)) = v) :
    Calls Tryz.prog 135 #[adr tb, .int .i64 (Q : Nat), .int .i64 n] w fun e w' => e = .returned (.bool v) ∧ w = w' := by
  have HV := Lib.hid hv
  clear hv
  obtain ⟨cs, mb, b1, b2, c, b3, vF, vs, vO, hC, hO⟩ := hT
  have c38 : w.cell? ⟨tb, 38, none⟩ = some vO := (hC.blk.cell 38).trans hO.cO
  have hbl := hC.blk.lt
  obtain ⟨L, hL⟩ : ∃ L, L = s.o.fs.length := ⟨_, rfl⟩
  obtain ⟨g, cap, rfl, h3', h4, h5, h6⟩ := own_flds hO.rowO (by omega)
  have hc := (h6 Q (by omega)).c1
  rw [hN] at hc
  rw [← hL] at c38 h4 hQ hl
  clear hC hO h6 hL hN
  unfold maxLen at h5
  obtain rfl | rfl | rfl : N = 1 ∨ N = 2 ∨ N = 3 := by omega
  all_goals
    clear h1 h3
    go_enter Tryz.func135, Tryz.ntmps135
    go_wp2_with fail
    go_ret
    exact ⟨ret_bool HV.out, rfl⟩

theorem emp_of {t : ByteArray} (h : t.size = 0) : t.toList = [] ∧ t.toList.isEmpty = true := by
  have := (str_empty t).2 h
  exact ⟨this, by rw [this]; rfl⟩
theorem emp_not {t : ByteArray} (h : ¬ t.size = 0) : (¬ t.toList = []) ∧ t.toList.isEmpty = false := by
  have h2 : ¬ t.toList = [] := fun e => h ((str_empty t).1 e)
  exact ⟨h2, by simpa using h2⟩
set_option maxHeartbeats 1000000 in
theorem nests_any (P : Nat → Prop) (tb : Nat) (s : St) (f : Fld) (v : Bool) (w : World) (hT : TabAt w P tb s) (hl : s.o.fs.length ≤ 16) (hf : Ints f) (hv : Fx.nests (lm s.d) s.o.fs f = v) :
    Calls Tryz.prog 130 #[adr tb, fldV f] w fun e w' => e = .returned (.bool v) ∧ Below w.heap.size w w' := by
  have HT := Lib.hid (hT.below (bx (.cells #[.int .i64 f.kind, .int .i64 f.n, .int .i64 f.frm, .string f.text] 56)))
  have HF := Lib.hid hf
  have HL := Lib.hid hl
  have HV := Lib.hid hv
  clear hT hf hl hv
  by_cases h1 : f.text.size = 0
  · obtain ⟨e1, e2⟩ := emp_of h1
    obtain ⟨k, hk⟩ : ∃ k, knows (lm s.d) f.n = k := ⟨_, rfl⟩
    cases k with
    | true =>
      obtain ⟨u, hu⟩ : ∃ u, counts s.o.fs f.frm = u := ⟨_, rfl⟩
      have HR : Hid (u = v) := Lib.hid (by rw [← hu, ← HV.out]; unfold Fx.nests; rw [decide_eq_true h1, hk]; rfl)
      have HK := Lib.hid (And.intro hk hu)
      clear hk hu h1 HV
      go_enter Tryz.func130, Tryz.ntmps130
      go_wp2_with fail
      refine (knows_any P tb s f.n true _ HT.out HF.out.n1 HF.out.n2 HK.out.1).mono ?_
      rintro e w' ⟨rfl, rfl⟩
      go_wp2_with fail
      refine (counts_any P tb s f.frm u _ HT.out HL.out HK.out.2).mono ?_
      rintro e w' ⟨rfl, rfl⟩
      go_wp2_with fail
      go_ret
      exact ⟨ret_bool HR.out, bx _⟩
    | false =>
      have HR : Hid (false = v) := Lib.hid (by rw [← HV.out]; unfold Fx.nests; rw [decide_eq_true h1, hk]; rfl)
      have HK := Lib.hid hk
      clear hk h1 HV
      go_enter Tryz.func130, Tryz.ntmps130
      go_wp2_with fail
      refine (knows_any P tb s f.n false _ HT.out HF.out.n1 HF.out.n2 HK.out).mono ?_
      rintro e w' ⟨rfl, rfl⟩
      go_wp2_with fail
      go_ret
      exact ⟨ret_bool HR.out, bx _⟩
  · obtain ⟨e1, e2⟩ := emp_not h1
    have HR : Hid (false = v) := Lib.hid (by rw [← HV.out]; unfold Fx.nests; rw [decide_eq_false h1]; rfl)
    clear h1 HV
    go_enter Tryz.func130, Tryz.ntmps130
    go_wp2_with fail
    go_ret
    exact ⟨ret_bool HR.out, bx _⟩

/-- The numbers among fields have 1 to 3 bytes. -/
def NumsOk (fs : List Fld) : Prop := ∀ i, i < fs.length → (fs.getD i zf).kind = 2 → 1 ≤ (fs.getD i zf).n ∧ (fs.getD i zf).n ≤ 3
theorem TabAt.look_ {w : World} {P : Nat → Prop} {tb : Nat} {s : St} (h : TabAt w P tb s) : ∃ mb, w.cell? ⟨tb, 36, none⟩ = some (.map (some mb)) ∧ MapIs w mb (lm s.d) := by
  obtain ⟨cs, mb, b1, b2, c, b3, vF, vs, vO, hC, hO⟩ := h
  exact ⟨mb, (hC.blk.cell 36).trans hC.cM, hC.map⟩
set_option maxHeartbeats 1000000 in
theorem inside_any (P : Nat → Prop) (tb : Nat) (s : St) (f : Fld) (v : Bool) (w : World) (hT : TabAt w P tb s) (hl : s.o.fs.length ≤ 16) (hN : NumsOk s.o.fs) (hf : Ints f) (hv : (Fx.nests (lm s.d) s.o.fs f && tells (lm s.d) s.o.fs f) = v) :
    Calls Tryz.prog 134 #[adr tb, fldV f] w fun e w' => e = .returned (.bool v) ∧ Below w.heap.size w w' := by
  have HT := Lib.hid (hT.below (bx (.cells #[.int .i64 f.kind, .int .i64 f.n, .int .i64 f.frm, .string f.text] 56)))
  have HF := Lib.hid hf
  have HL := Lib.hid hl
  obtain ⟨u, hu⟩ : ∃ u, Fx.nests (lm s.d) s.o.fs f = u := ⟨_, rfl⟩
  have HU := Lib.hid hu
  cases u with
  | true =>
    have hc := counts_of (nests_of hu).2.2
    obtain ⟨Q, hQ⟩ : ∃ Q : Nat, (Q : Int) = f.frm := ⟨f.frm.toNat, by omega⟩
    have hQl : Q < s.o.fs.length := by omega
    have hQt : f.frm.toNat = Q := by omega
    have h3 := hc.2.2.1
    rw [hQt] at h3
    have hn := hN Q hQl h3
    obtain ⟨N, hNN⟩ : ∃ N : Nat, (s.o.fs.getD Q zf).n = N := ⟨(s.o.fs.getD Q zf).n.toNat, by omega⟩
    rw [hNN] at hn
    have HA := Lib.hid (And.intro hQl (And.intro hNN hn))
    have HR : Hid (decide (lkz (lm s.d) f.n < 2 ^ (8 * N)) = v) := Lib.hid (by
      rw [← hv, hu, Bool.true_and]; unfold tells
      rw [hQt, hNN]; congr 1)
    have HQ := Lib.hid hQ
    clear hT hf hl hN hv hu hc hQl hQt h3 hn hNN
    go_enter Tryz.func134, Tryz.ntmps134
    go_wp2_with fail
    obtain ⟨w0, hw0⟩ : ∃ w0, w0 = w.alloc (.cells #[.int .i64 f.kind, .int .i64 f.n, .int .i64 f.frm, .string f.text] 56) := ⟨_, rfl⟩
    rw [← hw0]
    have k0 : w0.cell? ⟨w.heap.size, 0, none⟩ = some (.int .i64 f.kind) := by rw [hw0]; simp [go_sem]
    have k1 : w0.cell? ⟨w.heap.size, 1, none⟩ = some (.int .i64 f.n) := by rw [hw0]; simp [go_sem]
    have k2 : w0.cell? ⟨w.heap.size, 2, none⟩ = some (.int .i64 f.frm) := by rw [hw0]; simp [go_sem]
    have k3 : w0.cell? ⟨w.heap.size, 3, none⟩ = some (.string f.text) := by rw [hw0]; simp [go_sem]
    have HT0 : Hid (TabAt w0 P tb s) := Lib.hid (by rw [hw0]; exact HT.out)
    have HB0 : Hid (Below w.heap.size w w0) := Lib.hid (by rw [hw0]; exact bx _)
    clear hw0 HT
    obtain ⟨mb, hc, hm⟩ := HT0.out.look_
    have g0 := fun d os => cell_regrown k0 d os
    have g1 := fun d os => cell_regrown k1 d os
    have g2 := fun d os => cell_regrown k2 d os
    have g3 := fun d os => cell_regrown k3 d os
    have gc := fun d os => cell_regrown hc d os
    have hmr : ∀ d os, (Instr.lookup 187 (.map (some mb)) (.int .i64 f.n) false).run Tryz.prog (grow (redrawn w0 d) os) = .ok (.int .i64 (lkz (lm s.d) f.n)) (grow (redrawn w0 d) os) :=
      fun d os => (hm.of_block ((below_regrown w0 d os).block _ hm.lt)).look_ HF.out.n1 HF.out.n2
    have htl := World.block_lt_of_cell? (h := hc)
    have HTL : Hid (∀ d os, Calls Tryz.prog 135 #[adr tb, .int .i64 f.frm, .int .i64 (lkz (lm s.d) f.n)] (grow (redrawn w0 d) os) fun e w' => e = .returned (.bool v) ∧ Below (grow (redrawn w0 d) os).heap.size (grow (redrawn w0 d) os) w') := Lib.hid (fun d os => by
      rw [← HQ.out]
      exact (tells_any P tb s Q _ N v _ (HT0.out.below (below_regrown _ _ _)) HA.out.1 HL.out HA.out.2.1 (by have := HA.out.2.2; omega) (by have := HA.out.2.2; omega) HR.out).mono fun e w' ⟨h1, h2⟩ => ⟨h1, h2 ▸ Below.refl _ _⟩)
    clear hm k0 k1 k2 k3 hc hQ
    refine wp_region_quiet_below (by kernel_rfl) (by kernel_rfl) ?_
    repeat (first | go_big_quiet_step (first | (go_at_call 130; exact Calls.regrown_of (nests_any P tb s f true _ (HT0.out.below (below_regrown _ _ _)) HL.out HF.out HU.out)) | (go_at_call 135; exact Calls.regrown_of (HTL.out _ _))) | quiet_step (first | (go_at_call 130; exact Calls.regrown_of (nests_any P tb s f true _ (HT0.out.below (below_regrown _ _ _)) HL.out HF.out HU.out)) | (go_at_call 135; exact Calls.regrown_of (HTL.out _ _))))
    refine wpQuiet_nil ?_
    intro _ hw'
    obtain ⟨⟨dq, osq⟩, hw''⟩ := hw'
    subst hw''
    go_wp2
    go_ret
    exact ⟨rfl, HB0.out.trans ((below_regrown w0 dq osq).mono HB0.out.size)⟩
  | false =>
    have HR : Hid (false = v) := Lib.hid (by rw [← hv, hu]; rfl)
    clear hT hf hl hN hv hu
    go_enter Tryz.func134, Tryz.ntmps134
    go_wp2_with fail
    obtain ⟨w0, hw0⟩ : ∃ w0, w0 = w.alloc (.cells #[.int .i64 f.kind, .int .i64 f.n, .int .i64 f.frm, .string f.text] 56) := ⟨_, rfl⟩
    rw [← hw0]
    have k0 : w0.cell? ⟨w.heap.size, 0, none⟩ = some (.int .i64 f.kind) := by rw [hw0]; simp [go_sem]
    have k1 : w0.cell? ⟨w.heap.size, 1, none⟩ = some (.int .i64 f.n) := by rw [hw0]; simp [go_sem]
    have k2 : w0.cell? ⟨w.heap.size, 2, none⟩ = some (.int .i64 f.frm) := by rw [hw0]; simp [go_sem]
    have k3 : w0.cell? ⟨w.heap.size, 3, none⟩ = some (.string f.text) := by rw [hw0]; simp [go_sem]
    have HT0 : Hid (TabAt w0 P tb s) := Lib.hid (by rw [hw0]; exact HT.out)
    have HB0 : Hid (Below w.heap.size w w0) := Lib.hid (by rw [hw0]; exact bx _)
    clear hw0 HT
    have g0 := fun d os => cell_regrown k0 d os
    have g1 := fun d os => cell_regrown k1 d os
    have g2 := fun d os => cell_regrown k2 d os
    have g3 := fun d os => cell_regrown k3 d os
    clear k0 k1 k2 k3
    refine wp_region_quiet_below (by kernel_rfl) (by kernel_rfl) ?_
    repeat (first | go_big_quiet_step (first | (go_at_call 130; exact Calls.regrown_of (nests_any P tb s f false _ (HT0.out.below (below_regrown _ _ _)) HL.out HF.out HU.out))) | quiet_step (first | (go_at_call 130; exact Calls.regrown_of (nests_any P tb s f false _ (HT0.out.below (below_regrown _ _ _)) HL.out HF.out HU.out))))
    refine wpQuiet_nil ?_
    intro _ hw'
    obtain ⟨⟨dq, osq⟩, hw''⟩ := hw'
    subst hw''
    go_wp2
    go_ret
    exact ⟨ret_bool HR.out, HB0.out.trans ((below_regrown w0 dq osq).mono HB0.out.size)⟩
end FmtE
section FmtF
open Go.RowKit Fx Go.Sort

theorem TabAt.boxes_ {w : World} {P : Nat → Prop} {tb : Nat} {s : St} (h : TabAt w P tb s) : ∃ b1 b2 c b3, (∀ i, i < 35 → w.cell? ⟨tb, i, none⟩ = (kindsV b1 c b3)[i]?) ∧ Boxes w b1 b2 c b3 ∧ tb < w.heap.size := by
  obtain ⟨cs, mb, b1, b2, c, b3, vF, vs, vO, hC, hO⟩ := h
  exact ⟨b1, b2, c, b3, fun i hi => (hC.blk.cell i).trans (hC.kinds i hi), hC.boxes, hC.blk.lt⟩
set_option maxHeartbeats 1000000 in
theorem counted_any (P : Nat → Prop) (tb c b2 : Nat) (s : St) (f : Fld) (v : Bool) (w : World) (hT : TabAt w P tb s) (hk : w.heap[c]? = some (.cells (sizedV ⟨#[98, 121, 116, 101, 115]⟩ b2) 184 (0, 0)))
    (l2 : w.cell? ⟨b2, 0, none⟩ = some (.int .i64 0)) (h2 : w.cell? ⟨b2 + 1, 0, none⟩ = some (.int .i64 4096)) (hl : s.o.fs.length ≤ 16) (hv : (Fx.sized 0 4096 f || Fx.counted s.o.fs f) = v) :
    Calls Tryz.prog 146 #[adr tb, fldV f, adr c] w fun e w' => e = .returned (.bool v) ∧ Below w.heap.size w w' := by
  have c1 : w.cell? ⟨c, 1, none⟩ = some (clo 140 #[adr b2, adr (b2 + 1)]) := cell_of_row _ _ _ _ _ _ hk
  have hcl := lt_of_heap hk
  have hlt := World.block_lt_of_cell? (h := h2)
  have hlt0 := World.block_lt_of_cell? (h := l2)
  obtain ⟨u, hu⟩ : ∃ u, Fx.sized 0 4096 f = u := ⟨_, rfl⟩
  have HC : Hid (∀ w0, Below w.heap.size w w0 → Calls Tryz.prog 140 #[adr tb, fldV f, adr b2, adr (b2 + 1)] w0 fun e w' => e = .returned (.bool u) ∧ Below w0.heap.size w0 w') := Lib.hid (fun w0 hb =>
    sized_any (adr tb) 0 4096 ⟨b2, 0, none⟩ ⟨b2 + 1, 0, none⟩ f u w0 (((bcell hb).1 _ _ hlt0).trans l2) (((bcell hb).1 _ _ hlt).trans h2) hu)
  have HT := Lib.hid hT
  have HL := Lib.hid hl
  have HV := Lib.hid hv
  have HU := Lib.hid hu
  have HH := Lib.hid hcl
  clear hT hl hv hu hk l2 h2 hlt hlt0
  cases u with
  | true =>
    have HR : Hid (true = v) := Lib.hid (by rw [← HV.out, HU.out]; rfl)
    go_enter Tryz.func146, Tryz.ntmps146
    go_wp2_with fail
    refine (HC.out _ (bx _)).mono ?_
    rintro e w1 ⟨rfl, hB⟩
    go_wp2_with fail
    go_ret
    exact ⟨ret_bool HR.out, (bx _).trans (hB.mono (by simp))⟩
  | false =>
    by_cases h1 : f.n = 0
    · have d1 : ((f.n : Int) == 0) = true := by simpa using h1
      by_cases h2 : f.text.size = 0
      · obtain ⟨e1, e2⟩ := emp_of h2
        obtain ⟨q, hq⟩ : ∃ q, counts s.o.fs f.frm = q := ⟨_, rfl⟩
        have HR : Hid (q = v) := Lib.hid (by rw [← HV.out, HU.out]; unfold counted; rw [decide_eq_true h1, decide_eq_true h2, hq]; rfl)
        have HQ := Lib.hid hq
        clear hq h1 h2
        go_enter Tryz.func146, Tryz.ntmps146
        go_wp2_with fail
        refine (HC.out _ (bx _)).mono ?_
        rintro e w1 ⟨rfl, hB⟩
        obtain ⟨hc, _⟩ := bcell hB
        have x1 : w1.cell? ⟨w.heap.size, 1, none⟩ = some (.int .i64 f.n) := by rw [hc _ _ (by simp)]; simp [go_sem]
        have x2 : w1.cell? ⟨w.heap.size, 2, none⟩ = some (.int .i64 f.frm) := by rw [hc _ _ (by simp)]; simp [go_sem]
        have x3 : w1.cell? ⟨w.heap.size, 3, none⟩ = some (.string f.text) := by rw [hc _ _ (by simp)]; simp [go_sem]
        have HB : Hid (Below w.heap.size w w1) := Lib.hid ((bx _).trans (hB.mono (by simp)))
        clear hc hB
        go_wp2_with fail
        refine (counts_any P tb s f.frm q _ (HT.out.below HB.out) HL.out HQ.out).mono ?_
        rintro e w' ⟨rfl, rfl⟩
        go_wp2_with fail
        go_ret
        exact ⟨ret_bool HR.out, HB.out⟩
      · obtain ⟨e1, e2⟩ := emp_not h2
        have HR : Hid (false = v) := Lib.hid (by rw [← HV.out, HU.out]; unfold counted; rw [decide_eq_true h1, decide_eq_false h2]; rfl)
        clear h1 h2
        go_enter Tryz.func146, Tryz.ntmps146
        go_wp2_with fail
        refine (HC.out _ (bx _)).mono ?_
        rintro e w1 ⟨rfl, hB⟩
        obtain ⟨hc, _⟩ := bcell hB
        have x1 : w1.cell? ⟨w.heap.size, 1, none⟩ = some (.int .i64 f.n) := by rw [hc _ _ (by simp)]; simp [go_sem]
        have x3 : w1.cell? ⟨w.heap.size, 3, none⟩ = some (.string f.text) := by rw [hc _ _ (by simp)]; simp [go_sem]
        have HB : Hid (Below w.heap.size w w1) := Lib.hid ((bx _).trans (hB.mono (by simp)))
        clear hc hB
        go_wp2_with fail
        go_ret
        exact ⟨ret_bool HR.out, HB.out⟩
    · have d1 : ((f.n : Int) == 0) = false := by simpa using h1
      have HR : Hid (false = v) := Lib.hid (by rw [← HV.out, HU.out]; unfold counted; rw [decide_eq_false h1]; rfl)
      clear h1
      go_enter Tryz.func146, Tryz.ntmps146
      go_wp2_with fail
      refine (HC.out _ (bx _)).mono ?_
      rintro e w1 ⟨rfl, hB⟩
      obtain ⟨hc, _⟩ := bcell hB
      have x1 : w1.cell? ⟨w.heap.size, 1, none⟩ = some (.int .i64 f.n) := by rw [hc _ _ (by simp)]; simp [go_sem]
      have HB : Hid (Below w.heap.size w w1) := Lib.hid ((bx _).trans (hB.mono (by simp)))
      clear hc hB
      go_wp2_with fail
      go_ret
      exact ⟨ret_bool HR.out, HB.out⟩

/-! the kinds, as they are called -/
def wordB (K : Nat) : ByteArray := ⟨(wordK K).toArray⟩
def fnR (K : Nat) : FuncId := if K = 1 then 121 else if K = 3 then 146 else if K = 4 then 130 else if K = 5 then 134 else 140
def fnL (K : Nat) : FuncId := if K = 1 then 123 else if K = 4 then 131 else if K = 5 then 136 else 141
def fnW (K : Nat) : FuncId := if K = 1 then 124 else if K = 3 then 148 else if K = 4 ∨ K = 5 then 132 else 142
def fnD (K : Nat) : FuncId := if K = 1 then 126 else if K = 3 then 149 else if K = 4 ∨ K = 5 then 133 else 144
def capR (K b1 c b3 : Nat) : Array Value := if K = 2 then #[adr b1, adr (b1 + 1)] else if K = 3 then #[adr c] else if K = 6 then #[adr b3, adr (b3 + 1)] else #[]
def capW (K c : Nat) : Array Value := if K = 3 then #[adr c] else #[]
/-- The cells of a kind. -/
structure KindAt (w : World) (tb K b1 c b3 : Nat) : Prop where
  c0 : w.cell? ⟨tb, K * 5, none⟩ = some (.string (wordB K))
  c1 : w.cell? ⟨tb, K * 5 + 1, none⟩ = some (clo (fnR K) (capR K b1 c b3))
  c2 : w.cell? ⟨tb, K * 5 + 2, none⟩ = some (clo (fnL K) #[])
  c3 : w.cell? ⟨tb, K * 5 + 3, none⟩ = some (clo (fnW K) (capW K c))
  c4 : w.cell? ⟨tb, K * 5 + 4, none⟩ = some (clo (fnD K) #[])
theorem kindAt_of {w : World} {tb b1 c b3 : Nat} (h : ∀ i, i < 35 → w.cell? ⟨tb, i, none⟩ = (kindsV b1 c b3)[i]?) (K : Nat) (h1 : 1 ≤ K) (h6 : K ≤ 6) : KindAt w tb K b1 c b3 := by
  obtain rfl | rfl | rfl | rfl | rfl | rfl : K = 1 ∨ K = 2 ∨ K = 3 ∨ K = 4 ∨ K = 5 ∨ K = 6 := by omega
  all_goals exact ⟨(h _ (by omega)).trans rfl, (h _ (by omega)).trans rfl, (h _ (by omega)).trans rfl, (h _ (by omega)).trans rfl, (h _ (by omega)).trans rfl⟩
theorem en (f : FuncId) (h : f = 121 ∨ f = 123 ∨ f = 131 ∨ f = 134 ∨ f = 136 ∨ f = 130 ∨ f = 140 ∨ f = 141 ∨ f = 146) : Enters f := by
  rcases h with rfl | rfl | rfl | rfl | rfl | rfl | rfl | rfl | rfl
  · exact enters_of Tryz.func121 (by kernel_rfl) (by kernel_rfl)
  · exact enters_of Tryz.func123 (by kernel_rfl) (by kernel_rfl)
  · exact enters_of Tryz.func131 (by kernel_rfl) (by kernel_rfl)
  · exact enters_of Tryz.func134 (by kernel_rfl) (by kernel_rfl)
  · exact enters_of Tryz.func136 (by kernel_rfl) (by kernel_rfl)
  · exact enters_of Tryz.func130 (by kernel_rfl) (by kernel_rfl)
  · exact enters_of Tryz.func140 (by kernel_rfl) (by kernel_rfl)
  · exact enters_of Tryz.func141 (by kernel_rfl) (by kernel_rfl)
  · exact enters_of Tryz.func146 (by kernel_rfl) (by kernel_rfl)
theorem enR (K : Nat) : Enters (fnR K) := by
  unfold fnR
  apply en
  repeat' split
  all_goals simp
theorem enL (K : Nat) : Enters (fnL K) := by
  unfold fnL
  apply en
  repeat' split
  all_goals simp

/-- What the functions of the kinds answer. -/
theorem right_any (P : Nat → Prop) (tb K b1 b2 c b3 : Nat) (s : St) (f : Fld) (w : World) (hT : TabAt w P tb s) (hX : Boxes w b1 b2 c b3) (hl : s.o.fs.length ≤ 16) (hN : NumsOk s.o.fs) (hf : Ints f) (h1 : 1 ≤ K) (h6 : K ≤ 6) (hK : f.kind = K) :
    Calls Tryz.prog (fnR K) (#[adr tb, fldV f] ++ capR K b1 c b3) w fun e w' => e = .returned (.bool (Fx.right (lm s.d) s.o.fs f)) ∧ Below w.heap.size w w' := by
  unfold Fx.right
  obtain rfl | rfl | rfl | rfl | rfl | rfl : K = 1 ∨ K = 2 ∨ K = 3 ∨ K = 4 ∨ K = 5 ∨ K = 6 := by omega
  · rw [if_pos (by omega)]
    exact literal_any _ f _ w hf.t rfl
  · rw [if_neg (by omega), if_pos (by omega)]
    exact sized_any _ 1 3 ⟨b1, 0, none⟩ ⟨b1 + 1, 0, none⟩ f _ w (box_cell hX.l1) (box_cell hX.h1) rfl
  · rw [if_neg (by omega), if_neg (by omega), if_pos (by omega)]
    exact counted_any P tb c b2 s f _ w hT hX.k (box_cell hX.l2) (box_cell hX.h2) hl rfl
  · rw [if_neg (by omega), if_neg (by omega), if_neg (by omega), if_pos (by omega)]
    exact nests_any P tb s f _ w hT hl hf rfl
  · rw [if_neg (by omega), if_neg (by omega), if_neg (by omega), if_neg (by omega), if_pos (by omega)]
    exact inside_any P tb s f _ w hT hl hN hf rfl
  · rw [if_neg (by omega), if_neg (by omega), if_neg (by omega), if_neg (by omega), if_neg (by omega), if_pos (by omega)]
    exact sized_any _ 1 3 ⟨b3, 0, none⟩ ⟨b3 + 1, 0, none⟩ f _ w (box_cell hX.l3) (box_cell hX.h3) rfl
theorem least_any (P : Nat → Prop) (tb K : Nat) (s : St) (f : Fld) (w : World) (hT : TabAt w P tb s) (hf : Ints f) (h1 : 1 ≤ K) (h6 : K ≤ 6) (hK : f.kind = K) :
    Calls Tryz.prog (fnL K) #[adr tb, fldV f] w fun e w' => e = .returned (.int .i64 (lf (lm s.d) f)) ∧ Below w.heap.size w w' := by
  unfold lf
  obtain rfl | rfl | rfl | rfl | rfl | rfl : K = 1 ∨ K = 2 ∨ K = 3 ∨ K = 4 ∨ K = 5 ∨ K = 6 := by omega
  · rw [if_pos (by omega)]
    exact textLen_any _ f w
  · rw [if_neg (by omega), if_neg (by omega), if_neg (by omega)]
    exact nLen_any _ f w
  · rw [if_neg (by omega), if_neg (by omega), if_neg (by omega)]
    exact nLen_any _ f w
  · rw [if_neg (by omega), if_pos (by omega)]
    exact zeroLen_any _ f w
  · rw [if_neg (by omega), if_neg (by omega), if_pos (by omega)]
    exact lookLen_any P tb s f w hT hf
  · rw [if_neg (by omega), if_neg (by omega), if_neg (by omega)]
    exact nLen_any _ f w
end FmtF
section FmtG
open Go.RowKit Fx Go.Sort

/-- What add ends in. -/
def AddPost (P : Nat → Prop) (tb : Nat) (s : St) (f : Fld) (er : Addr) (w : World) (e : Ending) (w' : World) : Prop :=
  e = ends er (addB s f) ∧ Kept P w w' ∧ (addB s f = true → TabAt w' P tb ⟨s.d, ⟨s.o.id, s.o.fs ++ [f]⟩⟩)
theorem TabAt.cells_ {w : World} {P : Nat → Prop} {tb : Nat} {s : St} (h : TabAt w P tb s) : ∃ a c, w.cell? ⟨tb, 37, none⟩ = some (.int .i64 s.o.id) ∧ w.cell? ⟨tb, 38, none⟩ = some (.slice a s.o.fs.length c) ∧ w.cell? ⟨tb, 39, none⟩ = some (.int .i64 (ls (lm s.d) s.o.fs)) ∧
    s.o.fs.length ≤ c ∧ c ≤ maxLen ∧ tb < w.heap.size ∧ (∀ i, w.frozen? ⟨tb, i, none⟩ = false) ∧ ∀ k, P k → k < w.heap.size := by
  obtain ⟨cs, mb, b1, b2, c, b3, vF, vs, vO, hC, hO⟩ := h
  obtain ⟨a, c, rfl, h1, h2⟩ := own_slice hO.rowO
  exact ⟨a, c, (hC.blk.cell 37).trans hC.cI, (hC.blk.cell 38).trans hO.cO, (hC.blk.cell 39).trans hO.cL, h1, h2, hC.blk.lt, fun i => hC.blk.frozen i, hC.pin⟩
theorem add_stop {P : Nat → Prop} {tb : Nat} {s : St} {f : Fld} {er : Addr} {w : World} {e : Ending} {w' : World} (h : addB s f = false) (he : e = ends er false) (hk : Kept P w w') : AddPost P tb s f er w e w' :=
  ⟨by rw [h]; exact he, hk, fun h2 => by rw [h] at h2; cases h2⟩

theorem add_id (P : Nat → Prop) (tb : Nat) (s : St) (f : Fld) (er : Addr) (w : World) (hT : TabAt w P tb s) (hE : ErrAt w er) (h0 : ¬ 0 < s.o.id) :
    Calls Tryz.prog 115 #[adr tb, fldV f] w (AddPost P tb s f er w) := by
  obtain ⟨a, c, q1, q2, q3, q4, q5, q6, q7, q8⟩ := hT.cells_
  have HB : Hid (addB s f = false) := Lib.hid (by unfold addB; rw [decide_eq_false h0]; rfl)
  have HK : Hid (Kept P w (w.alloc (.cells #[.int .i64 f.kind, .int .i64 f.n, .int .i64 f.frm, .string f.text] 56))) := Lib.hid (Kept.of_below (bx _) q8)
  have HE := Lib.hid (hE.below (bx (.cells #[.int .i64 f.kind, .int .i64 f.n, .int .i64 f.frm, .string f.text] 56)))
  have d0 : decide (0 < s.o.id) = false := decide_eq_false h0
  clear hT hE q2 q3 q4 q5 q7 q8
  go_enter Tryz.func115, Tryz.ntmps115
  go_wp2_with fail
  refine (require_any false er _ HE.out).mono ?_
  rintro e w' ⟨rfl, rfl⟩
  unfold ends
  go_wp2_with fail
  exact ⟨rfl, add_stop HB.out rfl HK.out⟩
theorem add_full (P : Nat → Prop) (tb : Nat) (s : St) (f : Fld) (er : Addr) (w : World) (hT : TabAt w P tb s) (hE : ErrAt w er) (h0 : 0 < s.o.id) (h1 : ¬ s.o.fs.length < 16) :
    Calls Tryz.prog 115 #[adr tb, fldV f] w (AddPost P tb s f er w) := by
  obtain ⟨a, c, q1, q2, q3, q4, q5, q6, q7, q8⟩ := hT.cells_
  have HB : Hid (addB s f = false) := Lib.hid (by unfold addB; rw [decide_eq_true h0, decide_eq_false h1]; rfl)
  have HK : Hid (Kept P w (w.alloc (.cells #[.int .i64 f.kind, .int .i64 f.n, .int .i64 f.frm, .string f.text] 56))) := Lib.hid (Kept.of_below (bx _) q8)
  have HE := Lib.hid (hE.below (bx (.cells #[.int .i64 f.kind, .int .i64 f.n, .int .i64 f.frm, .string f.text] 56)))
  obtain ⟨L, hL⟩ : ∃ L, L = s.o.fs.length := ⟨_, rfl⟩
  rw [← hL] at q2 q4 h1
  have d1 : decide ((L : Int) < 16) = false := decide_eq_false (by omega)
  unfold maxLen at q5
  clear hT hE q3 q7 q8 hL h1
  go_enter Tryz.func115, Tryz.ntmps115
  go_wp2_with fail
  refine (require_any false er _ HE.out).mono ?_
  rintro e w' ⟨rfl, rfl⟩
  unfold ends
  go_wp2_with fail
  exact ⟨rfl, add_stop HB.out rfl HK.out⟩
theorem right_false {m : List (Int × Int)} {fs : List Fld} {f : Fld} (h : ¬ (1 ≤ f.kind ∧ f.kind ≤ 6)) : Fx.right m fs f = false := by
  cases hr : Fx.right m fs f with
  | false => rfl
  | true => exact absurd (right_kind hr) h
theorem addB_right {s : St} {f : Fld} (h : Fx.right (lm s.d) s.o.fs f = false) : addB s f = false := by
  unfold addB; rw [h]; simp
set_option maxHeartbeats 1000000 in
theorem add_kind (P : Nat → Prop) (tb : Nat) (s : St) (f : Fld) (er : Addr) (w : World) (hT : TabAt w P tb s) (hE : ErrAt w er) (h0 : 0 < s.o.id) (h1 : s.o.fs.length < 16) (hk : ¬ (1 ≤ f.kind ∧ f.kind ≤ 6)) :
    Calls Tryz.prog 115 #[adr tb, fldV f] w (AddPost P tb s f er w) := by
  obtain ⟨a, c, q1, q2, q3, q4, q5, q6, q7, q8⟩ := hT.cells_
  have HB : Hid (addB s f = false) := Lib.hid (addB_right (right_false hk))
  have HK : Hid (Kept P w (w.alloc (.cells #[.int .i64 f.kind, .int .i64 f.n, .int .i64 f.frm, .string f.text] 56))) := Lib.hid (Kept.of_below (bx _) q8)
  have HE := Lib.hid (hE.below (bx (.cells #[.int .i64 f.kind, .int .i64 f.n, .int .i64 f.frm, .string f.text] 56)))
  obtain ⟨L, hL⟩ : ∃ L, L = s.o.fs.length := ⟨_, rfl⟩
  rw [← hL] at q2 q4 h1
  have d1 : (L : Int) < 16 := by omega
  unfold maxLen at q5
  clear hT hE q3 q7 q8 hL
  by_cases hk1 : 1 ≤ f.kind
  · have d2 : decide (f.kind ≤ 6) = false := decide_eq_false (by omega)
    clear hk
    go_enter Tryz.func115, Tryz.ntmps115
    go_wp2_with fail
    refine (require_any true er _ HE.out).mono ?_
    rintro e w' ⟨rfl, rfl⟩
    unfold ends
    go_wp2_with fail
    refine (require_any false er _ HE.out).mono ?_
    rintro e w' ⟨rfl, rfl⟩
    unfold ends
    go_wp2_with fail
    exact ⟨rfl, add_stop HB.out rfl HK.out⟩
  · have d2 : decide (1 ≤ f.kind) = false := decide_eq_false hk1
    clear hk
    go_enter Tryz.func115, Tryz.ntmps115
    go_wp2_with fail
    refine (require_any true er _ HE.out).mono ?_
    rintro e w' ⟨rfl, rfl⟩
    unfold ends
    go_wp2_with fail
    refine (require_any false er _ HE.out).mono ?_
    rintro e w' ⟨rfl, rfl⟩
    unfold ends
    go_wp2_with fail
    exact ⟨rfl, add_stop HB.out rfl HK.out⟩
end FmtG
section FmtI
open Go.RowKit Fx Go.Sort

theorem infoFld : (Tryz.prog.info? 56).map (fun i => (i.zero, i.size, i.bytes)) = some (some (.agg #[.int .i64 0, .int .i64 0, .int .i64 0, .string ⟨#[]⟩]), 4, 40) := by kernel_rfl
theorem infoFmt : (Tryz.prog.info? 52).map (fun i => (i.zero, i.size, i.bytes)) = some (some (.agg #[.int .i64 0, .slice none 0 0]), 2, 32) := by kernel_rfl
theorem Blk.ne_ {w : World} {g g' : Nat} {t t' : TypeId} {cs cs' : Array Value} (h : Blk w g t cs) (h' : Blk w g' t' cs') (hne : t ≠ t') : g ≠ g' := by
  rintro rfl
  unfold Blk at h h'
  rw [h] at h'
  injection h' with h'
  injection h' with _ ht
  exact hne ht
theorem own_blk_ne {w : World} {base g : Nat} {e t : TypeId} {size n : Nat} {v : Value} {xs : List Value} {cs : Array Value} (h : w.ownsRow base e size v n xs) (hg : Blk w g t cs) (hne : e ≠ t) : v.ownBlock ≠ some g := by
  rcases h.2 with ⟨rfl, _⟩ | ⟨g', cap, cur, rfl, _, hh, _⟩
  · simp [Value.ownBlock]
  · intro he
    have : g' = g := by simpa [Value.ownBlock] using he
    subst this
    exact Blk.ne_ (t := e) hh hg hne rfl
/-- What an append of one element leaves. -/
structure Grew (w w' : World) (base : Nat) (e : TypeId) (size : Nat) (v v' : Value) (n : Nat) (xs : List Value) : Prop where
  own : w'.ownsRow base e size v' n xs
  grown : w.grownBy w' v.ownBlock
  blk : v'.ownBlock = v.ownBlock ∨ v'.ownBlock = some w.heap.size
section
variable {w w' : World} {base : Nat} {e : TypeId} {size : Nat} {v v' : Value} {n : Nat} {xs : List Value}
/-- A block of another type is as it was. -/
theorem Grew.blkOther {m : Nat} {ys : List Value} {g : Nat} {t : TypeId} {cs : Array Value} (h : Grew w w' base e size v v' n xs) (h0 : w.ownsRow base e size v m ys) (hg : Blk w g t cs) (hne : e ≠ t) : Blk w' g t cs :=
  (h.grown.block g hg.lt fun e => own_blk_ne h0 hg hne e.symm).trans hg
theorem Grew.heapOther {m : Nat} {ys : List Value} {g : Nat} (h : Grew w w' base e size v v' n xs) (h0 : w.ownsRow base e size v m ys) (hl : g < w.heap.size) (hne : ∀ cur fr, w.heap[g]? ≠ some (.cells cur e fr)) : w'.heap[g]? = w.heap[g]? :=
  h.grown.block g hl fun e1 => by
    rcases h0.2 with ⟨rfl, _⟩ | ⟨g', cap, cur, rfl, _, hh, _⟩
    · simp [Value.ownBlock] at e1
    · have : g = g' := by simpa [Value.ownBlock] using e1
      subst this
      exact hne _ _ hh
end
theorem run_append_fld (w : World) (ty : TypeId) (v : Value) (n : Nat) (xs : List Value) (hown : w.ownsRow 0 56 4 v n xs) (hn : n ≤ 1000) (g : Nat) (f : Fld) (hg : w.heap[g]? = some (.cells (fldC f).toArray 56 (0, 0))) :
    ∃ v' w', (Builtin.append_ #[50, 50] ty #[v, .slice (some ⟨g, 0, none⟩) 1 1]).run Tryz.prog w = .ok v' w' ∧ Grew w w' 0 56 4 v v' (n + 1) (xs ++ fldC f) := by
  obtain ⟨i0, hi, hz0, hz1, hz2⟩ := info_parts infoFld
  obtain ⟨v', w', h1, h2, h3, _, h5⟩ := run_append_own_at (P := Tryz.prog) w 0 50 ty 56 i0 _ 4 40 Tryz.underlying50 hi hz0 hz1 hz2 rfl (by decide) v n xs hown ⟨g, 0, none⟩ 1 1 (fldC f) rfl
    (fun j u hu => by
      have hadd : (⟨g, 0, none⟩ : Addr).add j = ⟨g, j, none⟩ := by unfold Addr.add; split <;> simp_all
      rw [hadd, cell_of_row w g j _ _ _ hg]; simpa using hu)
    (fun u hu => by simp [fldC] at hu; rcases hu with rfl | rfl | rfl | rfl <;> rfl) (by unfold maxLen; omega) (by omega) (Nat.zero_le _)
  exact ⟨v', w', h1, h2, h3, h5⟩
theorem step_append_fld {ops : Array Oper} {o : Oper} {a : Act} {w : World} {K : Act → World → Prop} {Q : Exit → Act → World → Prop} {E : Prop}
    (hg : o.guard = none) (s x : Operand) (hop : o.op = Op.call { callee := Callee.builtin Builtin.append, args := #[s, x], argTypes := #[50, 50] })
    (v : Value) (n : Nat) (xs : List Value) (hs : a.eval s = v) (hown : w.ownsRow 0 56 4 v n xs) (hn : n ≤ 1000) (g : Nat) (f : Fld) (hx : a.eval x = .slice (some ⟨g, 0, none⟩) 1 1)
    (hb : w.heap[g]? = some (.cells (fldC f).toArray 56 (0, 0)))
    (hK : ∀ v' w', Grew w w' 0 56 4 v v' (n + 1) (xs ++ fldC f) → K (a.put o.dst v') w') :
    if Region.wanted o (yielded ops a.tmps) = true then Oper.wp Tryz.prog o a w K Q else E := by
  have hw : Region.wanted o (yielded ops a.tmps) = true := by simp [Region.wanted, hg]
  rw [if_pos hw]
  obtain ⟨v', w', hr, h2⟩ := run_append_fld w o.type v n xs hown hn g f hb
  unfold Oper.wp
  simp [execOp, hop, resolve, invoke, builtin, hs, hx, hr, Result.andThen]
  exact hK _ _ h2
theorem run_append_fmt (w : World) (ty : TypeId) (v : Value) (n : Nat) (xs : List Value) (hown : w.ownsRow 0 52 2 v n xs) (hn : n ≤ 1000) (g : Nat) (id : Int) (u : Value) (hu : u.oneCell' = true) (hg : w.heap[g]? = some (.cells #[.int .i64 id, u] 52 (0, 0))) :
    ∃ v' w', (Builtin.append_ #[23, 23] ty #[v, .slice (some ⟨g, 0, none⟩) 1 1]).run Tryz.prog w = .ok v' w' ∧ Grew w w' 0 52 2 v v' (n + 1) (xs ++ [.int .i64 id, u]) := by
  obtain ⟨i0, hi, hz0, hz1, hz2⟩ := info_parts infoFmt
  obtain ⟨v', w', h1, h2, h3, _, h5⟩ := run_append_own_at (P := Tryz.prog) w 0 23 ty 52 i0 _ 2 32 Tryz.underlying23 hi hz0 hz1 hz2 rfl (by decide) v n xs hown ⟨g, 0, none⟩ 1 1 [.int .i64 id, u] rfl
    (fun j y hy => by
      have hadd : (⟨g, 0, none⟩ : Addr).add j = ⟨g, j, none⟩ := by unfold Addr.add; split <;> simp_all
      rw [hadd, cell_of_row w g j _ _ _ hg]; simpa using hy)
    (fun y hy => by simp at hy; rcases hy with rfl | rfl; rfl; exact hu) (by unfold maxLen; omega) (by omega) (Nat.zero_le _)
  exact ⟨v', w', h1, h2, h3, h5⟩
theorem step_append_fmt {ops : Array Oper} {o : Oper} {a : Act} {w : World} {K : Act → World → Prop} {Q : Exit → Act → World → Prop} {E : Prop}
    (hg : o.guard = none) (s x : Operand) (hop : o.op = Op.call { callee := Callee.builtin Builtin.append, args := #[s, x], argTypes := #[23, 23] })
    (v : Value) (n : Nat) (xs : List Value) (hs : a.eval s = v) (hown : w.ownsRow 0 52 2 v n xs) (hn : n ≤ 1000) (g : Nat) (id : Int) (u : Value) (hu : u.oneCell' = true) (hx : a.eval x = .slice (some ⟨g, 0, none⟩) 1 1)
    (hb : w.heap[g]? = some (.cells #[.int .i64 id, u] 52 (0, 0)))
    (hK : ∀ v' w', Grew w w' 0 52 2 v v' (n + 1) (xs ++ [.int .i64 id, u]) → K (a.put o.dst v') w') :
    if Region.wanted o (yielded ops a.tmps) = true then Oper.wp Tryz.prog o a w K Q else E := by
  have hw : Region.wanted o (yielded ops a.tmps) = true := by simp [Region.wanted, hg]
  rw [if_pos hw]
  obtain ⟨v', w', hr, h2⟩ := run_append_fmt w o.type v n xs hown hn g id u hu hb
  unfold Oper.wp
  simp [execOp, hop, resolve, invoke, builtin, hs, hx, hr, Result.andThen]
  exact hK _ _ h2
end FmtI
section RecF
open Go.RowKit Fx Rec

theorem infoInt5 : (Tryz.prog.info? 3).map (fun i => (i.zero, i.size, i.bytes)) = some (some (.int .i64 0), 1, 8) := by kernel_rfl
theorem run_append_one (w : World) (ty : TypeId) (v : Value) (n : Nat) (xs : List Value) (hown : w.ownsRow 0 3 1 v n xs) (hn : n ≤ 1000000) (g : Nat) (x : Int) (hg : w.heap[g]? = some (.cells #[.int .i64 x] 3 (0, 0))) :
    ∃ v' w', (Builtin.append_ #[24, 24] ty #[v, .slice (some ⟨g, 0, none⟩) 1 1]).run Tryz.prog w = .ok v' w' ∧ Grew w w' 0 3 1 v v' (n + 1) (xs ++ [.int .i64 x]) := by
  obtain ⟨i0, hi, hz0, hz1, hz2⟩ := info_parts infoInt5
  obtain ⟨v', w', h1, h2, h3, _, h5⟩ := run_append_own_at (P := Tryz.prog) w 0 24 ty 3 i0 _ 1 8 Tryz.underlying24 hi hz0 hz1 hz2 rfl (by decide) v n xs hown ⟨g, 0, none⟩ 1 1 [.int .i64 x] rfl
    (fun j u hu => by
      have hadd : (⟨g, 0, none⟩ : Addr).add j = ⟨g, j, none⟩ := by unfold Addr.add; split <;> simp_all
      rw [hadd, cell_of_row w g j _ _ _ hg]; simpa using hu)
    (fun u hu => by simp at hu; subst hu; rfl) (by unfold maxLen; omega) (by omega) (Nat.zero_le _)
  exact ⟨v', w', h1, h2, h3, h5⟩
theorem step_append_one {ops : Array Oper} {o : Oper} {a : Act} {w : World} {K : Act → World → Prop} {Q : Exit → Act → World → Prop} {E : Prop}
    (hg : o.guard = none) (s x : Operand) (hop : o.op = Op.call { callee := Callee.builtin Builtin.append, args := #[s, x], argTypes := #[24, 24] })
    (v : Value) (n : Nat) (xs : List Value) (hs : a.eval s = v) (hown : w.ownsRow 0 3 1 v n xs) (hn : n ≤ 1000000) (g : Nat) (y : Int) (hx : a.eval x = .slice (some ⟨g, 0, none⟩) 1 1)
    (hb : w.heap[g]? = some (.cells #[.int .i64 y] 3 (0, 0)))
    (hK : ∀ v' w', Grew w w' 0 3 1 v v' (n + 1) (xs ++ [.int .i64 y]) → K (a.put o.dst v') w') :
    if Region.wanted o (yielded ops a.tmps) = true then Oper.wp Tryz.prog o a w K Q else E := by
  have hw : Region.wanted o (yielded ops a.tmps) = true := by simp [Region.wanted, hg]
  rw [if_pos hw]
  obtain ⟨v', w', hr, h2⟩ := run_append_one w o.type v n xs hown hn g y hb
  unfold Oper.wp
  simp [execOp, hop, resolve, invoke, builtin, hs, hx, hr, Result.andThen]
  exact hK _ _ h2

/-- What the closure of adder keeps: the sums of the first 0 to k bytes, and the function of the bytes. -/
structure SumsAt (w : World) (sb ab : Nat) (fv : Value) (σ : Nat → Int) (k : Nat) (vs : Value) : Prop where
  sb : Blk w sb 24 #[vs]
  ab : Blk w ab 114 #[fv]
  row : w.ownsRow 0 3 1 vs (k + 1) ((List.range (k + 1)).map fun i => Value.int .i64 (σ i))
theorem SumsAt.slice_ {w : World} {sb ab : Nat} {fv : Value} {σ : Nat → Int} {k : Nat} {vs : Value} (h : SumsAt w sb ab fv σ k vs) :
    ∃ g c, vs = .slice (some ⟨g, 0, none⟩) (k + 1) c ∧ k + 1 ≤ c ∧ c ≤ maxLen ∧ g < w.heap.size ∧ ∀ i, i ≤ k → w.cell? ⟨g, i, none⟩ = some (.int .i64 (σ i)) := by
  rcases h.row.2 with ⟨_, h0⟩ | ⟨g, cap, cur, rfl, _, hh, hl, hm, _, ht⟩
  · omega
  · refine ⟨g, cap, rfl, hl, hm, lt_of_heap hh, fun i hi => ?_⟩
    rw [cell_of_row w g i cur _ (0, 0) hh]
    have e : (cur.toList.take ((k + 1) * 1))[i]? = ((List.range (k + 1)).map fun i => Value.int .i64 (σ i))[i]? := by rw [ht]
    rw [List.getElem?_take, if_pos (by omega)] at e
    simp only [Array.getElem?_toList] at e
    rw [e]
    simp [List.getElem?_range (show i < k + 1 by omega)]
/-- The numbers of bytes and their sums. -/
structure Adds (σ b : Nat → Int) : Prop where
  step : ∀ i, i ≤ 100000 → σ (i + 1) = σ i + b i
  lo : ∀ i, i ≤ 100000 → 0 ≤ σ i ∧ σ i ≤ 100000000
  byte : ∀ i, i ≤ 100000 → 0 ≤ b i ∧ b i ≤ 255
set_option maxRecDepth 20000 in
set_option maxHeartbeats 2000000 in
theorem sum_any (P : Nat → Prop) (fn : FuncId) (cap : Array Value) (σ b : Nat → Int) (sb ab k n : Nat) (vs : Value) (w : World) (hS : SumsAt w sb ab (.func (.func fn) #[] cap) σ k vs) (hE : Enters fn) (hA : Adds σ b)
    (hk : k ≤ 65536) (hn : n ≤ 65536) (pS : ¬ P sb) (pV : ∀ g, vs.ownBlock = some g → ¬ P g) (pin : ∀ g, P g → g < w.heap.size) (pA : P ab)
    (hat : ∀ W (i : Nat), Kept P w W → k ≤ i → i < n → Calls Tryz.prog fn (#[.int .i64 i] ++ cap) W fun e w' => e = .returned (.int .u8 (b i)) ∧ w' = W) :
    Calls Tryz.prog 93 #[.int .i64 n, .pointer (some ⟨sb, 0, none⟩), .pointer (some ⟨ab, 0, none⟩)] w fun e w' =>
      e = .returned (.int .i64 (σ n)) ∧ Kept P w w' ∧ ∃ k' vs', (k ≤ k' ∧ n ≤ k' ∧ (k' = k ∨ k' = n)) ∧ SumsAt w' sb ab (.func (.func fn) #[] cap) σ k' vs' ∧ ∀ g, vs'.ownBlock = some g → ¬ P g := by
  have HI := Lib.hid (And.intro hS (And.intro hE (And.intro hA (And.intro pS (And.intro pV (And.intro pin (And.intro pA hat)))))))
  obtain ⟨g, c, rfl, hc1, hc2, -, -⟩ := hS.slice_
  have c0 := hS.sb.cell 0
  simp only [List.getElem?_toArray, List.getElem?_cons_zero] at c0
  have hk1 : IntKind.i64.wrap ((k : Int) + 1 - 1) = k := by rw [wr64 (by omega) (by omega)]; omega
  clear hS hE hA pS pV pin pA hat
  go_enter Tryz.func93, Tryz.ntmps93
  go_wp2_with fail
  go_loopw [5] (fun i wr => ∃ (j : Nat) (vs' : Value), i = .int .i64 j ∧ k ≤ j ∧ (j ≤ n ∨ j = k) ∧ Hid (Kept P w wr ∧ SumsAt wr sb ab (.func (.func fn) #[] cap) σ j vs' ∧ ∀ g, vs'.ownBlock = some g → ¬ P g)) (fun i _ => n - (intOf i).toNat)
  case atStart => exact ⟨k, _, rfl, Nat.le_refl _, .inr rfl, Lib.hid ⟨Kept.refl _ _, HI.out.1, HI.out.2.2.2.2.1⟩⟩
  case round =>
    obtain ⟨j, vs', rfl, hkj, hjn, HJ⟩ := hrel
    obtain ⟨wq, rfl⟩ : ∃ wq, wq = wr := ⟨_, rfl⟩
    obtain ⟨g', c', rfl, l1, l2, lg, hcl⟩ := HJ.out.2.1.slice_
    have hj : j ≤ 65536 := by omega
    have d0 := HJ.out.2.1.sb.cell 0
    have d1 := HJ.out.2.1.ab.cell 0
    simp only [List.getElem?_toArray, List.getElem?_cons_zero] at d0 d1
    have z0 := HJ.out.2.1.sb.frozen 0
    have lsb := HJ.out.2.1.sb.lt
    have lab := HJ.out.2.1.ab.lt
    unfold maxLen at l2
    by_cases hlt : j < n
    · have d2 := hcl j (Nat.le_refl _)
      obtain ⟨A, hA⟩ : ∃ A, A = σ j := ⟨_, rfl⟩
      obtain ⟨B, hB⟩ : ∃ B, B = b j := ⟨_, rfl⟩
      have hst := HI.out.2.2.1.step j (by omega)
      have hlo := HI.out.2.2.1.lo j (by omega)
      have hby := HI.out.2.2.1.byte j (by omega)
      rw [← hA] at d2 hst hlo
      rw [← hB] at hst hby
      obtain ⟨C, hC⟩ : ∃ C, C = A + B := ⟨_, rfl⟩
      have hw1 : IntKind.i64.wrap B = B := wr64 (by omega) (by omega)
      have hw2 : IntKind.i64.wrap (A + B) = C := by rw [wr64 (by omega) (by omega)]; exact hC.symm
      have HG : Hid (∀ (W : World) (v1 : Value) (w1 : World), Below wq.heap.size wq W → Grew W w1 0 3 1 (.slice (some ⟨g', 0, none⟩) (j + 1) c') v1 (j + 1 + 1) (((List.range (j + 1)).map fun i => Value.int .i64 (σ i)) ++ [.int .i64 C]) →
          Blk w1 sb 24 #[.slice (some ⟨g', 0, none⟩) (j + 1) c'] ∧ Kept P w (w1.setCell ⟨sb, 0, none⟩ v1) ∧ SumsAt (w1.setCell ⟨sb, 0, none⟩ v1) sb ab (.func (.func fn) #[] cap) σ (j + 1) v1 ∧ ∀ g, v1.ownBlock = some g → ¬ P g) := Lib.hid fun W v1 w1 hb hG => by
        have hrow := ownsRow_below HJ.out.2.1.row hb
        have hs1 : Blk W sb 24 #[.slice (some ⟨g', 0, none⟩) (j + 1) c'] := (hb.block sb lsb).trans HJ.out.2.1.sb
        have hs2 := hG.blkOther hrow hs1 (by decide)
        have ha1 : Blk W ab 114 #[.func (.func fn) #[] cap] := (hb.block ab lab).trans HJ.out.2.1.ab
        have ha2 := hG.blkOther hrow ha1 (by decide)
        have pin' : ∀ q, P q → q < wq.heap.size := fun q hq => Nat.lt_of_lt_of_le (HI.out.2.2.2.2.2.1 q hq) HJ.out.1.size
        have pv' : ∀ q, v1.ownBlock = some q → ¬ P q := fun q hq hP => by
          rcases hG.blk with h | h
          · exact HJ.out.2.2 q (h ▸ hq) hP
          · rw [h] at hq
            cases hq
            have h1 := pin' _ hP
            have h2 := hb.size
            omega
        have hk1 : Kept P w W := HJ.out.1.trans (Kept.of_below hb pin')
        have hk2 : Kept P w w1 := hk1.grown hG.grown (fun q hq => Nat.lt_of_lt_of_le (pin' q hq) hb.size) (fun q hq => HJ.out.2.2 q hq)
        refine ⟨hs2, hk2.setCell HI.out.2.2.2.1 _, ⟨?_, ?_, ?_⟩, pv'⟩
        · exact hs2.set_ 0 v1
        · exact (Below.heap_setCell _ _ _ _ (fun e => Blk.ne_ ha2 hs2 (by decide) e)).trans ha2
        · have e : ((List.range (j + 1)).map fun i => Value.int .i64 (σ i)) ++ [.int .i64 C] = (List.range (j + 1 + 1)).map fun i => Value.int .i64 (σ i) := by
            rw [List.range_succ (n := j + 1), List.map_append, List.map_singleton, hst, hC]
          rw [← e]
          refine own_keep hG.own fun q cur hq hh => Below.heap_setCell _ _ _ _ fun e => ?_
          subst e
          exact Blk.ne_ (t := 3) (t' := 24) hh hs2 (by decide) rfl
      have HF : Hid (∀ W, Below wq.heap.size wq W → W.cell? ⟨sb, 0, none⟩ = some (.slice (some ⟨g', 0, none⟩) (j + 1) c') ∧ W.cell? ⟨g', j, none⟩ = some (.int .i64 A) ∧ W.cell? ⟨ab, 0, none⟩ = some (.func (.func fn) #[] cap)) := Lib.hid fun W hb =>
        ⟨(hb.cell (p := ⟨sb, 0, none⟩) lsb).trans d0, (hb.cell (p := ⟨g', j, none⟩) lg).trans d2, (hb.cell (p := ⟨ab, 0, none⟩) lab).trans d1⟩
      have HC : Hid (∀ W, Below wq.heap.size wq W → Calls Tryz.prog fn (#[.int .i64 j] ++ cap) W fun e w' => e = .returned (.int .u8 B) ∧ w' = W) := Lib.hid fun W hb => by
        rw [hB]
        exact HI.out.2.2.2.2.2.2.2 W j (HJ.out.1.trans (Kept.of_below hb fun q hq => Nat.lt_of_lt_of_le (HI.out.2.2.2.2.2.1 q hq) HJ.out.1.size)) hkj hlt
      have hen := HI.out.2.1
      unfold Enters at hen
      have hi1 : (0 : Int) ≤ (j : Int) ∧ (j : Int) < (j : Int) + 1 := by omega
      clear hA hB hC hst d0 d1 d2 hcl
      go_wp2_with fail
      refine wp_region_T 11 (fun w' : World => Below wq.heap.size wq w') (by kernel_rfl) (Below.refl _ _).drew (fun hHeld => ?_)
      refine takeT 0 (y := by intro wS hSw; obtain ⟨s0, s1, s2⟩ := HF.out _ hSw; go_simp; (try with_reducible rfl)) (h := ?_)
      (try simp only [pA, pB, pC, pD])
      refine takeT 1 (y := by intro wS hSw; obtain ⟨s0, s1, s2⟩ := HF.out _ hSw; go_simp; (try with_reducible rfl)) (h := ?_)
      (try simp only [pA, pB, pC, pD])
      refine takeT 2 (y := by intro wS hSw; obtain ⟨s0, s1, s2⟩ := HF.out _ hSw; go_simp; (try with_reducible rfl)) (h := ?_)
      (try simp only [pA, pB, pC, pD])
      refine takeT 3 (y := by intro wS hSw; obtain ⟨s0, s1, s2⟩ := HF.out _ hSw; go_simp; (try with_reducible rfl)) (h := ?_)
      (try simp only [pA, pB, pC, pD])
      refine takeT 4 (y := by intro wS hSw; obtain ⟨s0, s1, s2⟩ := HF.out _ hSw; go_simp; (try with_reducible rfl)) (h := ?_)
      (try simp only [pA, pB, pC, pD])
      refine takeT 5 (y := by intro wS hSw; obtain ⟨s0, s1, s2⟩ := HF.out _ hSw; go_simp; (try with_reducible rfl)) (h := ?_)
      (try simp only [pA, pB, pC, pD])
      refine takeT 6 (y := by intro wS hSw; obtain ⟨s0, s1, s2⟩ := HF.out _ hSw; go_simp; (try with_reducible rfl)) (h := ?_)
      (try simp only [pA, pB, pC, pD])
      refine wpAnyT_call (i := 7) (oi := ?o8) (v := (.int .u8 B)) ?h8 ?a8 ?b8 ?c8 ?d8 ?e8 ?f8 ?j8 ?q8 ?g8 fn (#[.int .i64 j] ++ cap) ?x8 ?y8 ?s8 ?r8
      case h8 => (simp only [List.getElem?_toArray, List.getElem?_cons_zero, List.getElem?_cons_succ]; rfl)
      case a8 => kernel_rfl
      case b8 => kernel_rfl
      case c8 => kernel_rfl
      case d8 => kernel_rfl
      case e8 => kernel_rfl
      case f8 => kernel_rfl
      case j8 => kernel_rfl
      case q8 => exact fun _ _ _ h => h
      case g8 => rfl
      case x8 => (intro wS hSw; go_simp; (try with_reducible rfl))
      case y8 => (intro wS hSw; exact HC.out wS hSw)
      case s8 => assumption
      (try simp only [pA, pB, pC, pD])
      refine takeT 8 (y := by intro wS hSw; obtain ⟨s0, s1, s2⟩ := HF.out _ hSw; go_simp; (try with_reducible rfl)) (h := ?_)
      (try simp only [pA, pB, pC, pD])
      refine takeT 9 (y := by intro wS hSw; obtain ⟨s0, s1, s2⟩ := HF.out _ hSw; go_simp; (try with_reducible rfl)) (h := ?_)
      (try simp only [pA, pB, pC, pD])
      refine wpAnyT_ready (rs := [10]) (by kernel_rfl) (by simp) ?_
      refine AllReadyT.cons (o := ?oB11) ?hB11 ?kB11 AllReadyT.nil
      case hB11 => (simp only [List.getElem?_toArray, List.getElem?_cons_zero, List.getElem?_cons_succ]; rfl)
      case kB11 =>
        intro K hK
        go_simp
        refine hK.out _ _ (fun _ => ((Below.refl _ _).alloc (Nat.le_refl _) _).drew) ?_
        clear hK K
        (try simp only [pA, pB, pC, pD])
        have hb1 : (wq.alloc (.cells #[.int .i64 C] 3)).drew.heap[wq.heap.size]? = some (.cells #[.int .i64 C] 3 (0, 0)) := heap_alloc_new wq _
        have HB1 : Hid (Below wq.heap.size wq (wq.alloc (.cells #[.int .i64 C] 3)).drew) := Lib.hid ((Below.refl _ _).alloc (Nat.le_refl _) _).drew
        generalize hW1 : (wq.alloc (.cells #[.int .i64 C] 3)).drew = W1 at *
        refine wpAnyT_ready (rs := [11]) (by kernel_rfl) (by simp) ?_
        refine AllReadyT.cons (o := ?oB12) ?hB12 ?kB12 AllReadyT.nil
        case hB12 => (simp only [List.getElem?_toArray, List.getElem?_cons_zero, List.getElem?_cons_succ]; rfl)
        case kB12 =>
          intro K hK
          refine step_append_one rfl (.tmp 14) (.tmp 24) rfl _ (j + 1) _ rfl (ownsRow_below HJ.out.2.1.row HB1.out) (by omega) wq.heap.size C rfl hb1 (fun v1 w1 hG => ?_)
          refine hK.out _ _ (no_more (by kernel_rfl)) ?_
          clear hK K
          (try simp only [pA, pB, pC, pD])
          have HN := Lib.hid (HG.out W1 v1 w1 HB1.out hG)
          obtain ⟨g2, cp2, rfl, -⟩ := HN.out.2.2.1.slice_
          have e0 := HN.out.1.cell 0
          have y0 := HN.out.1.frozen 0
          simp only [List.getElem?_toArray, List.getElem?_cons_zero] at e0
          clear hG hb1 hW1 hHeld
          refine wpAnyT_ready (rs := [12]) (by kernel_rfl) (by simp) ?_
          refine AllReadyT.cons (o := ?oB13) ?hB13 ?kB13 AllReadyT.nil
          case hB13 => (simp only [List.getElem?_toArray, List.getElem?_cons_zero, List.getElem?_cons_succ]; rfl)
          case kB13 =>
            intro K hK
            go_simp
            refine hK.out _ _ (no_more (by kernel_rfl)) ?_
            clear hK K
            (try simp only [pA, pB, pC, pD])
            refine wpAnyT_done (by kernel_rfl) ?_ _
            go_wp2_with fail
            exact ⟨⟨j + 1, _, by go_num, by omega, .inl (by omega), Lib.hid HN.out.2⟩, by simp [intOf]; omega⟩
    · have hne : k ≤ j ∧ n ≤ j ∧ (j = k ∨ j = n) := by omega
      have d2 := hcl n hne.2.1
      have hi1 : (0 : Int) ≤ (n : Int) ∧ (n : Int) < (j : Int) + 1 := by omega
      clear hcl
      go_wp2_with fail
      go_ret
      exact ⟨rfl, HJ.out.1, j, _, hne, HJ.out.2⟩
end RecF
section RecMap
open Go.RowKit

/-- What the entries hold of a number. -/
def lkV (es : List (Int × Value)) (id : Int) : Option Value := (es.find? fun p => decide (p.1 = id)).map (·.2)
theorem lkV_nil (id : Int) : lkV [] id = none := rfl
theorem lkV_cons (p : Int × Value) (es : List (Int × Value)) (id : Int) : lkV (p :: es) id = if p.1 = id then some p.2 else lkV es id := by
  unfold lkV
  rw [List.find?_cons]
  by_cases h : p.1 = id <;> simp [h]
theorem lkV_append (a b : List (Int × Value)) (id : Int) : lkV (a ++ b) id = (lkV a id).or (lkV b id) := by
  induction a with
  | nil => rfl
  | cons p t ih =>
    rw [List.cons_append, lkV_cons, lkV_cons]
    split
    · rfl
    · exact ih
/-- A block is a map with these entries, in the order in which they were laid. -/
def MapE (w : World) (mb : Nat) (es : List (Int × Value)) : Prop :=
  ∃ (a : Array MapEntry) (clock : Nat), w.heap[mb]? = some (.map a clock) ∧ a.toList.map (fun e => (e.key, e.val)) = es.map fun p => (Value.int .i64 p.1, p.2)
theorem MapE.lt {w : World} {mb : Nat} {es : List (Int × Value)} (h : MapE w mb es) : mb < w.heap.size := by
  obtain ⟨a, c, hb, _⟩ := h
  exact (Array.getElem?_eq_some_iff.1 hb).1
theorem MapE.of_block {w w' : World} {mb : Nat} {es : List (Int × Value)} (h : MapE w mb es) (hb : w'.heap[mb]? = w.heap[mb]?) : MapE w' mb es := by
  obtain ⟨a, c, h1, h2⟩ := h
  exact ⟨a, c, hb.trans h1, h2⟩
theorem MapE.made (w : World) : MapE (w.alloc (.map #[] 0)) w.heap.size [] := ⟨#[], 0, (MapKept.heap_alloc w _).1, rfl⟩
theorem find_now (id : Int) : ∀ (l : List MapEntry) (es : List (Int × Value)) (i : Nat), l.map (fun e => (e.key, e.val)) = es.map (fun p => (Value.int .i64 p.1, p.2)) →
    (lkV es id = none ∧ Instr.findNow (.int .i64) (.int .i64 id) l i = some none) ∨ ∃ v j, lkV es id = some v ∧ Instr.findNow (.int .i64) (.int .i64 id) l i = some (some (j, v))
  | [], [], i, _ => .inl ⟨rfl, rfl⟩
  | [], _ :: _, _, h => by simp at h
  | _ :: _, [], _, h => by simp at h
  | e :: l, p :: es, i, h => by
    simp only [List.map_cons, List.cons.injEq, Prod.mk.injEq] at h
    obtain ⟨⟨hk, hv⟩, ht⟩ := h
    rw [lkV_cons]
    by_cases hp : p.1 = id
    · refine .inr ⟨p.2, i, by rw [if_pos hp], ?_⟩
      simp [Instr.findNow, hk, Instr.sameNow, hp, hv]
    · rw [if_neg hp]
      have hne : (id == p.1) = false := by rw [beq_eq_false_iff_ne]; exact fun h => hp h.symm
      have hf : Instr.findNow (.int .i64) (.int .i64 id) (e :: l) i = Instr.findNow (.int .i64) (.int .i64 id) l (i + 1) := by
        simp [Instr.findNow, hk, Instr.sameNow, hne]
      rw [hf]
      exact find_now id l es (i + 1) ht
section
variable {P : Program} {t k e : TypeId} {w : World} {mb : Nat} {es : List (Int × Value)} {id : Int}
theorem MapE.look_ (h : MapE w mb es) (ht : P.underlying t = some (.map k e)) (hk : P.underlying k = some (.int .i64)) {v : Value} (hv : lkV es id = some v) (ok : Bool) :
    (Instr.lookup t (.map (some mb)) (.int .i64 id) ok).run P w = .ok (if ok then .tuple #[v, .bool true] else v) w := by
  obtain ⟨a, c, hb, hm⟩ := h
  rcases find_now id a.toList es 0 hm with ⟨h0, _⟩ | ⟨v', j, h1, hf⟩
  · rw [h0] at hv; cases hv
  · rw [h1] at hv
    cases hv
    have hc : ∀ em, (Instr.checkKey em 10000 k (.int .i64 id)).run P w = .ok () w := fun em => MapKept.run_checkKey (k := .int .i64 id) hk (by simp [MapKept.IsKey]) em 9999
    cases ok <;> simp [Instr.lookup, run_underlying ht, MapKept.run_getObj_map hb, hc, MapKept.run_findKey hk hf, Result.andThen]
theorem MapE.look_no (h : MapE w mb es) (ht : P.underlying t = some (.map k e)) (hk : P.underlying k = some (.int .i64)) (hv : lkV es id = none) {z : Value} (hz : (zeroValue e).run P w = .ok z w) (ok : Bool) :
    (Instr.lookup t (.map (some mb)) (.int .i64 id) ok).run P w = .ok (if ok then .tuple #[z, .bool false] else z) w := by
  obtain ⟨a, c, hb, hm⟩ := h
  rcases find_now id a.toList es 0 hm with ⟨_, hf⟩ | ⟨v', j, h1, _⟩
  · have hc : ∀ em, (Instr.checkKey em 10000 k (.int .i64 id)).run P w = .ok () w := fun em => MapKept.run_checkKey (k := .int .i64 id) hk (by simp [MapKept.IsKey]) em 9999
    cases ok <;> simp [Instr.lookup, run_underlying ht, MapKept.run_getObj_map hb, hc, MapKept.run_findKey hk hf, hz, Result.andThen]
  · rw [h1] at hv; cases hv
/-- A new entry is laid behind the others; nothing else turns. -/
theorem MapE.put_ (h : MapE w mb es) (ht : P.underlying t = some (.map k e)) (hk : P.underlying k = some (.int .i64)) (hv : lkV es id = none) (v : Value) :
    ∃ w', (Instr.mapUpdate t (.map (some mb)) (.int .i64 id) v).run P w = .ok () w' ∧ MapE w' mb (es ++ [(id, v)]) ∧ w.grownBy w' (some mb) := by
  have hlt := h.lt
  obtain ⟨a, c, hb, hm⟩ := h
  rcases find_now id a.toList es 0 hm with ⟨_, hf⟩ | ⟨v', j, h1, _⟩
  · have hc : (Instr.checkKey false 10000 k (.int .i64 id)).run P w = .ok () w := MapKept.run_checkKey (k := .int .i64 id) hk (by simp [MapKept.IsKey]) false 9999
    refine ⟨{ w with heap := w.heap.setIfInBounds mb (.map (a.push { key := .int .i64 id, val := v, born := c }) (c + 1)) }, ?_, ⟨_, _, (MapKept.heap_set hb).1, ?_⟩, ⟨rfl, rfl, rfl, by simp, fun i _ hi => (MapKept.heap_set hb).2 i (fun e => hi (by rw [e]))⟩⟩
    · simp [Instr.mapUpdate, run_underlying ht, MapKept.run_getObj_map hb, hc, MapKept.run_findKey hk hf, MapKept.run_setObj_map _ hb, Result.andThen]
    · simp [hm]
  · rw [h1] at hv; cases hv
end

/-- The new entry at the operation, for the walk. -/
theorem wpList_mapUpdate_E {P : Program} (w : World) {ops : Array Oper} {rest : List Oper} {o : Oper} {a : Act} {Q : Exit → Act → World → Prop}
    (hg : o.guard = none) (m x v : Operand) (t : TypeId) (hop : o.op = Op.mapUpdate t m x v) (k e : TypeId) (ht : P.underlying t = some (.map k e)) (hk : P.underlying k = some (.int .i64))
    (mb : Nat) (es : List (Int × Value)) (hm : a.eval m = .map (some mb)) (h : MapE w mb es) (id : Int) (val : Value) (hx : a.eval x = .int .i64 id) (hv : a.eval v = val) (hno : lkV es id = none)
    (hK : ∀ w', MapE w' mb (es ++ [(id, val)]) → w.grownBy w' (some mb) → wpList P ops Q rest (a.put o.dst undef) w') :
    wpList P ops Q (o :: rest) a w := by
  refine wpList_plain hg fun K' hK' => ?_
  obtain ⟨w', hrun, r1, r2⟩ := h.put_ ht hk hno val
  unfold Oper.wp
  simp [execOp, hop, hm, hx, hv, hrun, Result.andThen]
  exact hK' _ _ (hK w' r1 r2)
end RecMap
end Go.Proofs.YtdndmhlmbpgdeaaGreatDoor
