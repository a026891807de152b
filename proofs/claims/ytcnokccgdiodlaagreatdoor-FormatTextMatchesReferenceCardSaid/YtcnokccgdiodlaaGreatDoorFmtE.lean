/- What the kinds ask of a table. Conditions: the table lies there; the fields' numbers are ints. -/
import Derived.Test.YtcnokccgdiodlaaGreatDoorFmtD
import Derived.Lib.QuietBelow
namespace Go.Proofs.YtcnokccgdiodlaaGreatDoor
open Go.RowKit Fx Go.Sort

/-- A field's numbers are ints, and its text is no longer than a text can be. -/
structure Ints (f : Fld) : Prop where
  k1 : -9223372036854775808 ≤ f.kind
  k2 : f.kind ≤ 9223372036854775807
  n1 : -9223372036854775808 ≤ f.n
  n2 : f.n ≤ 9223372036854775807
  f1 : -9223372036854775808 ≤ f.frm
  f2 : f.frm ≤ 9223372036854775807
  t : f.text.size ≤ 9223372036854775807

theorem bdn {B : Nat} {a w : World} (h : Below B a w) (n : Nat) : Below B a (w.drewN n) := ⟨h.os, h.tape, h.output, h.size, h.block⟩
theorem MapIs.look_drews {w : World} {mb : Nat} {m : List (Int × Int)} (h : MapIs w mb m) {id : Int} (h1 : -9223372036854775808 ≤ id) (h2 : id ≤ 9223372036854775807) (k : Nat) :
    (Instr.lookup 75 (.map (some mb)) (.int .i64 id) false).run Tryz.prog (w.drewN k) = .ok (.int .i64 (lkz m id)) (w.drewN k) := (h.of_block (w' := w.drewN k) rfl).look_ h1 h2

theorem knows_any (P : Nat → Prop) (tb : Nat) (s : St) (id : Int) (v : Bool) (w : World) (hT : TabAt w P tb s) (h1 : -9223372036854775808 ≤ id) (h2 : id ≤ 9223372036854775807) (hv : knows (lm s.d) id = v) :
    Calls Tryz.prog 111 #[adr tb, .int .i64 id] w fun e w' => e = .returned (.bool v) ∧ w = w' := by
  obtain ⟨cs, mb, b1, b2, c, b3, vF, vs, vO, hC, hO⟩ := hT
  have c36 : w.cell? ⟨tb, 36, none⟩ = some (.map (some mb)) := (hC.blk.cell 36).trans hC.cM
  have hl := hC.blk.lt
  have hr := hC.map.look_ok h1 h2
  rw [hv] at hr
  clear hv hC hO
  go_enter Tryz.func111, Tryz.ntmps111
  go_wp2
  go_ret
  exact ⟨rfl, rfl⟩
theorem lookLen_any (P : Nat → Prop) (tb : Nat) (s : St) (f : Fld) (w : World) (hT : TabAt w P tb s) (hf : Ints f) :
    Calls Tryz.prog 94 #[adr tb, fldV f] w fun e w' => e = .returned (.int .i64 (lkz (lm s.d) f.n)) ∧ Below w.heap.size w w' := by
  have HT := Lib.hid (hT.below (bx (.cells #[.int .i64 f.kind, .int .i64 f.n, .int .i64 f.frm, .string f.text] 56)))
  have HF := Lib.hid hf
  clear hT hf
  go_enter Tryz.func94, Tryz.ntmps94
  go_wp2
  obtain ⟨cs, mb, b1, b2, c, b3, vF, vs, vO, hC, hO⟩ := HT.out
  have c36 := (hC.blk.cell 36).trans hC.cM
  have hl := hC.blk.lt
  have hr := hC.map.look_drews HF.out.n1 HF.out.n2
  clear hC hO
  go_quiet (fail)
  go_wp2
  go_ret
  exact ⟨rfl, bdn (bx _) _⟩
theorem own_slice {w : World} {B : Nat} {e : TypeId} {sz : Nat} {v : Value} {n : Nat} {xs : List Value} (h : w.ownsRow B e sz v n xs) : ∃ a c, v = .slice a n c ∧ n ≤ c ∧ c ≤ maxLen := by
  rcases h.2 with ⟨rfl, rfl⟩ | ⟨g, cap, cur, rfl, _, _, h1, h2, _⟩
  · exact ⟨none, 0, rfl, Nat.le_refl _, Nat.zero_le _⟩
  · exact ⟨_, _, rfl, h1, h2⟩
theorem own_flds {w : World} {v : Value} {fs : List Fld} (h : w.ownsRow 0 56 4 v fs.length (flat fs)) (h0 : 1 ≤ fs.length) :
    ∃ g cap, v = .slice (some ⟨g, 0, none⟩) fs.length cap ∧ g < w.heap.size ∧ fs.length ≤ cap ∧ cap ≤ maxLen ∧ ∀ i, i < fs.length → FldAt w g (i * 4) (fs.getD i zf) := by
  rcases FldsAt.of_own h with ⟨a, c, _, h1⟩ | ⟨b, off, cap, rfl, _, h2, h3, h4, h5⟩
  · rw [h1] at h0; simp at h0
  · rcases h.2 with ⟨h6, _⟩ | ⟨g, cap', cur, h6, _⟩
    · cases h6
    · have e : (⟨b, off, none⟩ : Addr) = ⟨g, 0, none⟩ := by injection h6 with h6; injection h6
      injection e with e1 e2
      subst e1; subst e2
      exact ⟨_, _, rfl, h4, h2, h3, fun i hi => by have := h5 i hi; rwa [Nat.zero_add] at this⟩

set_option maxHeartbeats 1000000 in
theorem counts_any (P : Nat → Prop) (tb : Nat) (s : St) (q : Int) (v : Bool) (w : World) (hT : TabAt w P tb s) (hl : s.o.fs.length ≤ 16) (hv : counts s.o.fs q = v) :
    Calls Tryz.prog 108 #[adr tb, .int .i64 q] w fun e w' => e = .returned (.bool v) ∧ w = w' := by
  have HV := Lib.hid hv
  clear hv
  obtain ⟨cs, mb, b1, b2, c, b3, vF, vs, vO, hC, hO⟩ := hT
  have c38 : w.cell? ⟨tb, 38, none⟩ = some vO := (hC.blk.cell 38).trans hO.cO
  have hbl := hC.blk.lt
  by_cases h1 : 0 ≤ q
  · obtain ⟨Q, rfl⟩ : ∃ Q : Nat, (Q : Int) = q := ⟨q.toNat, by omega⟩
    obtain ⟨n, hn⟩ : ∃ n, n = s.o.fs.length := ⟨_, rfl⟩
    by_cases h2 : Q < n
    · obtain ⟨g, cap, rfl, h3, h4, h5, h6⟩ := own_flds hO.rowO (by omega)
      have hc := (h6 Q (by omega)).c0
      obtain ⟨K, hK⟩ : ∃ K, K = (s.o.fs.getD Q zf).kind := ⟨_, rfl⟩
      rw [← hK] at hc
      have hu : w.cell? ⟨tb, 40 + Q, none⟩ = some (.bool (usedB s.o.fs Q)) := (hC.blk.cell _).trans (hO.cU Q (by omega))
      obtain ⟨U, hU⟩ : ∃ U, U = usedB s.o.fs Q := ⟨_, rfl⟩
      rw [← hU] at hu
      rw [← hn] at c38 h4
      have HR : Hid ((decide (K = 2) && !U) = v) := Lib.hid (by
        rw [← HV.out, hK, hU]; unfold counts usedB
        rw [decide_eq_true h1, decide_eq_true (show (Q : Int) < s.o.fs.length by omega)]; simp)
      have hn16 : n ≤ 16 := by omega
      have h2' : (Q : Int) < n := by omega
      clear hC hO h6 HV hK hU hn hl
      unfold maxLen at h5
      by_cases hk : K = 2
      · have hk2 : ((K : Int) == 2) = true := by simpa using hk
        have HR2 : Hid ((!U) = v) := Lib.hid (by rw [← HR.out, hk]; rfl)
        clear hk HR
        go_enter Tryz.func108, Tryz.ntmps108
        go_wp2_with fail
        go_ret
        exact ⟨ret_bool HR2.out, rfl⟩
      · have hk2 : ((K : Int) == 2) = false := by simpa using hk
        have HR2 : Hid (false = v) := Lib.hid (by rw [← HR.out]; simp [hk])
        clear hk HR
        go_enter Tryz.func108, Tryz.ntmps108
        go_wp2_with fail
        go_ret
        exact ⟨ret_bool HR2.out, rfl⟩
    · obtain ⟨a, cp, rfl, _, _⟩ := own_slice hO.rowO
      have HR2 : Hid (false = v) := Lib.hid (by
        rw [← HV.out]; unfold counts
        rw [decide_eq_true h1, decide_eq_false (show ¬ (Q : Int) < s.o.fs.length by omega)]; rfl)
      have h2' : decide (Q < n) = false := by simpa using h2
      have h2'' : ¬ (Q : Int) < n := by omega
      rw [← hn] at c38
      clear hC hO HV h2 hn hl
      go_enter Tryz.func108, Tryz.ntmps108
      go_wp2_with fail
      go_ret
      exact ⟨ret_bool HR2.out, rfl⟩
  · have h1' : decide (0 ≤ q) = false := by simpa using h1
    have HR2 : Hid (false = v) := Lib.hid (by rw [← HV.out]; unfold counts; rw [decide_eq_false h1]; rfl)
    clear hC hO HV hl c38
    go_enter Tryz.func108, Tryz.ntmps108
    go_wp2_with fail
    go_ret
    exact ⟨ret_bool HR2.out, rfl⟩

/-- tells, of a number that is there. -/
theorem tells_any (P : Nat → Prop) (tb : Nat) (s : St) (Q : Nat) (n : Int) (N : Nat) (v : Bool) (w : World) (hT : TabAt w P tb s) (hQ : Q < s.o.fs.length) (hl : s.o.fs.length ≤ 16) (hN : (s.o.fs.getD Q zf).n = N) (h1 : 1 ≤ N) (h3 : N ≤ 3)
    (hv : decide (n < 2 ^ (8 * N)) = v) :
    Calls Tryz.prog 93 #[adr tb, .int .i64 (Q : Nat), .int .i64 n] w fun e w' => e = .returned (.bool v) ∧ w = w' := by
  have HV := Lib.hid hv
  clear hv
  obtain ⟨cs, mb, b1, b2, c, b3, vF, vs, vO, hC, hO⟩ := hT
  have c38 : w.cell? ⟨tb, 38, none⟩ = some vO := (hC.blk.cell 38).trans hO.cO
  have hbl := hC.blk.lt
  obtain ⟨L, hL⟩ : ∃ L, L = s.o.fs.length := ⟨_, rfl⟩
  obtain ⟨g, cap, rfl, h3', h4, h5, h6⟩ := own_flds hO.rowO (by omega)
  have hc := (h6 Q (by omega)).c1
  rw [hN] at hc
  rw [← hL] at c38 h4 hQ hl
  clear hC hO h6 hL hN
  unfold maxLen at h5
  obtain rfl | rfl | rfl : N = 1 ∨ N = 2 ∨ N = 3 := by omega
  all_goals
    clear h1 h3
    go_enter Tryz.func93, Tryz.ntmps93
    go_wp2_with fail
    go_ret
    exact ⟨ret_bool HV.out, rfl⟩

theorem emp_of {t : ByteArray} (h : t.size = 0) : t.toList = [] ∧ t.toList.isEmpty = true := by
  have := (str_empty t).2 h
  exact ⟨this, by rw [this]; rfl⟩
theorem emp_not {t : ByteArray} (h : ¬ t.size = 0) : (¬ t.toList = []) ∧ t.toList.isEmpty = false := by
  have h2 : ¬ t.toList = [] := fun e => h ((str_empty t).1 e)
  exact ⟨h2, by simpa using h2⟩
set_option maxHeartbeats 1000000 in
theorem nests_any (P : Nat → Prop) (tb : Nat) (s : St) (f : Fld) (v : Bool) (w : World) (hT : TabAt w P tb s) (hl : s.o.fs.length ≤ 16) (hf : Ints f) (hv : Fx.nests (lm s.d) s.o.fs f = v) :
    Calls Tryz.prog 88 #[adr tb, fldV f] w fun e w' => e = .returned (.bool v) ∧ Below w.heap.size w w' := by
  have HT := Lib.hid (hT.below (bx (.cells #[.int .i64 f.kind, .int .i64 f.n, .int .i64 f.frm, .string f.text] 56)))
  have HF := Lib.hid hf
  have HL := Lib.hid hl
  have HV := Lib.hid hv
  clear hT hf hl hv
  by_cases h1 : f.text.size = 0
  · obtain ⟨e1, e2⟩ := emp_of h1
    obtain ⟨k, hk⟩ : ∃ k, knows (lm s.d) f.n = k := ⟨_, rfl⟩
    cases k with
    | true =>
      obtain ⟨u, hu⟩ : ∃ u, counts s.o.fs f.frm = u := ⟨_, rfl⟩
      have HR : Hid (u = v) := Lib.hid (by rw [← hu, ← HV.out]; unfold Fx.nests; rw [decide_eq_true h1, hk]; rfl)
      have HK := Lib.hid (And.intro hk hu)
      clear hk hu h1 HV
      go_enter Tryz.func88, Tryz.ntmps88
      go_wp2_with fail
      refine (knows_any P tb s f.n true _ HT.out HF.out.n1 HF.out.n2 HK.out.1).mono ?_
      rintro e w' ⟨rfl, rfl⟩
      go_wp2_with fail
      refine (counts_any P tb s f.frm u _ HT.out HL.out HK.out.2).mono ?_
      rintro e w' ⟨rfl, rfl⟩
      go_wp2_with fail
      go_ret
      exact ⟨ret_bool HR.out, bx _⟩
    | false =>
      have HR : Hid (false = v) := Lib.hid (by rw [← HV.out]; unfold Fx.nests; rw [decide_eq_true h1, hk]; rfl)
      have HK := Lib.hid hk
      clear hk h1 HV
      go_enter Tryz.func88, Tryz.ntmps88
      go_wp2_with fail
      refine (knows_any P tb s f.n false _ HT.out HF.out.n1 HF.out.n2 HK.out).mono ?_
      rintro e w' ⟨rfl, rfl⟩
      go_wp2_with fail
      go_ret
      exact ⟨ret_bool HR.out, bx _⟩
  · obtain ⟨e1, e2⟩ := emp_not h1
    have HR : Hid (false = v) := Lib.hid (by rw [← HV.out]; unfold Fx.nests; rw [decide_eq_false h1]; rfl)
    clear h1 HV
    go_enter Tryz.func88, Tryz.ntmps88
    go_wp2_with fail
    go_ret
    exact ⟨ret_bool HR.out, bx _⟩

/-- The numbers among fields have 1 to 3 bytes. -/
def NumsOk (fs : List Fld) : Prop := ∀ i, i < fs.length → (fs.getD i zf).kind = 2 → 1 ≤ (fs.getD i zf).n ∧ (fs.getD i zf).n ≤ 3
theorem TabAt.look_ {w : World} {P : Nat → Prop} {tb : Nat} {s : St} (h : TabAt w P tb s) : ∃ mb, w.cell? ⟨tb, 36, none⟩ = some (.map (some mb)) ∧ MapIs w mb (lm s.d) := by
  obtain ⟨cs, mb, b1, b2, c, b3, vF, vs, vO, hC, hO⟩ := h
  exact ⟨mb, (hC.blk.cell 36).trans hC.cM, hC.map⟩
set_option maxHeartbeats 1000000 in
theorem inside_any (P : Nat → Prop) (tb : Nat) (s : St) (f : Fld) (v : Bool) (w : World) (hT : TabAt w P tb s) (hl : s.o.fs.length ≤ 16) (hN : NumsOk s.o.fs) (hf : Ints f) (hv : (Fx.nests (lm s.d) s.o.fs f && tells (lm s.d) s.o.fs f) = v) :
    Calls Tryz.prog 92 #[adr tb, fldV f] w fun e w' => e = .returned (.bool v) ∧ Below w.heap.size w w' := by
  have HT := Lib.hid (hT.below (bx (.cells #[.int .i64 f.kind, .int .i64 f.n, .int .i64 f.frm, .string f.text] 56)))
  have HF := Lib.hid hf
  have HL := Lib.hid hl
  obtain ⟨u, hu⟩ : ∃ u, Fx.nests (lm s.d) s.o.fs f = u := ⟨_, rfl⟩
  have HU := Lib.hid hu
  cases u with
  | true =>
    have hc := counts_of (nests_of hu).2.2
    obtain ⟨Q, hQ⟩ : ∃ Q : Nat, (Q : Int) = f.frm := ⟨f.frm.toNat, by omega⟩
    have hQl : Q < s.o.fs.length := by omega
    have hQt : f.frm.toNat = Q := by omega
    have h3 := hc.2.2.1
    rw [hQt] at h3
    have hn := hN Q hQl h3
    obtain ⟨N, hNN⟩ : ∃ N : Nat, (s.o.fs.getD Q zf).n = N := ⟨(s.o.fs.getD Q zf).n.toNat, by omega⟩
    rw [hNN] at hn
    have HA := Lib.hid (And.intro hQl (And.intro hNN hn))
    have HR : Hid (decide (lkz (lm s.d) f.n < 2 ^ (8 * N)) = v) := Lib.hid (by
      rw [← hv, hu, Bool.true_and]; unfold tells
      rw [hQt, hNN]; congr 1)
    have HQ := Lib.hid hQ
    clear hT hf hl hN hv hu hc hQl hQt h3 hn hNN
    go_enter Tryz.func92, Tryz.ntmps92
    go_wp2_with fail
    obtain ⟨w0, hw0⟩ : ∃ w0, w0 = w.alloc (.cells #[.int .i64 f.kind, .int .i64 f.n, .int .i64 f.frm, .string f.text] 56) := ⟨_, rfl⟩
    rw [← hw0]
    have k0 : w0.cell? ⟨w.heap.size, 0, none⟩ = some (.int .i64 f.kind) := by rw [hw0]; simp [go_sem]
    have k1 : w0.cell? ⟨w.heap.size, 1, none⟩ = some (.int .i64 f.n) := by rw [hw0]; simp [go_sem]
    have k2 : w0.cell? ⟨w.heap.size, 2, none⟩ = some (.int .i64 f.frm) := by rw [hw0]; simp [go_sem]
    have k3 : w0.cell? ⟨w.heap.size, 3, none⟩ = some (.string f.text) := by rw [hw0]; simp [go_sem]
    have HT0 : Hid (TabAt w0 P tb s) := Lib.hid (by rw [hw0]; exact HT.out)
    have HB0 : Hid (Below w.heap.size w w0) := Lib.hid (by rw [hw0]; exact bx _)
    clear hw0 HT
    obtain ⟨mb, hc, hm⟩ := HT0.out.look_
    have g0 := fun d os => cell_regrown k0 d os
    have g1 := fun d os => cell_regrown k1 d os
    have g2 := fun d os => cell_regrown k2 d os
    have g3 := fun d os => cell_regrown k3 d os
    have gc := fun d os => cell_regrown hc d os
    have hmr : ∀ d os, (Instr.lookup 75 (.map (some mb)) (.int .i64 f.n) false).run Tryz.prog (grow (redrawn w0 d) os) = .ok (.int .i64 (lkz (lm s.d) f.n)) (grow (redrawn w0 d) os) :=
      fun d os => (hm.of_block ((below_regrown w0 d os).block _ hm.lt)).look_ HF.out.n1 HF.out.n2
    have htl := World.block_lt_of_cell? (h := hc)
    have HTL : Hid (∀ d os, Calls Tryz.prog 93 #[adr tb, .int .i64 f.frm, .int .i64 (lkz (lm s.d) f.n)] (grow (redrawn w0 d) os) fun e w' => e = .returned (.bool v) ∧ Below (grow (redrawn w0 d) os).heap.size (grow (redrawn w0 d) os) w') := Lib.hid (fun d os => by
      rw [← HQ.out]
      exact (tells_any P tb s Q _ N v _ (HT0.out.below (below_regrown _ _ _)) HA.out.1 HL.out HA.out.2.1 (by have := HA.out.2.2; omega) (by have := HA.out.2.2; omega) HR.out).mono fun e w' ⟨h1, h2⟩ => ⟨h1, h2 ▸ Below.refl _ _⟩)
    clear hm k0 k1 k2 k3 hc hQ
    refine wp_region_quiet_below (by kernel_rfl) (by kernel_rfl) ?_
    repeat (first | go_big_quiet_step (first | (go_at_call 88; exact Calls.regrown_of (nests_any P tb s f true _ (HT0.out.below (below_regrown _ _ _)) HL.out HF.out HU.out)) | (go_at_call 93; exact Calls.regrown_of (HTL.out _ _))) | quiet_step (first | (go_at_call 88; exact Calls.regrown_of (nests_any P tb s f true _ (HT0.out.below (below_regrown _ _ _)) HL.out HF.out HU.out)) | (go_at_call 93; exact Calls.regrown_of (HTL.out _ _))))
    refine wpQuiet_nil ?_
    intro _ hw'
    obtain ⟨⟨dq, osq⟩, hw''⟩ := hw'
    subst hw''
    go_wp2
    go_ret
    exact ⟨rfl, HB0.out.trans ((below_regrown w0 dq osq).mono HB0.out.size)⟩
  | false =>
    have HR : Hid (false = v) := Lib.hid (by rw [← hv, hu]; rfl)
    clear hT hf hl hN hv hu
    go_enter Tryz.func92, Tryz.ntmps92
    go_wp2_with fail
    obtain ⟨w0, hw0⟩ : ∃ w0, w0 = w.alloc (.cells #[.int .i64 f.kind, .int .i64 f.n, .int .i64 f.frm, .string f.text] 56) := ⟨_, rfl⟩
    rw [← hw0]
    have k0 : w0.cell? ⟨w.heap.size, 0, none⟩ = some (.int .i64 f.kind) := by rw [hw0]; simp [go_sem]
    have k1 : w0.cell? ⟨w.heap.size, 1, none⟩ = some (.int .i64 f.n) := by rw [hw0]; simp [go_sem]
    have k2 : w0.cell? ⟨w.heap.size, 2, none⟩ = some (.int .i64 f.frm) := by rw [hw0]; simp [go_sem]
    have k3 : w0.cell? ⟨w.heap.size, 3, none⟩ = some (.string f.text) := by rw [hw0]; simp [go_sem]
    have HT0 : Hid (TabAt w0 P tb s) := Lib.hid (by rw [hw0]; exact HT.out)
    have HB0 : Hid (Below w.heap.size w w0) := Lib.hid (by rw [hw0]; exact bx _)
    clear hw0 HT
    have g0 := fun d os => cell_regrown k0 d os
    have g1 := fun d os => cell_regrown k1 d os
    have g2 := fun d os => cell_regrown k2 d os
    have g3 := fun d os => cell_regrown k3 d os
    clear k0 k1 k2 k3
    refine wp_region_quiet_below (by kernel_rfl) (by kernel_rfl) ?_
    repeat (first | go_big_quiet_step (first | (go_at_call 88; exact Calls.regrown_of (nests_any P tb s f false _ (HT0.out.below (below_regrown _ _ _)) HL.out HF.out HU.out))) | quiet_step (first | (go_at_call 88; exact Calls.regrown_of (nests_any P tb s f false _ (HT0.out.below (below_regrown _ _ _)) HL.out HF.out HU.out))))
    refine wpQuiet_nil ?_
    intro _ hw'
    obtain ⟨⟨dq, osq⟩, hw''⟩ := hw'
    subst hw''
    go_wp2
    go_ret
    exact ⟨ret_bool HR.out, HB0.out.trans ((below_regrown w0 dq osq).mono HB0.out.size)⟩
end Go.Proofs.YtcnokccgdiodlaaGreatDoor
