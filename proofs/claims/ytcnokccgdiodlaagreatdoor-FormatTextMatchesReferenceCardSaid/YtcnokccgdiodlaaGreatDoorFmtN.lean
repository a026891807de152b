/- build, Valid and Least. Conditions: the list is readable; its numbers are ints; the variable of the error holds a pointer. -/
import Derived.Test.YtcnokccgdiodlaaGreatDoorFmtM
namespace Go.Proofs.YtcnokccgdiodlaaGreatDoor
open Go.RowKit Fx Go.Sort

set_option maxHeartbeats 1000000 in
theorem build1_nil (P : Nat → Prop) (tb bl bt c : Nat) (a : Option Addr) (er : Addr) (w : World) (hT : TabAt w P tb st0) (hE : ErrAt w er) (hcl : w.cell? ⟨bl, 0, none⟩ = some (.slice a 0 c)) (hct : w.cell? ⟨bt, 0, none⟩ = some (adr tb)) :
    Calls Tryz.prog 55 #[.pointer (some ⟨bl, 0, none⟩), .pointer (some ⟨bt, 0, none⟩)] w (BuildPost P tb (buildO []) er w) := by
  have HEND := Lib.hid (end_any P tb st0 er w hT hE good0)
  clear hT hE
  go_enter Tryz.func55, Tryz.ntmps55
  go_wp2_with fail
  refine wp_loop_rounds 1 ?_
  rw [rounds_succ]
  go_wp2_with fail
  refine HEND.out.mono ?_
  rintro e w1 ⟨rfl, hk1, hT1⟩
  have HP1 : Hid (BuildPost P tb (buildO []) er w (.returned (.tuple #[])) w1) := Lib.hid ⟨rfl, hk1, fun s1 h => hT1 s1 h⟩
  have e0 : (endO st0).isSome = true := rfl
  rw [e0]
  clear hk1 hT1 e0
  unfold ends
  go_wp2_with fail
  go_end0
  exact HP1.out

theorem TabEnd.far {w w' : World} {P : Nat → Prop} {tb : Nat} {s : St} (h : TabEnd w P tb s) (hs : w.heap.size ≤ w'.heap.size)
    (hf : ∀ (g : Nat) (cur : Array Value) (t : TypeId), t ≠ 4 → w.heap[g]? = some (Obj.cells cur t (0, 0)) → w'.heap[g]? = w.heap[g]?) (hm : ∀ (g : Nat) (es : Array MapEntry) (n : Nat), w.heap[g]? = some (Obj.map es n) → w'.heap[g]? = w.heap[g]?) : TabEnd w' P tb s := by
  obtain ⟨cs, mb, b1, b2, c, b3, vF, vs, hC⟩ := h
  have hmb : w'.heap[mb]? = w.heap[mb]? := by
    obtain ⟨n, D, _, ⟨es, clock, h1, _⟩, _⟩ := hC.map.is
    exact hm mb es clock h1
  exact ⟨cs, mb, b1, b2, c, b3, vF, vs, { hC with
    blk := (hf _ _ _ (by decide) hC.blk).trans hC.blk
    boxes := hC.boxes.far fun g cur t ht hg => hf g cur t (by rcases ht with rfl | rfl <;> decide) hg
    map := hC.map.of_block hmb
    rowF := own_keep hC.rowF fun g cur _ hh => hf _ _ _ (by decide) hh
    done := fun i hi => own_keep (hC.done i hi) fun g cur _ hh => hf _ _ _ (by decide) hh
    pin := fun k hk => Nat.lt_of_lt_of_le (hC.pin k hk) hs }⟩

/-- What build leaves. -/
def BuiltPost (l : List Fm) (w : World) (e : Ending) (w' : World) : Prop :=
  (∃ tb, e = .returned (.tuple #[adr tb, .bool (buildO l).isSome]) ∧ ∀ s, buildO l = some s → TabEnd w' (· < w.heap.size) tb s) ∧ Below w.heap.size w w'
set_option maxRecDepth 100000 in
set_option maxHeartbeats 2000000 in
theorem build_any (v : Value) (l : List Fm) (er : Addr) (w : World) (hE : ErrAt w er) (hV : FmsAt (· < w.heap.size) w v l) (hI : IntsL l) :
    Calls Tryz.prog 34 #[v] w (BuiltPost l w) := by
  have hmf : ∀ (fn : Fn) (first cap : Array Value) (w : World), (Instr.makeFunc fn first cap).run Tryz.prog w = .ok (.func fn first cap) w := fun _ _ _ _ => rfl
  have hen : Enters 55 := enters_of Tryz.func55 (by kernel_rfl) (by kernel_rfl)
  have HEN := Lib.hid hen
  have HE := Lib.hid hE
  have HV := Lib.hid hV
  have HI := Lib.hid hI
  obtain ⟨a, c, rfl⟩ : ∃ a c, v = .slice a l.length c := by
    rcases hV with ⟨a, c, rfl, rfl⟩ | ⟨b, off, cap, rfl, _⟩
    · exact ⟨a, c, rfl⟩
    · exact ⟨_, _, rfl⟩
  obtain ⟨n, hn⟩ : ∃ n, n = l.length := ⟨_, rfl⟩
  rw [← hn] at HV ⊢
  have HN := Lib.hid hn
  clear hE hV hI hen hn
  go_enter Tryz.func34, Tryz.ntmps34
  go_wp2_with fail
  obtain ⟨w0, hw0⟩ : ∃ w0, w0 = w.alloc (.cells #[.slice a n c] 22) := ⟨_, rfl⟩
  rw [← hw0]
  have hB0 : Below w.heap.size w w0 := by rw [hw0]; exact bx _
  have s0 : w0.heap.size = w.heap.size + 1 := by rw [hw0]; simp
  have h0 : w0.heap[w.heap.size]? = some (.cells #[.slice a n c] 22 (0, 0)) := by rw [hw0]; exact heap_alloc_new _ _
  have H0 := Lib.hid (And.intro hB0 (And.intro s0 h0))
  clear hw0 hB0 s0 h0
  refine (empty_any (· < w0.heap.size) w0 (fun _ h => h)).mono ?_
  rintro e w1 ⟨⟨tb, rfl, hT1⟩, hB1⟩
  have HT1 := Lib.hid (And.intro hT1 hB1)
  clear hT1 hB1
  go_wp2_with fail
  obtain ⟨w2, hw2⟩ : ∃ w2, w2 = w1.alloc (.cells #[adr tb] 65) := ⟨_, rfl⟩
  rw [← hw2]
  have hB2 : Below w1.heap.size w1 w2 := by rw [hw2]; exact bx _
  have s2 : w2.heap.size = w1.heap.size + 1 := by rw [hw2]; simp
  have h2 : w2.heap[w1.heap.size]? = some (.cells #[adr tb] 65 (0, 0)) := by rw [hw2]; exact heap_alloc_new _ _
  have HT2 := Lib.hid (HT1.out.1.widen hB2)
  have H2 := Lib.hid (And.intro hB2 (And.intro s2 h2))
  clear hw2 hB2 s2 h2
  refine (completes_any 55 #[adr w.heap.size, adr w1.heap.size] (buildO l).isSome er w2
    (fun w' => (Kept (· < w.heap.size) w w' ∧ w1.heap.size < w'.heap.size ∧ w'.heap[w1.heap.size]? = some (.cells #[adr tb] 65 (0, 0)) ∧ (∃ cur, w'.heap[w2.heap.size]? = some (.cells cur 4 (0, 0)))) ∧ ∀ s, buildO l = some s → TabEnd w' (· < w.heap.size) tb s) HEN.out ?_ ?_).mono ?_
  · obtain ⟨w3, hw3⟩ : ∃ w3, w3 = w2.alloc (.cells #[.bool false] 4) := ⟨_, rfl⟩
    rw [← hw3]
    have hB3 : Below w2.heap.size w2 w3 := by rw [hw3]; exact bx _
    have s3 : w3.heap.size = w2.heap.size + 1 := by rw [hw3]; simp
    have h3 : w3.heap[w2.heap.size]? = some (.cells #[.bool false] 4 (0, 0)) := by rw [hw3]; exact heap_alloc_new _ _
    obtain ⟨hB0, s0, h0⟩ := H0.out
    obtain ⟨hB2, s2, h2⟩ := H2.out
    have hB1 := HT1.out.2
    have s1 := hB1.size
    obtain ⟨P, hP⟩ : ∃ P, P = Wide (Wide (· < w0.heap.size) w1 w2) w2 w3 := ⟨_, rfl⟩
    have hPlow : ∀ k, k < w.heap.size → P k := fun k hk => by rw [hP]; exact .inl (.inl (by show k < _; omega))
    have hT3 : TabAt w3 P tb st0 := by rw [hP]; exact HT2.out.widen hB3
    have b13 : Below w1.heap.size w1 w3 := hB2.trans (hB3.mono hB2.size)
    have b03 : Below w0.heap.size w0 w3 := hB1.trans (b13.mono s1)
    have bw3 : Below w.heap.size w w3 := hB0.trans (b03.mono hB0.size)
    have hcl : w3.cell? ⟨w.heap.size, 0, none⟩ = some (.slice a n c) := cell_of_row _ _ _ _ _ (0, 0) ((b03.block _ (by omega)).trans h0)
    have hct : w3.cell? ⟨w1.heap.size, 0, none⟩ = some (adr tb) := cell_of_row _ _ _ _ _ (0, 0) ((hB3.block _ (by omega)).trans h2)
    have hEr : ErrAt w3 er := HE.out.below bw3
    have hPe : P 0 := hPlow _ HE.out.lt
    have hPt : P w1.heap.size := by rw [hP]; exact .inl (.inr ⟨Nat.le_refl _, by omega⟩)
    have hPo : P w2.heap.size := by rw [hP]; exact .inr ⟨Nat.le_refl _, by omega⟩
    have hV3 : FmsAt P w3 (.slice a n c) l := (HV.out.kept (Kept.of_below bw3 fun _ h => h)).mono hPlow
    have key : Calls Tryz.prog 55 #[adr w.heap.size, adr w1.heap.size] w3 (BuildPost P tb (buildO l) er w3) := by
      rcases hV3 with ⟨a', c', hv, rfl⟩ | ⟨b, off, cap, hv, k1, k2, k3, k4, _, k6⟩
      · cases hv
        exact build1_nil P tb w.heap.size w1.heap.size c a er w3 hT3 hEr hcl hct
      · cases hv
        exact build1_any P tb w.heap.size w1.heap.size b off c l (buildO l) er w3 k1 k2 k3 k4 k6 hT3 hEr hPe hPt (by rw [HN.out] at hcl; exact hcl) hct HI.out rfl
    refine key.mono ?_
    rintro e w4 ⟨rfl, hk, hT4⟩
    refine ⟨rfl, (hk.block _ hPo).trans h3, ⟨?_, ?_, (hk.block _ hPt).trans ((hB3.block _ (by omega)).trans h2), _, (hk.block _ hPo).trans h3⟩, fun s hs => (hT4 s hs).narrow hPlow⟩
    · exact (Kept.of_below bw3 fun _ h => h).trans (hk.mono hPlow)
    · have := hk.size; omega
  · rintro w3 v ⟨⟨hk, hs, hcell, cur, hok⟩, hT⟩
    obtain ⟨hB2, s2, h2⟩ := H2.out
    have hB1 := HT1.out.2
    have s1 := hB1.size
    have s0 := H0.out.2.1
    have ne : ∀ g, g ≠ w2.heap.size → (w3.setCell ⟨w2.heap.size, 0, none⟩ v).heap[g]? = w3.heap[g]? := fun g hg => Below.heap_setCell _ _ _ _ hg
    refine ⟨⟨Kept.setCell hk (by show ¬ w2.heap.size < w.heap.size; omega) _, by simp [World.setCell]; omega, (ne _ (by omega)).trans hcell, _, Blk.set_ (w := w3) hok 0 v⟩, fun s hs => (hT s hs).far (by simp [World.setCell]) (fun g cur' t n1 hg => ne g (fun e => ?_)) (fun g es m hg => ne g (fun e => ?_))⟩
    · rw [e, hok] at hg; cases hg; exact n1 rfl
    · rw [e, hok] at hg; cases hg
  · rintro e w3 ⟨rfl, ⟨hk, hs, hcell, _⟩, hT⟩
    have hc1 : w3.cell? ⟨w1.heap.size, 0, none⟩ = some (adr tb) := cell_of_row _ _ _ _ _ (0, 0) hcell
    have HK := Lib.hid (And.intro (hk.below (B := w.heap.size) fun _ h => h) hT)
    clear hk hcell hT
    go_wp2_with fail
    go_ret2
    exact ⟨⟨tb, rfl, HK.out.2⟩, HK.out.1⟩

/-! Valid and Least -/
theorem Valid_any (v : Value) (l : List Fm) (b : Bool) (er : Addr) (w : World) (hE : ErrAt w er) (hV : FmsAt (· < w.heap.size) w v l) (hI : IntsL l) (hb : vd l = b) :
    Calls Tryz.prog 21 #[v] w fun e w' => e = .returned (.bool b) ∧ Below w.heap.size w w' := by
  have HB := Lib.hid (build_any v l er w hE hV hI)
  unfold vd at hb
  have HV := Lib.hid hb
  clear hE hV hI hb
  go_enter Tryz.func21, Tryz.ntmps21
  go_wp2_with fail
  refine HB.out.mono ?_
  rintro e w1 ⟨⟨tb, rfl, _⟩, hB⟩
  rw [HV.out]
  have HB1 := Lib.hid hB
  clear hB
  go_wp2_with fail
  go_ret
  exact ⟨rfl, HB1.out⟩
theorem lkz_least {l : List Fm} {s : St} {id : Int} (h : buildO l = some s) : least l id = lkz (lm s.d) id := by
  unfold least
  have : vd l = true := by unfold vd; rw [h]; rfl
  rw [if_pos this, (build_some h).1]
theorem least_none {l : List Fm} {id : Int} (h : buildO l = none) : least l id = 0 := by
  unfold least
  have : vd l = false := by unfold vd; rw [h]; rfl
  rw [this]; rfl
set_option maxHeartbeats 1000000 in
theorem Least_any (v : Value) (l : List Fm) (id n : Int) (er : Addr) (w : World) (hE : ErrAt w er) (hV : FmsAt (· < w.heap.size) w v l) (hI : IntsL l) (h1 : -9223372036854775808 ≤ id) (h2 : id ≤ 9223372036854775807) (hn : least l id = n) :
    Calls Tryz.prog 19 #[v, .int .i64 id] w fun e w' => e = .returned (.int .i64 n) ∧ Below w.heap.size w w' := by
  have HB := Lib.hid (build_any v l er w hE hV hI)
  have HI := Lib.hid (And.intro h1 h2)
  obtain ⟨R, hR⟩ : ∃ R, R = buildO l := ⟨_, rfl⟩
  cases R with
  | none =>
    have hn0 : n = 0 := by rw [← hn]; exact least_none hR.symm
    subst hn0
    have HR := Lib.hid hR
    clear hE hV hI h1 h2 hn hR
    go_enter Tryz.func19, Tryz.ntmps19
    go_wp2_with fail
    refine HB.out.mono ?_
    rintro e w1 ⟨⟨tb, rfl, _⟩, hB⟩
    rw [← HR.out]
    simp only [Option.isSome_none]
    have HB1 := Lib.hid hB
    clear hB
    go_wp2_with fail
    go_ret
    exact ⟨rfl, HB1.out⟩
  | some s =>
    have hn0 := hn
    rw [lkz_least hR.symm] at hn0
    have HN := Lib.hid hn0
    have HR := Lib.hid hR
    clear hE hV hI h1 h2 hn hR hn0
    go_enter Tryz.func19, Tryz.ntmps19
    go_wp2_with fail
    refine HB.out.mono ?_
    rintro e w1 ⟨⟨tb, rfl, hT⟩, hB⟩
    obtain ⟨cs, mb, b1, b2, c, b3, vF, vs, hC⟩ := hT s HR.out.symm
    have q36 : w1.cell? ⟨tb, 36, none⟩ = some (.map (some mb)) := (hC.blk.cell 36).trans hC.cM
    have hlt := hC.blk.lt
    have hm := hC.map
    have hr := hm.look_ HI.out.1 HI.out.2
    have hrd := hm.look_drews HI.out.1 HI.out.2
    rw [HN.out] at hr
    simp only [HN.out] at hrd
    rw [← HR.out]
    simp only [Option.isSome_some]
    have HB1 := Lib.hid hB
    clear hB hT hC hm
    go_wp2_with fail
    go_ret
    exact ⟨rfl, HB1.out⟩
end Go.Proofs.YtcnokccgdiodlaaGreatDoor
