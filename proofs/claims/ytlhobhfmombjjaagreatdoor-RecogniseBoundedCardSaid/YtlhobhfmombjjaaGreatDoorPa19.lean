/- newReader of what is not valid; the whole stream as one of a format. Conditions: as for newReader. The whole stream is written. Conditions: the writer lies in memory, the values are short. Match. Conditions: the table lies in memory, its numbers are ints; the variables of the errors are laid. -/
import Derived.Test.YtlhobhfmombjjaaGreatDoorPa18
import Derived.Laws.IdiomStrings
namespace Go.Proofs.YtlhobhfmombjjaaGreatDoor
section RecS
open Go.RowKit Fx Rec Go.Maps

theorem newReader_long (v : Value) (s : ByteArray) (w : World) (hs : ¬ s.size ≤ 65536) :
    Calls Tryz.prog 39 #[v, .string s] w fun e w' => e = Stops zRf ∧ Below w.heap.size w w' := by
  have hd : decide ((s.size : Int) ≤ 65536) = false := by rw [decide_eq_false_iff_not]; omega
  have c0 : (w.alloc (.cells #[.string s] 9)).cell? ⟨w.heap.size, 0, none⟩ = some (.string s) := cell_of_row _ _ 0 _ _ _ (heap_alloc_new w _)
  go_enter Tryz.func39, Tryz.ntmps39
  go_wp2_with fail
  refine (require_no _).mono ?_
  rintro e w5 ⟨rfl, rfl⟩
  exact ⟨rfl, rfl, bx _⟩
set_option maxRecDepth 20000 in
set_option maxHeartbeats 4000000 in
theorem newReader_no (v : Value) (L : List Fm) (s : ByteArray) (er : Addr) (w : World) (hE : ErrAt w er) (hV : FmsAt (· < w.heap.size) w v L) (hI : IntsL L) (hb : vd L = false) (hs : s.size ≤ 65536) :
    Calls Tryz.prog 39 #[v, .string s] w fun e w' => e = Stops zRf ∧ Below w.heap.size w w' := by
  have hd : decide ((s.size : Int) ≤ 65536) = true := by rw [decide_eq_true_eq]; omega
  have hB0 := bx (w := w) (.cells #[.string s] 9)
  have c0 : (w.alloc (.cells #[.string s] 9)).cell? ⟨w.heap.size, 0, none⟩ = some (.string s) := cell_of_row _ _ 0 _ _ _ (heap_alloc_new w _)
  have HFO := Lib.hid (fieldsOf_no v L er (w.alloc (.cells #[.string s] 9)).drew (hE.below hB0.drew) ((hV.kept (Kept.of_below hB0.drew fun _ h => h)).mono fun k hk => Nat.lt_of_lt_of_le hk hB0.size) hI hb)
  have HT := Lib.hid hB0
  clear hE hV hI hb hs hB0
  go_enter Tryz.func39, Tryz.ntmps39
  go_wp2_with fail
  refine (require_yes _).mono ?_
  rintro e w5 ⟨rfl, rfl⟩
  generalize hW1 : w.alloc (.cells #[.string s] 9) = W1 at *
  have ltb := World.block_lt_of_cell? (h := c0)
  have HF : Hid (∀ W, Below W1.heap.size W1 W → W.cell? ⟨w.heap.size, 0, none⟩ = some (.string s)) := Lib.hid fun W hb => (hb.cell (p := ⟨w.heap.size, 0, none⟩) ltb).trans c0
  clear c0
  go_wp2_with fail
  refine wp_region_T 4 (fun w' : World => Below W1.heap.size W1 w') (by kernel_rfl) (Below.refl _ _).drew (fun hHeld => ?_)
  refine wpAnyT_any (i := 0) (oi := ?o1) (v := ?v1) ?h1 ?a1 ?b1 ?c1 ?d1 ?e1 ?j1 ?q1 (Or.inl ⟨?g1, ?y1⟩) ?s1 ?r1
  case h1 => (simp only [List.getElem?_toArray, List.getElem?_cons_zero]; rfl)
  case a1 => kernel_rfl
  case b1 => kernel_rfl
  case c1 => kernel_rfl
  case d1 => kernel_rfl
  case e1 => kernel_rfl
  case j1 => kernel_rfl
  case q1 => exact fun _ _ _ h => h
  case g1 => rfl
  case y1 => (intro wS _; go_simp; (try with_reducible rfl))
  case s1 => exact fun _ => by assumption
  (try simp only [Act.put, List.setIfInBounds_toArray, List.set_cons_zero, List.set_cons_succ])
  refine wpAnyT_take (i := 2) (oi := ?o2) (v := ?v2) ?h2 ?a2 ?b2 ?c2 ?d2 ?e2 ?f2 ?j2 ?q2 (Or.inl ⟨?g2, ?y2⟩) ?s2 ?r2
  case h2 => (simp only [List.getElem?_toArray, List.getElem?_cons_zero, List.getElem?_cons_succ]; rfl)
  case a2 => kernel_rfl
  case b2 => kernel_rfl
  case c2 => kernel_rfl
  case d2 => kernel_rfl
  case e2 => kernel_rfl
  case f2 => kernel_rfl
  case j2 => kernel_rfl
  case q2 => exact fun _ _ _ h => h
  case g2 => rfl
  case y2 => (intro wS hSw; have s0 := HF.out _ hSw; go_simp; (try with_reducible rfl))
  case s2 => assumption
  (try simp only [Act.put, List.setIfInBounds_toArray, List.set_cons_zero, List.set_cons_succ])
  refine wpAnyT_ready (rs := [1]) (by kernel_rfl) (by simp) ?_
  refine AllReadyT.cons (o := ?oB3) ?hB3 ?kB3 AllReadyT.nil
  case hB3 => (simp only [List.getElem?_toArray, List.getElem?_cons_zero, List.getElem?_cons_succ]; rfl)
  case kB3 =>
    intro K hK
    go_simp
    refine HFO.out.mono ?_
    rintro e w6 ⟨rfl, hB6⟩
    exact ⟨rfl, rfl, HT.out.trans ((Below.refl _ _).drew.trans hB6 |>.mono HT.out.size)⟩

theorem Rd.reset {w : World} {P : Nat → Prop} {o : Ro} {rb : Nat} {L : List Fm} {s : ByteArray} {ps : List Pt} (h : Rd w P o rb L s ps) :
    (w.frozen? ⟨rb, 4, none⟩ = false ∧ (w.cell? ⟨rb, 4, none⟩).isSome = true) ∧ Kept P w (w.setCell ⟨rb, 4, none⟩ (.slice none 0 0)) ∧ Rd (w.setCell ⟨rb, 4, none⟩ (.slice none 0 0)) P o rb L s [] := by
  obtain ⟨hf, vp, k, vs, hm⟩ := h
  have hk : Kept P w (w.setCell ⟨rb, 4, none⟩ (.slice none 0 0)) := (Kept.refl _ _).setCell hf.nr _
  have oth : ∀ q, q ≠ rb → (w.setCell ⟨rb, 4, none⟩ (.slice none 0 0)).heap[q]? = w.heap[q]? := fun q hq => Below.heap_setCell _ _ _ _ hq
  refine ⟨⟨hm.blk.frozen 4, by rw [hm.blk.cell]; rfl⟩, hk, hf.kept hk, .slice none 0 0, k, vs, ⟨hm.blk.set_ 4 _, hm.sums.keep (oth _ ?_) (oth _ ?_) (fun q hq => oth q ?_), hm.kle, ⟨rfl, .inl ⟨rfl, rfl⟩⟩, by simp, hm.nS, fun g hg => by simp [Value.ownBlock] at hg⟩⟩
  · exact fun e => Blk.ne_ hm.sums.sb hm.blk (by decide) e
  · exact fun e => Blk.ne_ hm.sums.ab hm.blk (by decide) e
  · exact fun e => own_ne hm.sums.row hm.blk (by decide) hq e
theorem zero_flds (w : World) : (zeroValue 50).run Tryz.prog w = .ok (.slice none 0 0) w := by kernel_rfl
theorem fieldsE_none {L : List Fm} {us : List Value} {id : Int} (h : Rec.has L id = false) : lkV (fieldsE L us) id = none := by
  unfold lkV
  rw [Option.map_eq_none_iff, List.find?_eq_none]
  intro p hp
  unfold fieldsE at hp
  rw [List.mem_map] at hp
  obtain ⟨q, hq, rfl⟩ := hp
  have h1 := (List.of_mem_zip hq).1
  unfold Rec.has at h
  rw [List.any_eq_false] at h
  exact h _ h1

/-- What comes of a whole stream. -/
def WhPost (w : World) (P : Nat → Prop) (o : Ro) (rb : Nat) (L : List Fm) (s : ByteArray) (r : Except Rf (List Pt)) (e : Ending) (w' : World) : Prop :=
  Kept P w w' ∧ match r with
  | .ok ps => ∃ vp, e = .returned vp ∧ Rd w' P o rb L s ps ∧ PartsAt w' P rb ps vp
  | .error f => e = Stops f ∧ ∃ ps', Rd w' P o rb L s ps'
set_option maxRecDepth 20000 in
set_option maxHeartbeats 4000000 in
theorem whole_any (o : Ro) (rb : Nat) (L : List Fm) (s : ByteArray) (P : Nat → Prop) (ps : List Pt) (id : Int) (w : World) (h : Rd w P o rb L s ps) :
    Calls Tryz.prog 40 #[ptr rb, .int .i64 id] w fun e w' => WhPost w P o rb L s (whole L s id) e w' := by
  have c0 := h.fields_
  have cs := h.stream
  obtain ⟨⟨y4, c4⟩, hk, hr⟩ := h.reset
  obtain ⟨u4, hu4⟩ := Option.isSome_iff_exists.1 c4
  have hmax := h.1.max
  have hfew := h.1.ok.few
  obtain ⟨RR, hRR⟩ : ∃ RR, RR = whole L s id := ⟨_, rfl⟩
  rw [← hRR]
  cases hh : Rec.has L id with
  | false =>
    have hlk := fieldsE_none (us := o.us) hh
    have hlook := h.1.fields.look_no Tryz.underlying108 Tryz.underlying3 hlk (zero_flds w) true
    simp only [if_true] at hlook
    have HR := Lib.hid (show RR = .error zRf by rw [hRR, whole, hh]; rfl)
    have HH := Lib.hid h
    clear h hlk hRR hh hk hr
    go_enter Tryz.func40, Tryz.ntmps40
    go_wp2_with fail
    refine (require_no _).mono ?_
    rintro e w5 ⟨rfl, rfl⟩
    refine ⟨rfl, Kept.refl _ _, ?_⟩
    rw [HR.out]
    exact ⟨rfl, ps, HH.out⟩
  | true =>
    obtain ⟨i, hat⟩ := has_iff.1 hh
    have hlk := fieldsE_at h.1.ok h.1.ul hat
    obtain ⟨u, hu⟩ : ∃ u, u = o.us.getD i undef := ⟨_, rfl⟩
    rw [← hu] at hlk
    have hfs := h.1.flds i hat.1
    rw [← hu] at hfs
    obtain ⟨ua, uc, rfl, -⟩ := hfs.slice_
    obtain ⟨fl, hfl⟩ : ∃ fl, fl = (L.getD i zm).fs.length := ⟨_, rfl⟩
    rw [← hfl] at hlk
    have hlook := h.1.fields.look_ Tryz.underlying108 Tryz.underlying3 hlk true
    simp only [if_true] at hlook
    have hfo : (fieldsOf L id).length = fl := by rw [hfl, fieldsOf_at h.1.ok hat]
    have HR := Lib.hid (show RR = match val L s 61 id 0 0 s.size 0 with
      | .error r => .error r
      | .ok (e, ps) => if e < s.size then .error ⟨e, id, fl, 4⟩ else .ok ps by rw [hRR, whole, hh, ← hfo]; rfl)
    have HH := Lib.hid (And.intro h (And.intro hk hr))
    have HAT := Lib.hid hat
    clear h hlk hRR hh hk hr hu hfs hfl hfo hat
    go_enter Tryz.func40, Tryz.ntmps40
    go_wp2_with fail
    refine (require_yes _).mono ?_
    rintro e w5 ⟨rfl, rfl⟩
    go_wp2_with fail
    have hV := valC o rb L s 61 _ P [] id 0 i 0 s.size HH.out.2.2 HAT.out (by have := HAT.out.1; omega) (by decide) (by decide) (Nat.zero_le _) (Nat.le_refl _)
    cases hv : val L s 61 id 0 0 s.size 0 with
    | error rf =>
      rw [show ([] : List Pt).length = 0 from rfl, hv] at hV
      refine hV.mono ?_
      rintro e w6 ⟨hk6, rfl, ps', hr6⟩
      refine ⟨rfl, HH.out.2.1.trans hk6, ?_⟩
      rw [HR.out, hv]
      exact ⟨rfl, ps', hr6⟩
    | ok x =>
      obtain ⟨E, qs⟩ := x
      rw [show ([] : List Pt).length = 0 from rfl, hv] at hV
      refine hV.mono ?_
      rintro e w6 ⟨hk6, rfl, hr6⟩
      have cs6 := hr6.stream
      rw [List.nil_append] at hr6
      obtain ⟨vp, hp⟩ := hr6.parts
      have c6 := hp.cell
      have HE := Lib.hid (And.intro (HH.out.2.1.trans hk6) (And.intro hr6 hp))
      clear hV hk6 hr6 hp
      by_cases hlt : E < s.size
      · have hlt' : (E : Int) < (s.size : Int) := by omega
        go_wp2_with fail
        refine (refuse_any _ _ _ _ _).mono ?_
        rintro e w7 ⟨rfl, n7, rfl⟩
        refine ⟨rfl, HE.out.1.trans (Kept.of_below (drewN_below _ n7) HE.out.2.1.1.pin), ?_⟩
        rw [HR.out, hv]
        show (match (if E < s.size then Except.error _ else Except.ok _ : Except Rf (List Pt)) with | .ok _ => _ | .error _ => _)
        rw [if_pos hlt]
        exact ⟨rfl, qs, HE.out.2.1.keptN n7⟩
      · have hlt' : ¬ (E : Int) < (s.size : Int) := by omega
        go_wp2_with fail
        go_ret
        refine ⟨HE.out.1, ?_⟩
        rw [HR.out, hv]
        show (match (if E < s.size then Except.error _ else Except.ok _ : Except Rf (List Pt)) with | .ok _ => _ | .error _ => _)
        rw [if_neg hlt]
        exact ⟨vp, rfl, HE.out.2.1, HE.out.2.2⟩
end RecS
section WrT
open Go.RowKit Fx Rec

set_option maxRecDepth 20000 in
set_option maxHeartbeats 4000000 in
theorem newWriter_no (v vv : Value) (L : List Fm) (er : Addr) (w : World) (hE : ErrAt w er) (hV : FmsAt (· < w.heap.size) w v L) (hI : IntsL L) (hb : vd L = false) :
    Calls Tryz.prog 48 #[v, vv] w fun e w' => e = Stops zRf ∧ Below w.heap.size w w' := by
  have HFO := Lib.hid (fieldsOf_no v L er w hE hV hI hb)
  clear hE hV hI hb
  go_enter Tryz.func48, Tryz.ntmps48
  go_wp2_with fail
  refine HFO.out.mono ?_
  rintro e w6 ⟨rfl, hB⟩
  exact ⟨rfl, rfl, hB⟩
theorem conv_st {w : World} {B : Nat} {v : Value} {l : List UInt8} {n : Nat} (h : w.ownsRow B 5 1 v n (bytesV l)) (hn : n = l.length) : (convert 64 9 v).run Tryz.prog w = .ok (.string (bytesOf l)) w := by
  subst hn
  rcases h.2 with ⟨rfl, h0⟩ | ⟨g, cap, cur, rfl, hg, hh, hl, hm, hs, ht⟩
  · obtain rfl : l = [] := List.eq_nil_of_length_eq_zero h0
    exact run_convert_bytes_nil (P := Tryz.prog) (w := w) 64 5 Tryz.underlying64 Tryz.underlying5 0 0 9 Tryz.underlying9
  · refine run_convert_bytes_back w 64 9 5 ⟨g, 0, none⟩ cap l Tryz.underlying64 Tryz.underlying5 Tryz.underlying9 fun j hj => ?_
    have hadd : (⟨g, 0, none⟩ : Addr).add j = ⟨g, j, none⟩ := by unfold Addr.add; split <;> simp_all
    rw [hadd, (own_cell h rfl (i := j) (by omega)).1]
    simp [bytesV, List.getElem?_eq_getElem hj]
section
variable {w w' : World} {o : Wo} {top : Nat} {L : List Fm} {σ : Ws} {k : Nat}
theorem WrAt.vals_ (h : WrAt w o top L σ k) : ∃ a c, w.cell? ⟨o.wb, 2, none⟩ = some (.slice a σ.vals.length c) := by
  obtain ⟨hf, vv, vst, vch, vs, chs, hm⟩ := h
  obtain ⟨a, c, rfl, _⟩ := hm.vals
  exact ⟨a, c, by rw [hm.blk.cell]; rfl⟩
theorem WrAt.checks_ (h : WrAt w o top L σ k) : ∃ a c, w.cell? ⟨o.wb, 6, none⟩ = some (.slice a σ.checks.length c) := by
  obtain ⟨hf, vv, vst, vch, vs, chs, hm⟩ := h
  rcases hm.ch.2 with ⟨rfl, h0⟩ | ⟨g, cap, cur, rfl, _⟩
  · exact ⟨none, 0, by rw [hm.blk.cell, h0]; rfl⟩
  · exact ⟨_, _, by rw [hm.blk.cell]; rfl⟩
/-- The function of a checksum, where the writer has it. -/
theorem WrAt.check_ (h : WrAt w o top L σ k) {a : Option Addr} {n c j : Nat} (h6 : w.cell? ⟨o.wb, 6, none⟩ = some (.slice a n c)) (hj : j < σ.checks.length) : n = σ.checks.length ∧ n ≤ c ∧ c ≤ maxLen ∧ ∃ g v, a = some ⟨g, 0, none⟩ ∧ w.cell? ⟨g, j, none⟩ = some v ∧ ChkAt w o v (σ.checks.getD j (0, 0, 0)) := by
  obtain ⟨hf, vv, vst, vch, vs, chs, hm⟩ := h
  rw [hm.blk.cell] at h6
  have e : vch = .slice a n c := by simpa using h6
  subst e
  have hcl : chs.length = σ.checks.length := by simpa using hm.ch.1
  rcases hm.ch.2 with ⟨_, h0⟩ | ⟨g, cap, cur, e, _, hh, h1, h2, _⟩
  · omega
  · cases e
    refine ⟨rfl, h1, h2, g, chs.getD j undef, rfl, ?_, hm.chks j hj⟩
    rw [(own_cell hm.ch rfl (i := j) (by omega)).1, List.getElem?_eq_getElem (by omega), List.getD_eq_getElem?_getD, List.getElem?_eq_getElem (by omega)]
    rfl
theorem WrAt.conv_ (h : WrAt w o top L σ k) : ∃ a c, w.cell? ⟨o.wb, 4, none⟩ = some (.slice a σ.st.length c) ∧ (convert 64 9 (.slice a σ.st.length c)).run Tryz.prog w = .ok (.string (bytesOf σ.st)) w := by
  obtain ⟨hf, vv, vst, vch, vs, chs, hm⟩ := h
  obtain ⟨a, c, rfl, _⟩ := hm.slice_
  exact ⟨a, c, by rw [hm.blk.cell]; rfl, conv_st hm.st rfl⟩
theorem lay1_len {st : List UInt8} {c : Nat × Nat × Nat} (h : c.2.1 + c.2.2 ≤ st.length) : (lay1 st c).length = st.length := patch_len _ _ _ (by rw [nbytes_len]; exact h)
theorem layAll_take {st : List UInt8} {cs : List (Nat × Nat × Nat)} {j : Nat} (h : j < cs.length) : layAll st (cs.take (j + 1)) = lay1 (layAll st (cs.take j)) (cs.getD j (0, 0, 0)) := by
  unfold layAll
  rw [List.take_succ_eq_append_getElem h, List.foldl_append]
  simp [List.getD, List.getElem?_eq_getElem h]
end
/-- What comes of the whole stream. -/
def WwPost (o : Wo) (w : World) (r : Option ByteArray) (e : Ending) (w' : World) : Prop :=
  StepW o NoX w w' ∧ match r with
  | some b => e = .returned (.string b)
  | none => e = Stops zRf
theorem WwPost.no {o : Wo} {w w' : World} {r : Option ByteArray} (hr : r = none) (hs : StepW o NoX w w') : WwPost o w r (Stops zRf) w' := by
  subst hr
  exact ⟨hs, rfl⟩
theorem WwPost.yes {o : Wo} {w w' : World} {r : Option ByteArray} {b : ByteArray} (hr : r = some b) (hs : StepW o NoX w w') : WwPost o w r (.returned (.string b)) w' := by
  subst hr
  exact ⟨hs, rfl⟩
set_option maxRecDepth 20000 in
set_option maxHeartbeats 4000000 in
theorem wwhole_any {w : World} {o : Wo} {top : Nat} {L : List Fm} {vs : List ByteArray} (h : WrAt w o top L ⟨[], vs, 0, []⟩ 0) (hsh : Short vs) (id : Int) :
    Calls Tryz.prog 49 #[ptr o.wb, .int .i64 id] w fun e w' => WwPost o w (wwhole L id vs) e w' := by
  obtain ⟨c0, -⟩ := h.maps_
  have hfew := h.1.ok.few
  obtain ⟨RR, hRR⟩ : ∃ RR, RR = wwhole L id vs := ⟨_, rfl⟩
  rw [← hRR]
  have hrefl : StepW o NoX w w := (h.below (Below.refl _ _)).1
  cases hh : Rec.has L id with
  | false =>
    have hlk := fieldsE_none (us := o.us) hh
    have hlook := h.1.fields.look_no Tryz.underlying108 Tryz.underlying3 hlk (zero_flds w) true
    simp only [if_true] at hlook
    have HR := Lib.hid (WwPost.no (show RR = none by rw [hRR, wwhole, hh]; rfl) hrefl)
    clear h hlk hRR hh hrefl
    go_enter Tryz.func49, Tryz.ntmps49
    go_wp2_with fail
    refine (require_no _).mono ?_
    rintro e w5 ⟨rfl, rfl⟩
    exact ⟨rfl, HR.out⟩
  | true =>
    obtain ⟨i, hat⟩ := has_iff.1 hh
    have hlk := fieldsE_at h.1.ok h.1.ul hat
    obtain ⟨u, hu⟩ : ∃ u, u = o.us.getD i undef := ⟨_, rfl⟩
    rw [← hu] at hlk
    have hfs := h.1.flds i hat.1
    rw [← hu] at hfs
    obtain ⟨ua, uc, rfl, -⟩ := hfs.slice_
    obtain ⟨fl, hfl⟩ : ∃ fl, fl = (L.getD i zm).fs.length := ⟨_, rfl⟩
    rw [← hfl] at hlk
    have hlook := h.1.fields.look_ Tryz.underlying108 Tryz.underlying3 hlk true
    simp only [if_true] at hlook
    have HR := Lib.hid (show RR = (wval L 61 id ⟨[], vs, 0, []⟩).bind fun σ => if σ.vals = [] then some (bytesOf (layAll σ.st σ.checks)) else none by rw [hRR, wwhole, hh]; rfl)
    have ht : Tame ⟨[], vs, 0, []⟩ := ⟨hsh, Nat.le_refl _, fun c hc => by simp at hc, List.Pairwise.nil⟩
    have hV := wvalC o top L h.1.ok 61 id i hat (by have := hat.1; omega)
    have HV := Lib.hid (And.intro hV (And.intro h ht))
    clear h hlk hRR hh hu hfs hfl hat hV ht hrefl
    go_enter Tryz.func49, Tryz.ntmps49
    go_wp2_with fail
    refine (require_yes _).mono ?_
    rintro e w5 ⟨rfl, rfl⟩
    go_wp2_with fail
    refine (HV.out.1.run _ _ HV.out.2.1 HV.out.2.2).mono ?_
    rcases hv : wval L 61 id ⟨[], vs, 0, []⟩ with _ | σ1
    · rintro e w6 ⟨hs6, rfl⟩
      exact ⟨rfl, WwPost.no (by rw [HR.out, hv]; rfl) hs6⟩
    · rintro e w6 ⟨hs6, rfl, hw6⟩
      obtain ⟨-, ht1⟩ := HV.out.1.grows _ _ hv HV.out.2.2
      obtain ⟨va, vc, c2⟩ := hw6.vals_
      obtain ⟨ca, cc, c6⟩ := hw6.checks_
      obtain ⟨m, hm⟩ : ∃ m, m = σ1.checks.length := ⟨_, rfl⟩
      obtain ⟨q, hq⟩ : ∃ q, q = σ1.vals.length := ⟨_, rfl⟩
      have hpl := hw6.parts_.2.2
      have hmm : m ≤ 5000 := by have := ht1.cnt; omega
      rw [← hm] at c6
      rw [← hq] at c2
      have H6 := Lib.hid (And.intro hs6 (And.intro hw6 (And.intro ht1 (And.intro hv (And.intro hm (And.intro hq c6))))))
      clear hs6 hw6 ht1 hv hm hq hpl hlook c0
      by_cases hq0 : q = 0
      · have hd : ((q : Int) == 0) = true := by simp [hq0]
        have HR2 : Hid (RR = some (bytesOf (layAll σ1.st σ1.checks))) := Lib.hid (by rw [HR.out, H6.out.2.2.2.1]; exact if_pos (List.eq_nil_of_length_eq_zero (by rw [← H6.out.2.2.2.2.2.1]; exact hq0)))
        clear hq0
        go_wp2_with fail
        refine (require_yes _).mono ?_
        rintro e w7 ⟨rfl, rfl⟩
        go_wp2_with fail
        clear hd
        go_loopw [35] (fun i wr => ∃ (j k : Nat) (st : List UInt8), j ≤ m ∧ i = .int .i64 j ∧ wr.cell? ⟨o.wb, 6, none⟩ = some (.slice ca m cc) ∧ Hid (StepW o NoX w5 wr ∧ WrAt wr o top L { σ1 with st := st } k ∧ st = layAll σ1.st (σ1.checks.take j) ∧ st.length = σ1.st.length ∧ (j < m → k ≤ (σ1.checks.getD j (0, 0, 0)).2.1))) (fun i _ => m - (intOf i).toNat)
        case atStart => exact ⟨0, 0, σ1.st, Nat.zero_le _, rfl, c6, Lib.hid ⟨H6.out.1, H6.out.2.1, rfl, rfl, fun _ => Nat.zero_le _⟩⟩
        case round =>
          obtain ⟨j, k, st, hjm, rfl, c6r, HJ⟩ := hrel
          obtain ⟨wq, rfl⟩ : ∃ wq, wq = wr := ⟨_, rfl⟩
          by_cases hlt : j < m
          · have hjc : j < σ1.checks.length := by rw [← H6.out.2.2.2.2.1]; exact hlt
            obtain ⟨-, hcm, hcx, g, v, rfl, cg, hck⟩ := HJ.out.2.1.check_ c6r (j := j) hjc
            have hck' : ChkAt wq o v (σ1.checks.getD j (0, 0, 0)) := hck
            obtain ⟨c, hc⟩ : ∃ c, c = σ1.checks.getD j (0, 0, 0) := ⟨_, rfl⟩
            have hmem : c ∈ σ1.checks := by rw [hc, List.getD_eq_getElem?_getD, List.getElem?_eq_getElem hjc]; exact List.getElem_mem hjc
            have hce := H6.out.2.2.1.each c hmem
            rw [← hc] at hck'
            obtain ⟨x, y, z⟩ := c
            have HCK := Lib.hid (And.intro hck' (And.intro hc hce))
            obtain ⟨g0, g1, g2, g3, g4, db, u9, f9, rfl, -⟩ := hck'
            have hki : (0 : Int) ≤ (j : Int) ∧ (j : Int) < (m : Int) := by omega
            unfold maxLen at hcx
            clear hck hc hmem hce hjc
            go_wp2_with fail
            have hcl := HCK.out.2.2
            have hle := HJ.out.2.2.2.1
            have hk := HJ.out.2.2.2.2 hlt
            rw [← HCK.out.2.1] at hk
            refine (chk_any HJ.out.2.1 HCK.out.1 hcl.1 hcl.2.1 hcl.2.2.1 (by show y + z ≤ st.length; rw [hle]; exact hcl.2.2.2) hk).mono ?_
            rintro e w8 ⟨rfl, hs8, ⟨k8, hk8, hw8⟩, h68⟩
            have HE : Hid (w8.cell? ⟨o.wb, 6, none⟩ = some (.slice (some ⟨g, 0, none⟩) m cc) ∧ StepW o NoX w5 w8 ∧ WrAt w8 o top L { σ1 with st := lay1 st (x, y, z) } k8 ∧ lay1 st (x, y, z) = layAll σ1.st (σ1.checks.take (j + 1)) ∧ (lay1 st (x, y, z)).length = σ1.st.length ∧ (j + 1 < m → k8 ≤ (σ1.checks.getD (j + 1) (0, 0, 0)).2.1)) := Lib.hid (by
              refine ⟨h68.trans c6r, HJ.out.1.trans hs8, hw8, ?_, ?_, fun hj1 => ?_⟩
              · rw [layAll_take (by rw [← H6.out.2.2.2.2.1]; exact hlt), ← HCK.out.2.1, ← HJ.out.2.2.1]
              · rw [lay1_len (show y + z ≤ st.length by rw [hle]; exact hcl.2.2.2)]; exact hle
              · have ho := List.pairwise_iff_getElem.1 H6.out.2.2.1.ord j (j + 1) (by rw [← H6.out.2.2.2.2.1]; exact hlt) (by rw [← H6.out.2.2.2.2.1]; exact hj1) (by omega)
                have e1 := HCK.out.2.1
                rw [List.getD_eq_getElem?_getD, List.getElem?_eq_getElem (by rw [← H6.out.2.2.2.2.1]; exact hlt), Option.getD_some] at e1
                rw [List.getD_eq_getElem?_getD, List.getElem?_eq_getElem (by rw [← H6.out.2.2.2.2.1]; exact hj1), Option.getD_some]
                rw [← e1] at ho
                exact Nat.le_trans hk8 ho)
            clear hs8 hw8 h68 hk8 hcl hle hk cg c6r
            go_wp2_with fail
            exact ⟨⟨j + 1, k8, _, by omega, by go_num, HE.out.1, Lib.hid ⟨HE.out.2.1, HE.out.2.2.1, HE.out.2.2.2.1, HE.out.2.2.2.2.1, HE.out.2.2.2.2.2⟩⟩, by simp [intOf]; omega⟩
          · obtain rfl : j = m := by omega
            obtain ⟨sa, sc, c4, hcv⟩ := HJ.out.2.1.conv_
            obtain ⟨S, hS⟩ : ∃ S, S = bytesOf st := ⟨_, rfl⟩
            have hcv' : (convert 64 9 (.slice sa st.length sc)).run Tryz.prog wq = .ok (.string S) wq := by rw [hS]; exact hcv
            have c4' : wq.cell? ⟨o.wb, 4, none⟩ = some (.slice sa st.length sc) := c4
            obtain ⟨n5, hn5⟩ : ∃ n5, n5 = st.length := ⟨_, rfl⟩
            rw [← hn5] at hcv' c4'
            have HY : Hid (WwPost o w5 RR (.returned (.string S)) wq) := Lib.hid (WwPost.yes (by rw [HR2.out, hS, HJ.out.2.2.1, H6.out.2.2.2.2.1, List.take_length]) HJ.out.1)
            clear hcv c4 hS hn5
            go_wp2_with fail
            first | go_end0 | go_ret
            exact HY.out
      · have hd : ((q : Int) == 0) = false := by simp [hq0]
        have HY : Hid (WwPost o w5 RR (Stops zRf) w6) := Lib.hid (WwPost.no (by rw [HR.out, H6.out.2.2.2.1]; exact if_neg (fun e => hq0 (by rw [H6.out.2.2.2.2.2.1, e]; rfl))) H6.out.1)
        clear hq0
        go_wp2_with fail
        refine (require_no _).mono ?_
        rintro e w7 ⟨rfl, rfl⟩
        exact ⟨rfl, HY.out⟩
end WrT
section RecU
open Go.RowKit Fx Rec Go.Maps

theorem Rd.row_of {w : World} {B : Nat} {o : Ro} {rb : Nat} {L : List Fm} {s : ByteArray} {ps : List Pt} (h : Rd w (Held B o) o rb L s ps) {vp : Value} (hp : PartsAt w (Held B o) rb ps vp) : w.ownsRow B 26 6 vp ps.length (flatP ps) := by
  obtain ⟨hf, vp', k, vs, hm⟩ := h
  have evp : vp' = vp := by
    have h1 := hm.blk.cell 4
    rw [hp.cell] at h1
    simp only [List.getElem?_toArray, List.getElem?_cons_zero, List.getElem?_cons_succ, Option.some.injEq] at h1
    exact h1.symm
  subst evp
  refine ⟨hm.row.1, ?_⟩
  rcases hm.row.2 with h | ⟨g, cap, cur, rfl, _, r⟩
  · exact .inl h
  · refine .inr ⟨g, cap, cur, rfl, ?_, r⟩
    have := hm.nP g rfl
    rcases Nat.lt_or_ge g B with h | h
    · exact absurd (.inl h) this
    · exact h
/-- What comes of the function in Match. -/
def M1 (w : World) (pb : Nat) (r : Except Rf (List Pt)) (e : Ending) (w' : World) : Prop :=
  Kept (fun k => k < w.heap.size ∧ k ≠ pb) w w' ∧ match r with
  | .ok ps => e = .returned (.tuple #[]) ∧ ∃ vp, Blk w' pb 38 #[vp] ∧ w'.ownsRow w.heap.size 26 6 vp ps.length (flatP ps)
  | .error f => e = Stops f ∧ Kept (· < w.heap.size) w w'
theorem mtch_no {L : List Fm} {id : Int} {s : ByteArray} (h : vd L = false ∨ ¬ s.size ≤ 65536) : mtch L id s = .error zRf := by
  unfold mtch
  rw [if_neg]
  rintro ⟨h1, h2⟩
  rcases h with h | h
  · rw [h] at h1; cases h1
  · exact h h2
theorem mtch_yes {L : List Fm} {id : Int} {s : ByteArray} (h1 : vd L = true) (h2 : s.size ≤ 65536) : mtch L id s = whole L s id := by
  unfold mtch
  rw [if_pos ⟨h1, h2⟩]
set_option maxRecDepth 20000 in
set_option maxHeartbeats 4000000 in
theorem match1_any (lb sb ib pb : Nat) (v : Value) (L : List Fm) (id : Int) (s : ByteArray) (er : Addr) (w : World) (hl : Blk w lb 23 #[v]) (hs : Blk w sb 9 #[.string s]) (hi : Blk w ib 3 #[.int .i64 id]) (hp : Blk w pb 38 #[.slice none 0 0])
    (hE : ErrAt w er) (hV : FmsAt (· < w.heap.size) w v L) (hI : IntsL L) :
    Calls Tryz.prog 38 #[ptr lb, ptr sb, ptr ib, ptr pb] w fun e w' => M1 w pb (mtch L id s) e w' := by
  have c0 := hl.cell 0
  have c1 := hs.cell 0
  have c2 := hi.cell 0
  simp only [List.getElem?_toArray, List.getElem?_cons_zero] at c0 c1 c2
  have HF : Hid (∀ W, Kept (· < w.heap.size) w W → W.cell? ⟨lb, 0, none⟩ = some v ∧ W.cell? ⟨sb, 0, none⟩ = some (.string s) ∧ W.cell? ⟨ib, 0, none⟩ = some (.int .i64 id)) := Lib.hid fun W hk =>
    ⟨(hk.cell (p := ⟨lb, 0, none⟩) hl.lt).trans c0, (hk.cell (p := ⟨sb, 0, none⟩) hs.lt).trans c1, (hk.cell (p := ⟨ib, 0, none⟩) hi.lt).trans c2⟩
  have HP := Lib.hid (And.intro hp hp.lt)
  obtain ⟨RR, hRR⟩ : ∃ RR, RR = mtch L id s := ⟨_, rfl⟩
  rw [← hRR]
  obtain ⟨va, vc, rfl, -⟩ := hV.slice2
  have hE' := hE.below (Below.refl _ w).drew
  have hV' : FmsAt (· < w.drew.heap.size) w.drew (.slice va L.length vc) L := hV.kept (Kept.refl _ _).drew
  by_cases hok : vd L = true ∧ s.size ≤ 65536
  · have HNR := Lib.hid (newReader_yes _ L s er w.drew w.drew.heap.size (Nat.le_refl _) hE' hV' hI hok.1 hok.2)
    have HRW := Lib.hid (show RR = whole L s id by rw [hRR, mtch_yes hok.1 hok.2])
    clear hl hs hi hp hE hV hI hE' hV' c0 c1 c2 hRR hok
    cases hw : whole L s id with
    | error rf =>
      have HRR := Lib.hid hw
      have HNO : Hid (∀ w', Kept (· < w.heap.size) w w' → M1 w pb RR (Stops rf) w') := Lib.hid fun w' hk => ⟨hk.mono fun k h => h.1, by rw [HRW.out, HRR.out]; exact ⟨rfl, hk⟩⟩
      clear hw
      go_enter Tryz.func38, Tryz.ntmps38
      go_wp2_with fail
      refine wp_region_T 5 (fun w' : World => Kept (· < w.heap.size) w w') (by kernel_rfl) (Kept.refl _ _).drew (fun hHeld => ?_)
      refine wpAnyT_take (i := 0) (oi := ?o1) (v := ?v1) ?h1 ?a1 ?b1 ?c1 ?d1 ?e1 ?f1 ?j1 ?q1 (Or.inl ⟨?g1, ?y1⟩) ?s1 ?r1
      case h1 => (simp only [List.getElem?_toArray, List.getElem?_cons_zero]; rfl)
      case a1 => kernel_rfl
      case b1 => kernel_rfl
      case c1 => kernel_rfl
      case d1 => kernel_rfl
      case e1 => kernel_rfl
      case f1 => kernel_rfl
      case j1 => kernel_rfl
      case q1 => exact fun _ _ _ h => h
      case g1 => rfl
      case y1 => (intro wS hSw; obtain ⟨s0, s1, s2⟩ := HF.out _ hSw; go_simp; (try with_reducible rfl))
      case s1 => assumption
      (try simp only [Act.put, List.setIfInBounds_toArray, List.set_cons_zero, List.set_cons_succ])
      refine wpAnyT_take (i := 1) (oi := ?o2) (v := ?v2) ?h2 ?a2 ?b2 ?c2 ?d2 ?e2 ?f2 ?j2 ?q2 (Or.inl ⟨?g2, ?y2⟩) ?s2 ?r2
      case h2 => (simp only [List.getElem?_toArray, List.getElem?_cons_zero, List.getElem?_cons_succ]; rfl)
      case a2 => kernel_rfl
      case b2 => kernel_rfl
      case c2 => kernel_rfl
      case d2 => kernel_rfl
      case e2 => kernel_rfl
      case f2 => kernel_rfl
      case j2 => kernel_rfl
      case q2 => exact fun _ _ _ h => h
      case g2 => rfl
      case y2 => (intro wS hSw; obtain ⟨s0, s1, s2⟩ := HF.out _ hSw; go_simp; (try with_reducible rfl))
      case s2 => assumption
      (try simp only [Act.put, List.setIfInBounds_toArray, List.set_cons_zero, List.set_cons_succ])
      refine wpAnyT_take (i := 3) (oi := ?o3) (v := ?v3) ?h3 ?a3 ?b3 ?c3 ?d3 ?e3 ?f3 ?j3 ?q3 (Or.inl ⟨?g3, ?y3⟩) ?s3 ?r3
      case h3 => (simp only [List.getElem?_toArray, List.getElem?_cons_zero, List.getElem?_cons_succ]; rfl)
      case a3 => kernel_rfl
      case b3 => kernel_rfl
      case c3 => kernel_rfl
      case d3 => kernel_rfl
      case e3 => kernel_rfl
      case f3 => kernel_rfl
      case j3 => kernel_rfl
      case q3 => exact fun _ _ _ h => h
      case g3 => rfl
      case y3 => (intro wS hSw; obtain ⟨s0, s1, s2⟩ := HF.out _ hSw; go_simp; (try with_reducible rfl))
      case s3 => assumption
      (try simp only [Act.put, List.setIfInBounds_toArray, List.set_cons_zero, List.set_cons_succ])
      refine wpAnyT_ready (rs := [2]) (by kernel_rfl) (by simp) ?_
      refine AllReadyT.cons (o := ?oB4) ?hB4 ?kB4 AllReadyT.nil
      case hB4 => (simp only [List.getElem?_toArray, List.getElem?_cons_zero, List.getElem?_cons_succ]; rfl)
      case kB4 =>
        intro K hK
        go_simp
        refine HNR.out.mono ?_
        rintro e w5 ⟨o, rb, rfl, hB5, hR5, -⟩
        have hk5 : Kept (· < w.heap.size) w w5 := (Kept.refl _ _).drew.trans (Kept.of_below hB5 fun _ h => h)
        refine hK.out _ _ (fun _ => hk5) ?_
        clear hK K
        (try simp only [Act.put, List.setIfInBounds_toArray, List.set_cons_zero, List.set_cons_succ])
        have hW := whole_any o rb L s _ [] id w5 hR5
        rw [HRR.out] at hW
        refine wpAnyT_ready (rs := [4]) (by kernel_rfl) (by simp) ?_
        refine AllReadyT.cons (o := ?oB5) ?hB5 ?kB5 AllReadyT.nil
        case hB5 => (simp only [List.getElem?_toArray, List.getElem?_cons_zero, List.getElem?_cons_succ]; rfl)
        case kB5 =>
          intro K hK
          go_simp
          refine hW.mono ?_
          rintro e w6 ⟨hk6, rfl, -⟩
          exact ⟨rfl, HNO.out _ (hk5.trans (hk6.mono fun k hk => .inl hk))⟩
    | ok ps =>
      have HRR := Lib.hid hw
      rw [show RR = .ok ps by rw [HRW.out, hw]]
      clear hw
      go_enter Tryz.func38, Tryz.ntmps38
      go_wp2_with fail
      refine wp_region_T 5 (fun w' : World => Kept (· < w.heap.size) w w') (by kernel_rfl) (Kept.refl _ _).drew (fun hHeld => ?_)
      refine wpAnyT_take (i := 0) (oi := ?o6) (v := ?v6) ?h6 ?a6 ?b6 ?c6 ?d6 ?e6 ?f6 ?j6 ?q6 (Or.inl ⟨?g6, ?y6⟩) ?s6 ?r6
      case h6 => (simp only [List.getElem?_toArray, List.getElem?_cons_zero]; rfl)
      case a6 => kernel_rfl
      case b6 => kernel_rfl
      case c6 => kernel_rfl
      case d6 => kernel_rfl
      case e6 => kernel_rfl
      case f6 => kernel_rfl
      case j6 => kernel_rfl
      case q6 => exact fun _ _ _ h => h
      case g6 => rfl
      case y6 => (intro wS hSw; obtain ⟨s0, s1, s2⟩ := HF.out _ hSw; go_simp; (try with_reducible rfl))
      case s6 => assumption
      (try simp only [Act.put, List.setIfInBounds_toArray, List.set_cons_zero, List.set_cons_succ])
      refine wpAnyT_take (i := 1) (oi := ?o7) (v := ?v7) ?h7 ?a7 ?b7 ?c7 ?d7 ?e7 ?f7 ?j7 ?q7 (Or.inl ⟨?g7, ?y7⟩) ?s7 ?r7
      case h7 => (simp only [List.getElem?_toArray, List.getElem?_cons_zero, List.getElem?_cons_succ]; rfl)
      case a7 => kernel_rfl
      case b7 => kernel_rfl
      case c7 => kernel_rfl
      case d7 => kernel_rfl
      case e7 => kernel_rfl
      case f7 => kernel_rfl
      case j7 => kernel_rfl
      case q7 => exact fun _ _ _ h => h
      case g7 => rfl
      case y7 => (intro wS hSw; obtain ⟨s0, s1, s2⟩ := HF.out _ hSw; go_simp; (try with_reducible rfl))
      case s7 => assumption
      (try simp only [Act.put, List.setIfInBounds_toArray, List.set_cons_zero, List.set_cons_succ])
      refine wpAnyT_take (i := 3) (oi := ?o8) (v := ?v8) ?h8 ?a8 ?b8 ?c8 ?d8 ?e8 ?f8 ?j8 ?q8 (Or.inl ⟨?g8, ?y8⟩) ?s8 ?r8
      case h8 => (simp only [List.getElem?_toArray, List.getElem?_cons_zero, List.getElem?_cons_succ]; rfl)
      case a8 => kernel_rfl
      case b8 => kernel_rfl
      case c8 => kernel_rfl
      case d8 => kernel_rfl
      case e8 => kernel_rfl
      case f8 => kernel_rfl
      case j8 => kernel_rfl
      case q8 => exact fun _ _ _ h => h
      case g8 => rfl
      case y8 => (intro wS hSw; obtain ⟨s0, s1, s2⟩ := HF.out _ hSw; go_simp; (try with_reducible rfl))
      case s8 => assumption
      (try simp only [Act.put, List.setIfInBounds_toArray, List.set_cons_zero, List.set_cons_succ])
      refine wpAnyT_ready (rs := [2]) (by kernel_rfl) (by simp) ?_
      refine AllReadyT.cons (o := ?oB9) ?hB9 ?kB9 AllReadyT.nil
      case hB9 => (simp only [List.getElem?_toArray, List.getElem?_cons_zero, List.getElem?_cons_succ]; rfl)
      case kB9 =>
        intro K hK
        go_simp
        refine HNR.out.mono ?_
        rintro e w5 ⟨o, rb, rfl, hB5, hR5, -⟩
        have hk5 : Kept (· < w.heap.size) w w5 := (Kept.refl _ _).drew.trans (Kept.of_below hB5 fun _ h => h)
        refine hK.out _ _ (fun _ => hk5) ?_
        clear hK K
        (try simp only [Act.put, List.setIfInBounds_toArray, List.set_cons_zero, List.set_cons_succ])
        have hW := whole_any o rb L s _ [] id w5 hR5
        rw [HRR.out] at hW
        refine wpAnyT_ready (rs := [4]) (by kernel_rfl) (by simp) ?_
        refine AllReadyT.cons (o := ?oB10) ?hB10 ?kB10 AllReadyT.nil
        case hB10 => (simp only [List.getElem?_toArray, List.getElem?_cons_zero, List.getElem?_cons_succ]; rfl)
        case kB10 =>
          intro K hK
          go_simp
          refine hW.mono ?_
          rintro e w6 ⟨hk6, vp, rfl, hr6, hp6⟩
          have hk6' : Kept (· < w.heap.size) w w6 := hk5.trans (hk6.mono fun k hk => .inl hk)
          refine hK.out _ _ (fun _ => hk6') ?_
          clear hK K
          (try simp only [Act.put, List.setIfInBounds_toArray, List.set_cons_zero, List.set_cons_succ])
          have hrow := hr6.row_of hp6
          have hpb : Blk w6 pb 38 #[.slice none 0 0] := (hk6'.block pb HP.out.2).trans HP.out.1
          have c3 := hpb.cell 0
          have y3 := hpb.frozen 0
          simp only [List.getElem?_toArray, List.getElem?_cons_zero] at c3
          obtain ⟨va, vc, rfl, -⟩ := hp6.shape
          have HE := Lib.hid (And.intro hk6' (And.intro hrow hpb))
          clear hk5 hk6 hk6' hr6 hp6 hrow hpb hW hB5 hR5
          refine wpAnyT_ready (rs := [5]) (by kernel_rfl) (by simp) ?_
          refine AllReadyT.cons (o := ?oB11) ?hB11 ?kB11 AllReadyT.nil
          case hB11 => (simp only [List.getElem?_toArray, List.getElem?_cons_zero, List.getElem?_cons_succ]; rfl)
          case kB11 =>
            intro K hK
            go_simp
            refine hK.out _ _ (no_more (by kernel_rfl)) ?_
            clear hK K
            (try simp only [Act.put, List.setIfInBounds_toArray, List.set_cons_zero, List.set_cons_succ])
            refine wpAnyT_done (by kernel_rfl) ?_ _
            go_wp2
            first | go_end0 | skip
            have hkk : Kept (fun k => k < w.heap.size ∧ k ≠ pb) w w6 := HE.out.1.mono fun k hk => hk.1
            refine ⟨hkk.setCell (p := ⟨pb, 0, none⟩) (fun h => h.2 rfl) _, rfl, _, HE.out.2.2.set_ 0 _, ?_⟩
            exact own_keep HE.out.2.1 fun g cur hg hh => Below.heap_setCell _ _ _ _ fun e => Blk.ne_ (t := 26) hh HE.out.2.2 (by decide) e
  · have hor : vd L = false ∨ ¬ s.size ≤ 65536 := by
      by_cases h1 : vd L = true
      · exact .inr fun h2 => hok ⟨h1, h2⟩
      · exact .inl (by simpa using h1)
    have HNR : Hid (Calls Tryz.prog 39 #[.slice va L.length vc, .string s] w.drew fun e w' => e = Stops zRf ∧ Below w.drew.heap.size w.drew w') := Lib.hid (by
      by_cases h2 : s.size ≤ 65536
      · exact newReader_no _ L s er w.drew hE' hV' hI (hor.resolve_right fun h => h h2) h2
      · exact newReader_long _ s w.drew h2)
    have HNO : Hid (∀ w', Kept (· < w.heap.size) w w' → M1 w pb RR (Stops zRf) w') := Lib.hid fun w' hk => ⟨hk.mono fun k h => h.1, by rw [hRR, mtch_no hor]; exact ⟨rfl, hk⟩⟩
    clear hl hs hi hp hE hV hI hE' hV' c0 c1 c2 hRR hok hor
    go_enter Tryz.func38, Tryz.ntmps38
    go_wp2_with fail
    refine wp_region_T 5 (fun w' : World => Kept (· < w.heap.size) w w') (by kernel_rfl) (Kept.refl _ _).drew (fun hHeld => ?_)
    refine wpAnyT_take (i := 0) (oi := ?o12) (v := ?v12) ?h12 ?a12 ?b12 ?c12 ?d12 ?e12 ?f12 ?j12 ?q12 (Or.inl ⟨?g12, ?y12⟩) ?s12 ?r12
    case h12 => (simp only [List.getElem?_toArray, List.getElem?_cons_zero]; rfl)
    case a12 => kernel_rfl
    case b12 => kernel_rfl
    case c12 => kernel_rfl
    case d12 => kernel_rfl
    case e12 => kernel_rfl
    case f12 => kernel_rfl
    case j12 => kernel_rfl
    case q12 => exact fun _ _ _ h => h
    case g12 => rfl
    case y12 => (intro wS hSw; obtain ⟨s0, s1, s2⟩ := HF.out _ hSw; go_simp; (try with_reducible rfl))
    case s12 => assumption
    (try simp only [Act.put, List.setIfInBounds_toArray, List.set_cons_zero, List.set_cons_succ])
    refine wpAnyT_take (i := 1) (oi := ?o13) (v := ?v13) ?h13 ?a13 ?b13 ?c13 ?d13 ?e13 ?f13 ?j13 ?q13 (Or.inl ⟨?g13, ?y13⟩) ?s13 ?r13
    case h13 => (simp only [List.getElem?_toArray, List.getElem?_cons_zero, List.getElem?_cons_succ]; rfl)
    case a13 => kernel_rfl
    case b13 => kernel_rfl
    case c13 => kernel_rfl
    case d13 => kernel_rfl
    case e13 => kernel_rfl
    case f13 => kernel_rfl
    case j13 => kernel_rfl
    case q13 => exact fun _ _ _ h => h
    case g13 => rfl
    case y13 => (intro wS hSw; obtain ⟨s0, s1, s2⟩ := HF.out _ hSw; go_simp; (try with_reducible rfl))
    case s13 => assumption
    (try simp only [Act.put, List.setIfInBounds_toArray, List.set_cons_zero, List.set_cons_succ])
    refine wpAnyT_take (i := 3) (oi := ?o14) (v := ?v14) ?h14 ?a14 ?b14 ?c14 ?d14 ?e14 ?f14 ?j14 ?q14 (Or.inl ⟨?g14, ?y14⟩) ?s14 ?r14
    case h14 => (simp only [List.getElem?_toArray, List.getElem?_cons_zero, List.getElem?_cons_succ]; rfl)
    case a14 => kernel_rfl
    case b14 => kernel_rfl
    case c14 => kernel_rfl
    case d14 => kernel_rfl
    case e14 => kernel_rfl
    case f14 => kernel_rfl
    case j14 => kernel_rfl
    case q14 => exact fun _ _ _ h => h
    case g14 => rfl
    case y14 => (intro wS hSw; obtain ⟨s0, s1, s2⟩ := HF.out _ hSw; go_simp; (try with_reducible rfl))
    case s14 => assumption
    (try simp only [Act.put, List.setIfInBounds_toArray, List.set_cons_zero, List.set_cons_succ])
    refine wpAnyT_ready (rs := [2]) (by kernel_rfl) (by simp) ?_
    refine AllReadyT.cons (o := ?oB15) ?hB15 ?kB15 AllReadyT.nil
    case hB15 => (simp only [List.getElem?_toArray, List.getElem?_cons_zero, List.getElem?_cons_succ]; rfl)
    case kB15 =>
      intro K hK
      go_simp
      refine HNR.out.mono ?_
      rintro e w5 ⟨rfl, hB5⟩
      exact ⟨rfl, HNO.out _ ((Kept.refl _ _).drew.trans (Kept.of_below hB5 fun _ h => h))⟩
end RecU
end Go.Proofs.YtlhobhfmombjjaaGreatDoor
