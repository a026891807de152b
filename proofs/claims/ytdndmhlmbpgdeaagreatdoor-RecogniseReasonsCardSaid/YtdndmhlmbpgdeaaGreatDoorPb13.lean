/- Match. Conditions: the table lies in memory, its numbers are ints; the variables of the errors are laid. Match. Conditions: the table lies in memory, its numbers are ints; the variables of the errors are laid. Write. Conditions: the table and the values lie in memory, the table's numbers are ints, the values are short; the variables of the errors are laid. One format of All is tried. Conditions: the reader lies in memory; the package's own variable of the type 'error' is laid. The function in All. Conditions: the table lies in memory, its numbers are ints; the variables of the errors are laid. -/
import Derived.Test.YtdndmhlmbpgdeaaGreatDoorPb01
import Derived.Test.YtdndmhlmbpgdeaaGreatDoorPb12
namespace Go.Proofs.YtdndmhlmbpgdeaaGreatDoor
section RecU
open Go.RowKit Fx Rec Go.Maps

theorem Rd.row_of {w : World} {B : Nat} {o : Ro} {rb : Nat} {L : List Fm} {s : ByteArray} {ps : List Pt} (h : Rd w (Held B o) o rb L s ps) {vp : Value} (hp : PartsAt w (Held B o) rb ps vp) : w.ownsRow B 26 6 vp ps.length (flatP ps) := by
  obtain ⟨hf, vp', k, vs, hm⟩ := h
  have evp : vp' = vp := by
    have h1 := hm.blk.cell 4
    rw [hp.cell] at h1
    simp only [List.getElem?_toArray, List.getElem?_cons_zero, List.getElem?_cons_succ, Option.some.injEq] at h1
    exact h1.symm
  subst evp
  refine ⟨hm.row.1, ?_⟩
  rcases hm.row.2 with h | ⟨g, cap, cur, rfl, _, r⟩
  · exact .inl h
  · refine .inr ⟨g, cap, cur, rfl, ?_, r⟩
    have := hm.nP g rfl
    rcases Nat.lt_or_ge g B with h | h
    · exact absurd (.inl h) this
    · exact h
/-- What comes of the function in Match. -/
def M1 (w : World) (pb : Nat) (r : Except Rf (List Pt)) (e : Ending) (w' : World) : Prop :=
  Kept (fun k => k < w.heap.size ∧ k ≠ pb) w w' ∧ match r with
  | .ok ps => e = .returned (.tuple #[]) ∧ ∃ vp, Blk w' pb 38 #[vp] ∧ w'.ownsRow w.heap.size 26 6 vp ps.length (flatP ps)
  | .error f => e = Stops f ∧ Kept (· < w.heap.size) w w'
theorem mtch_no {L : List Fm} {id : Int} {s : ByteArray} (h : vd L = false ∨ ¬ s.size ≤ 65536) : mtch L id s = .error zRf := by
  unfold mtch
  rw [if_neg]
  rintro ⟨h1, h2⟩
  rcases h with h | h
  · rw [h] at h1; cases h1
  · exact h h2
theorem mtch_yes {L : List Fm} {id : Int} {s : ByteArray} (h1 : vd L = true) (h2 : s.size ≤ 65536) : mtch L id s = whole L s id := by
  unfold mtch
  rw [if_pos ⟨h1, h2⟩]
set_option maxRecDepth 20000 in
set_option maxHeartbeats 4000000 in
theorem match1_any (lb sb ib pb : Nat) (v : Value) (L : List Fm) (id : Int) (s : ByteArray) (er : Addr) (w : World) (hl : Blk w lb 23 #[v]) (hs : Blk w sb 9 #[.string s]) (hi : Blk w ib 3 #[.int .i64 id]) (hp : Blk w pb 38 #[.slice none 0 0])
    (hE : ErrAt w er) (hV : FmsAt (· < w.heap.size) w v L) (hI : IntsL L) :
    Calls Tryz.prog 38 #[ptr lb, ptr sb, ptr ib, ptr pb] w fun e w' => M1 w pb (mtch L id s) e w' := by
  have c0 := hl.cell 0
  have c1 := hs.cell 0
  have c2 := hi.cell 0
  simp only [List.getElem?_toArray, List.getElem?_cons_zero] at c0 c1 c2
  have HF : Hid (∀ W, Kept (· < w.heap.size) w W → W.cell? ⟨lb, 0, none⟩ = some v ∧ W.cell? ⟨sb, 0, none⟩ = some (.string s) ∧ W.cell? ⟨ib, 0, none⟩ = some (.int .i64 id)) := Lib.hid fun W hk =>
    ⟨(hk.cell (p := ⟨lb, 0, none⟩) hl.lt).trans c0, (hk.cell (p := ⟨sb, 0, none⟩) hs.lt).trans c1, (hk.cell (p := ⟨ib, 0, none⟩) hi.lt).trans c2⟩
  have HP := Lib.hid (And.intro hp hp.lt)
  obtain ⟨RR, hRR⟩ : ∃ RR, RR = mtch L id s := ⟨_, rfl⟩
  rw [← hRR]
  obtain ⟨va, vc, rfl, -⟩ := hV.slice2
  have hE' := hE.below (Below.refl _ w).drew
  have hV' : FmsAt (· < w.drew.heap.size) w.drew (.slice va L.length vc) L := hV.kept (Kept.refl _ _).drew
  by_cases hok : vd L = true ∧ s.size ≤ 65536
  · have HNR := Lib.hid (newReader_yes _ L s er w.drew w.drew.heap.size (Nat.le_refl _) hE' hV' hI hok.1 hok.2)
    have HRW := Lib.hid (show RR = whole L s id by rw [hRR, mtch_yes hok.1 hok.2])
    clear hl hs hi hp hE hV hI hE' hV' c0 c1 c2 hRR hok
    cases hw : whole L s id with
    | error rf =>
      have HRR := Lib.hid hw
      have HNO : Hid (∀ w', Kept (· < w.heap.size) w w' → M1 w pb RR (Stops rf) w') := Lib.hid fun w' hk => ⟨hk.mono fun k h => h.1, by rw [HRW.out, HRR.out]; exact ⟨rfl, hk⟩⟩
      clear hw
      go_enter Tryz.func38, Tryz.ntmps38
      go_wp2_with fail
      refine wp_region_T 5 (fun w' : World => Kept (· < w.heap.size) w w') (by kernel_rfl) (Kept.refl _ _).drew (fun hHeld => ?_)
      refine takeT 0 (y := by intro wS hSw; obtain ⟨s0, s1, s2⟩ := HF.out _ hSw; go_simp; (try with_reducible rfl)) (h := ?_)
      (try simp only [pA, pB, pC, pD])
      refine takeT 1 (y := by intro wS hSw; obtain ⟨s0, s1, s2⟩ := HF.out _ hSw; go_simp; (try with_reducible rfl)) (h := ?_)
      (try simp only [pA, pB, pC, pD])
      refine takeT 3 (y := by intro wS hSw; obtain ⟨s0, s1, s2⟩ := HF.out _ hSw; go_simp; (try with_reducible rfl)) (h := ?_)
      (try simp only [pA, pB, pC, pD])
      refine wpAnyT_ready (rs := [2]) (by kernel_rfl) (by simp) ?_
      refine AllReadyT.cons (o := ?oB4) ?hB4 ?kB4 AllReadyT.nil
      case hB4 => (simp only [List.getElem?_toArray, List.getElem?_cons_zero, List.getElem?_cons_succ]; rfl)
      case kB4 =>
        intro K hK
        go_simp
        refine HNR.out.mono ?_
        rintro e w5 ⟨o, rb, rfl, hB5, hR5, -⟩
        have hk5 : Kept (· < w.heap.size) w w5 := (Kept.refl _ _).drew.trans (Kept.of_below hB5 fun _ h => h)
        refine hK.out _ _ (fun _ => hk5) ?_
        clear hK K
        (try simp only [pA, pB, pC, pD])
        have hW := whole_any o rb L s _ [] id w5 hR5
        rw [HRR.out] at hW
        refine wpAnyT_ready (rs := [4]) (by kernel_rfl) (by simp) ?_
        refine AllReadyT.cons (o := ?oB5) ?hB5 ?kB5 AllReadyT.nil
        case hB5 => (simp only [List.getElem?_toArray, List.getElem?_cons_zero, List.getElem?_cons_succ]; rfl)
        case kB5 =>
          intro K hK
          go_simp
          refine hW.mono ?_
          rintro e w6 ⟨hk6, rfl, -⟩
          exact ⟨rfl, HNO.out _ (hk5.trans (hk6.mono fun k hk => .inl hk))⟩
    | ok ps =>
      have HRR := Lib.hid hw
      rw [show RR = .ok ps by rw [HRW.out, hw]]
      clear hw
      go_enter Tryz.func38, Tryz.ntmps38
      go_wp2_with fail
      refine wp_region_T 5 (fun w' : World => Kept (· < w.heap.size) w w') (by kernel_rfl) (Kept.refl _ _).drew (fun hHeld => ?_)
      refine takeT 0 (y := by intro wS hSw; obtain ⟨s0, s1, s2⟩ := HF.out _ hSw; go_simp; (try with_reducible rfl)) (h := ?_)
      (try simp only [pA, pB, pC, pD])
      refine takeT 1 (y := by intro wS hSw; obtain ⟨s0, s1, s2⟩ := HF.out _ hSw; go_simp; (try with_reducible rfl)) (h := ?_)
      (try simp only [pA, pB, pC, pD])
      refine takeT 3 (y := by intro wS hSw; obtain ⟨s0, s1, s2⟩ := HF.out _ hSw; go_simp; (try with_reducible rfl)) (h := ?_)
      (try simp only [pA, pB, pC, pD])
      refine wpAnyT_ready (rs := [2]) (by kernel_rfl) (by simp) ?_
      refine AllReadyT.cons (o := ?oB9) ?hB9 ?kB9 AllReadyT.nil
      case hB9 => (simp only [List.getElem?_toArray, List.getElem?_cons_zero, List.getElem?_cons_succ]; rfl)
      case kB9 =>
        intro K hK
        go_simp
        refine HNR.out.mono ?_
        rintro e w5 ⟨o, rb, rfl, hB5, hR5, -⟩
        have hk5 : Kept (· < w.heap.size) w w5 := (Kept.refl _ _).drew.trans (Kept.of_below hB5 fun _ h => h)
        refine hK.out _ _ (fun _ => hk5) ?_
        clear hK K
        (try simp only [pA, pB, pC, pD])
        have hW := whole_any o rb L s _ [] id w5 hR5
        rw [HRR.out] at hW
        refine wpAnyT_ready (rs := [4]) (by kernel_rfl) (by simp) ?_
        refine AllReadyT.cons (o := ?oB10) ?hB10 ?kB10 AllReadyT.nil
        case hB10 => (simp only [List.getElem?_toArray, List.getElem?_cons_zero, List.getElem?_cons_succ]; rfl)
        case kB10 =>
          intro K hK
          go_simp
          refine hW.mono ?_
          rintro e w6 ⟨hk6, vp, rfl, hr6, hp6⟩
          have hk6' : Kept (· < w.heap.size) w w6 := hk5.trans (hk6.mono fun k hk => .inl hk)
          refine hK.out _ _ (fun _ => hk6') ?_
          clear hK K
          (try simp only [pA, pB, pC, pD])
          have hrow := hr6.row_of hp6
          have hpb : Blk w6 pb 38 #[.slice none 0 0] := (hk6'.block pb HP.out.2).trans HP.out.1
          have c3 := hpb.cell 0
          have y3 := hpb.frozen 0
          simp only [List.getElem?_toArray, List.getElem?_cons_zero] at c3
          obtain ⟨va, vc, rfl, -⟩ := hp6.shape
          have HE := Lib.hid (And.intro hk6' (And.intro hrow hpb))
          clear hk5 hk6 hk6' hr6 hp6 hrow hpb hW hB5 hR5
          refine wpAnyT_ready (rs := [5]) (by kernel_rfl) (by simp) ?_
          refine AllReadyT.cons (o := ?oB11) ?hB11 ?kB11 AllReadyT.nil
          case hB11 => (simp only [List.getElem?_toArray, List.getElem?_cons_zero, List.getElem?_cons_succ]; rfl)
          case kB11 =>
            intro K hK
            go_simp
            refine hK.out _ _ (no_more (by kernel_rfl)) ?_
            clear hK K
            (try simp only [pA, pB, pC, pD])
            refine wpAnyT_done (by kernel_rfl) ?_ _
            go_wp2
            first | go_end0 | skip
            have hkk : Kept (fun k => k < w.heap.size ∧ k ≠ pb) w w6 := HE.out.1.mono fun k hk => hk.1
            refine ⟨hkk.setCell (p := ⟨pb, 0, none⟩) (fun h => h.2 rfl) _, rfl, _, HE.out.2.2.set_ 0 _, ?_⟩
            exact own_keep HE.out.2.1 fun g cur hg hh => Below.heap_setCell _ _ _ _ fun e => Blk.ne_ (t := 26) hh HE.out.2.2 (by decide) e
  · have hor : vd L = false ∨ ¬ s.size ≤ 65536 := by
      by_cases h1 : vd L = true
      · exact .inr fun h2 => hok ⟨h1, h2⟩
      · exact .inl (by simpa using h1)
    have HNR : Hid (Calls Tryz.prog 39 #[.slice va L.length vc, .string s] w.drew fun e w' => e = Stops zRf ∧ Below w.drew.heap.size w.drew w') := Lib.hid (by
      by_cases h2 : s.size ≤ 65536
      · exact newReader_no _ L s er w.drew hE' hV' hI (hor.resolve_right fun h => h h2) h2
      · exact newReader_long _ s w.drew h2)
    have HNO : Hid (∀ w', Kept (· < w.heap.size) w w' → M1 w pb RR (Stops zRf) w') := Lib.hid fun w' hk => ⟨hk.mono fun k h => h.1, by rw [hRR, mtch_no hor]; exact ⟨rfl, hk⟩⟩
    clear hl hs hi hp hE hV hI hE' hV' c0 c1 c2 hRR hok hor
    go_enter Tryz.func38, Tryz.ntmps38
    go_wp2_with fail
    refine wp_region_T 5 (fun w' : World => Kept (· < w.heap.size) w w') (by kernel_rfl) (Kept.refl _ _).drew (fun hHeld => ?_)
    refine takeT 0 (y := by intro wS hSw; obtain ⟨s0, s1, s2⟩ := HF.out _ hSw; go_simp; (try with_reducible rfl)) (h := ?_)
    (try simp only [pA, pB, pC, pD])
    refine takeT 1 (y := by intro wS hSw; obtain ⟨s0, s1, s2⟩ := HF.out _ hSw; go_simp; (try with_reducible rfl)) (h := ?_)
    (try simp only [pA, pB, pC, pD])
    refine takeT 3 (y := by intro wS hSw; obtain ⟨s0, s1, s2⟩ := HF.out _ hSw; go_simp; (try with_reducible rfl)) (h := ?_)
    (try simp only [pA, pB, pC, pD])
    refine wpAnyT_ready (rs := [2]) (by kernel_rfl) (by simp) ?_
    refine AllReadyT.cons (o := ?oB15) ?hB15 ?kB15 AllReadyT.nil
    case hB15 => (simp only [List.getElem?_toArray, List.getElem?_cons_zero, List.getElem?_cons_succ]; rfl)
    case kB15 =>
      intro K hK
      go_simp
      refine HNR.out.mono ?_
      rintro e w5 ⟨rfl, hB5⟩
      exact ⟨rfl, HNO.out _ ((Kept.refl _ _).drew.trans (Kept.of_below hB5 fun _ h => h))⟩
end RecU
section RecV
open Go.RowKit Fx Rec Go.Maps

/-- What Match lays ahead of its call. -/
abbrev mW (w : World) (v : Value) (id : Int) (s : ByteArray) : World :=
  ((((w.alloc (.cells #[v] 23)).alloc (.cells #[.int .i64 id] 3)).alloc (.cells #[.string s] 9)).alloc (.cells #[.int .i64 0, .int .i64 0, .int .i64 0, .int .i64 0] 40)).alloc (.cells #[.slice none 0 0] 38)
theorem enters_38 : Enters 38 := fun args w => by simp [callFunc, Tryz.func38, Tryz.f38]
theorem ErrTy.below {w w' : World} (h : ErrTy w) (hb : Below w.heap.size w w') : ErrTy w' := (hb.cell (p := ⟨0, 0, none⟩) (World.block_lt_of_cell? (h := h))).trans h
/-- What comes of attempt in Match. -/
def M2 (W : World) (w : World) (pb : Nat) (r : Except Rf (List Pt)) (e : Ending) (w' : World) : Prop :=
  Kept (fun k => k < W.heap.size ∧ k ≠ pb) W w' ∧ match r with
  | .ok ps => e = .returned (.tuple #[.agg #[.int .i64 0, .int .i64 0, .int .i64 0, .int .i64 0], .int .i64 0]) ∧ ∃ a n c, Blk w' pb 38 #[.slice a n c] ∧ w'.ownsRow w.heap.size 26 6 (.slice a n c) ps.length (flatP ps)
  | .error f => e = .returned (.tuple #[.agg #[.int .i64 f.offset, .int .i64 f.format, .int .i64 f.field, .int .i64 f.reason], .int .i64 50]) ∧ Blk w' pb 38 #[.slice none 0 0]
theorem match_att (v : Value) (L : List Fm) (id : Int) (s : ByteArray) (er : Addr) (w : World) (hE : ErrAt w er) (hT : ErrTy w) (hV : FmsAt (· < w.heap.size) w v L) (hI : IntsL L) :
    Calls Tryz.prog 37 #[.func (.func 38) #[] #[ptr w.heap.size, ptr (w.heap.size + 2), ptr (w.heap.size + 1), ptr (w.heap.size + 4)]] (mW w v id s) fun e w' => M2 (mW w v id s) w (w.heap.size + 4) (mtch L id s) e w' := by
  obtain ⟨W, hW⟩ : ∃ W, W = mW w v id s := ⟨_, rfl⟩
  have hsz : W.heap.size = w.heap.size + 5 := by rw [hW]; simp [mW]
  have hB : Below w.heap.size w W := by
    rw [hW]
    exact (((((Below.refl _ _).alloc (Nat.le_refl _) _).alloc (by simp) _).alloc (by simp; omega) _).alloc (by simp; omega) _).alloc (by simp; omega) _
  have b0 : Blk W w.heap.size 23 #[v] := by rw [hW]; exact ((((Blk.new w _ _).alloc_ _).alloc_ _).alloc_ _).alloc_ _
  have b1 : Blk W (w.heap.size + 1) 3 #[.int .i64 id] := by
    rw [hW]
    have := Blk.new (w.alloc (.cells #[v] 23)) 3 #[.int .i64 id]
    exact (((show Blk _ (w.heap.size + 1) _ _ by simpa using this).alloc_ _).alloc_ _).alloc_ _
  have b2 : Blk W (w.heap.size + 2) 9 #[.string s] := by
    rw [hW]
    have := Blk.new ((w.alloc (.cells #[v] 23)).alloc (.cells #[.int .i64 id] 3)) 9 #[.string s]
    exact ((show Blk _ (w.heap.size + 2) _ _ by simpa using this).alloc_ _).alloc_ _
  have b4 : Blk W (w.heap.size + 4) 38 #[.slice none 0 0] := by
    rw [hW]
    have := Blk.new ((((w.alloc (.cells #[v] 23)).alloc (.cells #[.int .i64 id] 3)).alloc (.cells #[.string s] 9)).alloc (.cells #[.int .i64 0, .int .i64 0, .int .i64 0, .int .i64 0] 40)) 38 #[.slice none 0 0]
    simpa [mW] using this
  rw [← hW]
  have hBW : Below W.heap.size W (attW W) := ((Below.refl _ _).alloc (Nat.le_refl _) _).alloc (by simp) _
  have hBa : Below w.heap.size w (attW W) := hB.trans (hBW.mono (by omega))
  have hasz : (attW W).heap.size = W.heap.size + 2 := by simp
  have hm := match1_any w.heap.size (w.heap.size + 2) (w.heap.size + 1) (w.heap.size + 4) v L id s er (attW W) ((hBW.block _ (by omega)).trans b0) ((hBW.block _ (by omega)).trans b2) ((hBW.block _ (by omega)).trans b1) ((hBW.block _ (by omega)).trans b4) (hE.below hBa)
    ((hV.kept (Kept.of_below hBa fun _ h => h)).mono fun k hk => by show k < _; have : k < w.heap.size := hk; omega) hI
  have hl0 : 0 < w.heap.size := World.block_lt_of_cell? (h := hT)
  obtain ⟨r, hr⟩ : ∃ r, r = mtch L id s := ⟨_, rfl⟩
  rw [← hr] at hm ⊢
  have ha := attempt_any 38 #[ptr w.heap.size, ptr (w.heap.size + 2), ptr (w.heap.size + 1), ptr (w.heap.size + 4)] W
    (fun w2 => ∃ ps, r = .ok ps ∧ Kept (fun k => k < (attW W).heap.size ∧ k ≠ w.heap.size + 4) (attW W) w2 ∧ ∃ vp, Blk w2 (w.heap.size + 4) 38 #[vp] ∧ w2.ownsRow (attW W).heap.size 26 6 vp ps.length (flatP ps))
    (fun a b c d w2 => r = .error ⟨a, b, c, d⟩ ∧ Kept (· < (attW W).heap.size) (attW W) w2) enters_38 (hT.below hB)
    (hm.mono fun e w2 h => ⟨by
      obtain ⟨hk, h⟩ := h
      cases r with
      | ok ps => exact .inl ⟨h.1, ps, rfl, hk, h.2⟩
      | error f => exact .inr ⟨f.offset, f.format, f.field, f.reason, h.1, rfl, h.2⟩, h.1.mono fun k hk => by
      rcases hk with ⟨h1, h2⟩ | h1
      · exact ⟨by omega, by omega⟩
      · unfold attK at h1; omega⟩)
  refine ha.mono fun e w' h => ?_
  rcases h with ⟨he, w2, ⟨ps, hr, hk, vp, hb, hrow⟩, hk2⟩ | ⟨a, b, c, d, he, w2, ⟨hr, hk⟩, hk2⟩
  · have hs2 := hk.size
    have k1 : Kept (fun k => k < W.heap.size ∧ k ≠ w.heap.size + 4) W w' :=
      (Kept.of_below hBW fun k hk => hk.1).trans ((hk.mono fun k hk => ⟨by omega, hk.2⟩).trans (hk2.mono fun k hk => ⟨by omega, by unfold attK; omega⟩))
    refine ⟨k1, ?_⟩
    rw [hr]
    refine ⟨he, ?_⟩
    have hb' : Blk w' (w.heap.size + 4) 38 #[vp] := (hk2.block _ ⟨by omega, by unfold attK; omega⟩).trans hb
    have hrow' : w'.ownsRow (attW W).heap.size 26 6 vp ps.length (flatP ps) := own_keep hrow fun g cur hg hh => hk2.block g ⟨lt_of_heap hh, by have := (hrow.lt g hg).1; unfold attK; omega⟩
    rcases hrow'.2 with ⟨rfl, h0⟩ | ⟨g, cap, cur, rfl, h1, h2⟩
    · exact ⟨_, _, _, hb', hrow'.1, .inl ⟨rfl, h0⟩⟩
    · exact ⟨_, _, _, hb', hrow'.1, .inr ⟨g, cap, cur, rfl, by omega, h2⟩⟩
  · have hs2 := hk.size
    have k1 : Kept (fun k => k < W.heap.size) W w' :=
      (Kept.of_below hBW fun k hk => hk).trans ((hk.mono fun k hk => by show k < _; have : k < W.heap.size := hk; omega).trans (hk2.mono fun k hk => ⟨by have : k < W.heap.size := hk; omega, by have : k < W.heap.size := hk; unfold attK; omega⟩))
    refine ⟨k1.mono fun k hk => hk.1, ?_⟩
    rw [hr]
    exact ⟨he, (k1.block _ (by show _ < _; omega)).trans b4⟩

set_option maxRecDepth 20000 in
set_option maxHeartbeats 4000000 in
theorem Match_any (v : Value) (L : List Fm) (id : Int) (s : ByteArray) (er : Addr) (w : World) (hE : ErrAt w er) (hT : ErrTy w) (hV : FmsAt (· < w.heap.size) w v L) (hI : IntsL L) :
    Calls Tryz.prog 19 #[v, .int .i64 id, .string s] w fun e w' => Below w.heap.size w w' ∧ match mtch L id s with
      | .ok ps => ∃ vp, e = .returned (.tuple #[vp, .agg #[.int .i64 0, .int .i64 0, .int .i64 0, .int .i64 0], .int .i64 0]) ∧ w'.ownsRow w.heap.size 26 6 vp ps.length (flatP ps)
      | .error f => e = .returned (.tuple #[.slice none 0 0, .agg #[.int .i64 f.offset, .int .i64 f.format, .int .i64 f.field, .int .i64 f.reason], .int .i64 50]) := by
  have hmf : ∀ (fn : Fn) (first cap : Array Value) (w : World), (Instr.makeFunc fn first cap).run Tryz.prog w = .ok (.func fn first cap) w := fun _ _ _ _ => rfl
  obtain ⟨va, vc, rfl, -⟩ := hV.slice2
  obtain ⟨W, hW⟩ : ∃ W, W = mW w (.slice va L.length vc) id s := ⟨_, rfl⟩
  have hsz : W.heap.size = w.heap.size + 5 := by rw [hW]; simp [mW]
  have hB : Below w.heap.size w W := by
    rw [hW]
    exact (((((Below.refl _ _).alloc (Nat.le_refl _) _).alloc (by simp) _).alloc (by simp; omega) _).alloc (by simp; omega) _).alloc (by simp; omega) _
  have b3 : Blk W (w.heap.size + 3) 40 #[.int .i64 0, .int .i64 0, .int .i64 0, .int .i64 0] := by
    rw [hW]
    have := Blk.new (((w.alloc (.cells #[.slice va L.length vc] 23)).alloc (.cells #[.int .i64 id] 3)).alloc (.cells #[.string s] 9)) 40 #[.int .i64 0, .int .i64 0, .int .i64 0, .int .i64 0]
    exact (show Blk _ (w.heap.size + 3) _ _ by simpa using this).alloc_ _
  have HA := Lib.hid (match_att _ L id s er w hE hT hV hI)
  rw [← hW] at HA
  have HB := Lib.hid (And.intro hB (And.intro hsz b3))
  clear hE hT hV hI hB hsz b3
  obtain ⟨r, hr⟩ : ∃ r, r = mtch L id s := ⟨_, rfl⟩
  rw [← hr] at HA ⊢
  clear hr
  go_enter Tryz.func19, Tryz.ntmps19
  go_wp2_with fail
  refine (show Calls Tryz.prog 37 #[.func (.func 38) #[] #[ptr w.heap.size, ptr (w.heap.size + 1 + 1), ptr (w.heap.size + 1), ptr (w.heap.size + 1 + 1 + 1 + 1)]] (mW w (.slice va L.length vc) id s) _ from by rw [← hW]; exact HA.out).mono ?_
  rintro e w1 ⟨hk, hR⟩
  have hb3 : Blk w1 (w.heap.size + 3) 40 #[.int .i64 0, .int .i64 0, .int .i64 0, .int .i64 0] := (hk.block _ ⟨by rw [HB.out.2.1]; omega, by omega⟩).trans HB.out.2.2
  have hB1 : Below w.heap.size w w1 := HB.out.1.trans (hk.below fun k hk => ⟨by rw [HB.out.2.1]; omega, by omega⟩)
  have hs1 : w.heap.size + 5 ≤ w1.heap.size := by have := hk.size; rw [HB.out.2.1] at this; exact this
  have HK := Lib.hid (And.intro hB1 hb3)
  clear hk hB1 hb3 HA hW
  cases r with
  | ok ps =>
    obtain ⟨rfl, a, n, c, hpb, hrow⟩ := hR
    have lpb := hpb.lt
    have hX := bx (w := w1) (.cells #[.int .i64 0, .int .i64 0, .int .i64 0, .int .i64 0] 40)
    have hxn := Blk.new w1 40 #[.int .i64 0, .int .i64 0, .int .i64 0, .int .i64 0]
    obtain ⟨rn, hrn⟩ : ∃ rn, rn = w1.heap.size := ⟨_, rfl⟩
    have hpx := (hX.block _ lpb).trans hpb
    have h3x := (hX.block _ HK.out.2.lt).trans HK.out.2
    go_wp2_with fail
    generalize hXX : w1.alloc (.cells #[.int .i64 0, .int .i64 0, .int .i64 0, .int .i64 0] 40) = X at *
    rw [← hrn] at hxn hX ⊢
    have HX := Lib.hid (And.intro hX (And.intro hxn (And.intro (show Blk X (w.heap.size + 1 + 1 + 1) 40 #[.int .i64 0, .int .i64 0, .int .i64 0, .int .i64 0] from h3x) (show Blk X (w.heap.size + 1 + 1 + 1 + 1) 38 #[.slice a n c] from hpx))))
    have HF : Hid (∀ W', Below X.heap.size X W' → W'.cell? ⟨w.heap.size + 1 + 1 + 1 + 1, 0, none⟩ = some (.slice a n c) ∧ W'.cell? ⟨rn, 0, none⟩ = some (.int .i64 0) ∧ W'.cell? ⟨rn, 1, none⟩ = some (.int .i64 0) ∧ W'.cell? ⟨rn, 2, none⟩ = some (.int .i64 0) ∧ W'.cell? ⟨rn, 3, none⟩ = some (.int .i64 0)) := Lib.hid fun W' hb => by
      have e1 := (hb.block _ HX.out.2.2.2.lt).trans HX.out.2.2.2
      have e2 := (hb.block _ HX.out.2.1.lt).trans HX.out.2.1
      exact ⟨cell_of_row _ _ 0 _ _ _ e1, cell_of_row _ _ 0 _ _ _ e2, cell_of_row _ _ 1 _ _ _ e2, cell_of_row _ _ 2 _ _ _ e2, cell_of_row _ _ 3 _ _ _ e2⟩
    have f3 := HX.out.2.2.1
    have d0 := f3.cell 0
    have d1 := f3.cell 1
    have d2 := f3.cell 2
    have d3 := f3.cell 3
    simp only [List.getElem?_toArray, List.getElem?_cons_zero, List.getElem?_cons_succ] at d0 d1 d2 d3
    have y0 := f3.frozen 0
    have y1 := f3.frozen 1
    have y2 := f3.frozen 2
    have y3 := f3.frozen 3
    have HPB := Lib.hid hpb
    have HRN := Lib.hid hrn
    clear f3 hpb hpx h3x hX hxn hXX hrn
    refine wp_region_T 4 (fun w' : World => Below X.heap.size X w') (by kernel_rfl) (Below.refl _ _).drew (fun hHeld => ?_)
    refine takeT 0 (y := by intro wS hSw; obtain ⟨s0, s1, s2, s3, s4⟩ := HF.out _ hSw; go_simp; (try with_reducible rfl)) (h := ?_)
    (try simp only [pA, pB, pC, pD])
    refine takeT 1 (y := by intro wS hSw; obtain ⟨s0, s1, s2, s3, s4⟩ := HF.out _ hSw; go_simp; (try with_reducible rfl)) (h := ?_)
    (try simp only [pA, pB, pC, pD])
    refine anyT 2 (h := ?_)
    (try simp only [pA, pB, pC, pD])
    refine anyT 3 (h := ?_)
    (try simp only [pA, pB, pC, pD])
    refine wpAnyT_ready (rs := [4]) (by kernel_rfl) (by simp) ?_
    refine AllReadyT.cons (o := ?oB5) ?hB5 ?kB5 AllReadyT.nil
    case hB5 => (simp only [List.getElem?_toArray, List.getElem?_cons_zero, List.getElem?_cons_succ]; rfl)
    case kB5 =>
      intro K hK
      go_simp
      refine hK.out _ _ (no_more (by kernel_rfl)) ?_
      clear hK K
      (try simp only [pA, pB, pC, pD])
      refine anyT 5 (S := by exact no_more (by kernel_rfl)) (h := ?_)
      (try simp only [pA, pB, pC, pD])
      refine wpAnyT_done (by kernel_rfl) ?_ _
      go_wp2
      refine bodyPost_ret (v := .tuple #[.slice a n c, .agg #[.int .i64 0, .int .i64 0, .int .i64 0, .int .i64 0], .int .i64 0]) (by simp [results, Tryz.results19, go_sem, d0, d1, d2, d3]) rfl ?_
      have hw1 : w.heap.size ≤ rn := by rw [HRN.out]; omega
      have hBX : Below w.heap.size w X := HK.out.1.trans (HX.out.1.mono hw1)
      have hBF := ((((hBX.setCell (p := ⟨w.heap.size + 1 + 1 + 1, 0, none⟩) (by show w.heap.size ≤ w.heap.size + 1 + 1 + 1; omega) (.int .i64 0)).setCell (p := ⟨w.heap.size + 1 + 1 + 1, 1, none⟩) (by show w.heap.size ≤ w.heap.size + 1 + 1 + 1; omega) (.int .i64 0)).setCell (p := ⟨w.heap.size + 1 + 1 + 1, 2, none⟩) (by show w.heap.size ≤ w.heap.size + 1 + 1 + 1; omega) (.int .i64 0)).setCell (p := ⟨w.heap.size + 1 + 1 + 1, 3, none⟩) (by show w.heap.size ≤ w.heap.size + 1 + 1 + 1; omega) (.int .i64 0)).drew
      refine ⟨hBF, _, rfl, own_keep (ownsRow_below hrow (HRN.out ▸ HX.out.1)) fun g cur hg hh => ?_⟩
      have hne : g ≠ w.heap.size + 1 + 1 + 1 := fun e => Blk.ne_ (t := 26) hh HX.out.2.2.1 (by decide) e
      exact (Below.heap_setCell _ _ _ _ hne).trans ((Below.heap_setCell _ _ _ _ hne).trans ((Below.heap_setCell _ _ _ _ hne).trans (Below.heap_setCell _ _ _ _ hne)))
  | error f =>
    obtain ⟨rfl, hpb⟩ := hR
    have lpb := hpb.lt
    have hX := bx (w := w1) (.cells #[.int .i64 f.offset, .int .i64 f.format, .int .i64 f.field, .int .i64 f.reason] 40)
    have hxn := Blk.new w1 40 #[.int .i64 f.offset, .int .i64 f.format, .int .i64 f.field, .int .i64 f.reason]
    obtain ⟨rn, hrn⟩ : ∃ rn, rn = w1.heap.size := ⟨_, rfl⟩
    have hpx := (hX.block _ lpb).trans hpb
    have h3x := (hX.block _ HK.out.2.lt).trans HK.out.2
    go_wp2_with fail
    generalize hXX : w1.alloc (.cells #[.int .i64 f.offset, .int .i64 f.format, .int .i64 f.field, .int .i64 f.reason] 40) = X at *
    rw [← hrn] at hxn hX ⊢
    have HX := Lib.hid (And.intro hX (And.intro hxn (And.intro (show Blk X (w.heap.size + 1 + 1 + 1) 40 #[.int .i64 0, .int .i64 0, .int .i64 0, .int .i64 0] from h3x) (show Blk X (w.heap.size + 1 + 1 + 1 + 1) 38 #[.slice none 0 0] from hpx))))
    have HF : Hid (∀ W', Below X.heap.size X W' → W'.cell? ⟨w.heap.size + 1 + 1 + 1 + 1, 0, none⟩ = some (.slice none 0 0) ∧ W'.cell? ⟨rn, 0, none⟩ = some (.int .i64 f.offset) ∧ W'.cell? ⟨rn, 1, none⟩ = some (.int .i64 f.format) ∧ W'.cell? ⟨rn, 2, none⟩ = some (.int .i64 f.field) ∧ W'.cell? ⟨rn, 3, none⟩ = some (.int .i64 f.reason)) := Lib.hid fun W' hb => by
      have e1 := (hb.block _ HX.out.2.2.2.lt).trans HX.out.2.2.2
      have e2 := (hb.block _ HX.out.2.1.lt).trans HX.out.2.1
      exact ⟨cell_of_row _ _ 0 _ _ _ e1, cell_of_row _ _ 0 _ _ _ e2, cell_of_row _ _ 1 _ _ _ e2, cell_of_row _ _ 2 _ _ _ e2, cell_of_row _ _ 3 _ _ _ e2⟩
    have f3 := HX.out.2.2.1
    have d0 := f3.cell 0
    have d1 := f3.cell 1
    have d2 := f3.cell 2
    have d3 := f3.cell 3
    simp only [List.getElem?_toArray, List.getElem?_cons_zero, List.getElem?_cons_succ] at d0 d1 d2 d3
    have y0 := f3.frozen 0
    have y1 := f3.frozen 1
    have y2 := f3.frozen 2
    have y3 := f3.frozen 3
    have HPB := Lib.hid hpb
    have HRN := Lib.hid hrn
    clear f3 hpb hpx h3x hX hxn hXX hrn
    refine wp_region_T 4 (fun w' : World => Below X.heap.size X w') (by kernel_rfl) (Below.refl _ _).drew (fun hHeld => ?_)
    refine takeT 0 (y := by intro wS hSw; obtain ⟨s0, s1, s2, s3, s4⟩ := HF.out _ hSw; go_simp; (try with_reducible rfl)) (h := ?_)
    (try simp only [pA, pB, pC, pD])
    refine takeT 1 (y := by intro wS hSw; obtain ⟨s0, s1, s2, s3, s4⟩ := HF.out _ hSw; go_simp; (try with_reducible rfl)) (h := ?_)
    (try simp only [pA, pB, pC, pD])
    refine anyT 2 (h := ?_)
    (try simp only [pA, pB, pC, pD])
    refine anyT 3 (h := ?_)
    (try simp only [pA, pB, pC, pD])
    refine wpAnyT_ready (rs := [4]) (by kernel_rfl) (by simp) ?_
    refine AllReadyT.cons (o := ?oB11) ?hB11 ?kB11 AllReadyT.nil
    case hB11 => (simp only [List.getElem?_toArray, List.getElem?_cons_zero, List.getElem?_cons_succ]; rfl)
    case kB11 =>
      intro K hK
      go_simp
      refine hK.out _ _ (no_more (by kernel_rfl)) ?_
      clear hK K
      (try simp only [pA, pB, pC, pD])
      refine anyT 5 (S := by exact no_more (by kernel_rfl)) (h := ?_)
      (try simp only [pA, pB, pC, pD])
      refine wpAnyT_done (by kernel_rfl) ?_ _
      go_wp2
      refine bodyPost_ret (v := .tuple #[.slice none 0 0, .agg #[.int .i64 f.offset, .int .i64 f.format, .int .i64 f.field, .int .i64 f.reason], .int .i64 50]) (by simp [results, Tryz.results19, go_sem, d0, d1, d2, d3]) rfl ?_
      have hw1 : w.heap.size ≤ rn := by rw [HRN.out]; omega
      have hBX : Below w.heap.size w X := HK.out.1.trans (HX.out.1.mono hw1)
      have hBF := ((((hBX.setCell (p := ⟨w.heap.size + 1 + 1 + 1, 0, none⟩) (by show w.heap.size ≤ w.heap.size + 1 + 1 + 1; omega) (.int .i64 f.offset)).setCell (p := ⟨w.heap.size + 1 + 1 + 1, 1, none⟩) (by show w.heap.size ≤ w.heap.size + 1 + 1 + 1; omega) (.int .i64 f.format)).setCell (p := ⟨w.heap.size + 1 + 1 + 1, 2, none⟩) (by show w.heap.size ≤ w.heap.size + 1 + 1 + 1; omega) (.int .i64 f.field)).setCell (p := ⟨w.heap.size + 1 + 1 + 1, 3, none⟩) (by show w.heap.size ≤ w.heap.size + 1 + 1 + 1; omega) (.int .i64 f.reason)).drew
      exact ⟨hBF, rfl⟩
end RecV
section WrU
open Go.RowKit Fx Rec Go.Maps

/-- What comes of the function in Write. -/
def W1 (w : World) (pb : Nat) (r : Option ByteArray) (e : Ending) (w' : World) : Prop :=
  Kept (fun k => k < w.heap.size ∧ k ≠ pb) w w' ∧ match r with
  | some s => e = .returned (.tuple #[]) ∧ Blk w' pb 9 #[.string s]
  | none => e = Stops zRf ∧ Kept (· < w.heap.size) w w'
set_option maxRecDepth 20000 in
set_option maxHeartbeats 4000000 in
theorem write1_any (lb vb ib pb : Nat) (v vv : Value) (L : List Fm) (id : Int) (vals : List ByteArray) (er : Addr) (w : World) (hl : Blk w lb 23 #[v]) (hs : Blk w vb 34 #[vv]) (hi : Blk w ib 3 #[.int .i64 id]) (hp : Blk w pb 9 #[.string ByteArray.empty])
    (hE : ErrAt w er) (hV : FmsAt (· < w.heap.size) w v L) (hI : IntsL L) (hS : StrsV w vv vals) (hO : ∀ b, vv.ownBlock = some b → vals ≠ [] → b < w.heap.size) (hsh : Short vals) :
    Calls Tryz.prog 47 #[ptr lb, ptr vb, ptr ib, ptr pb] w fun e w' => W1 w pb (writ L id vals) e w' := by
  have c0 := hl.cell 0
  have c1 := hs.cell 0
  have c2 := hi.cell 0
  simp only [List.getElem?_toArray, List.getElem?_cons_zero] at c0 c1 c2
  have HF : Hid (∀ W, Kept (· < w.heap.size) w W → W.cell? ⟨lb, 0, none⟩ = some v ∧ W.cell? ⟨vb, 0, none⟩ = some vv ∧ W.cell? ⟨ib, 0, none⟩ = some (.int .i64 id)) := Lib.hid fun W hk =>
    ⟨(hk.cell (p := ⟨lb, 0, none⟩) hl.lt).trans c0, (hk.cell (p := ⟨vb, 0, none⟩) hs.lt).trans c1, (hk.cell (p := ⟨ib, 0, none⟩) hi.lt).trans c2⟩
  have HP := Lib.hid (And.intro hp hp.lt)
  have HSH := Lib.hid hsh
  obtain ⟨RR, hRR⟩ : ∃ RR, RR = writ L id vals := ⟨_, rfl⟩
  rw [← hRR]
  obtain ⟨va, vc, rfl, -⟩ := hV.slice2
  have hE' := hE.below (Below.refl _ w).drew
  have hV' : FmsAt (· < w.drew.heap.size) w.drew (.slice va L.length vc) L := hV.kept (Kept.refl _ _).drew
  have hS' : StrsV w.drew vv vals := hS.step fun _ _ _ => rfl
  obtain ⟨ua, uc, rfl, -⟩ := hS
  by_cases hok : vd L = true
  · have HNR := Lib.hid (newWriter_yes _ _ L vals er w.drew w.drew.heap.size (Nat.le_refl _) hE' hV' hI hok hS' hO)
    have HRW := Lib.hid (show RR = wwhole L id vals by rw [hRR, writ, if_pos hok])
    clear hl hs hi hp hE hV hI hE' hV' c0 c1 c2 hRR hok hS' hO hsh
    cases hw : wwhole L id vals with
    | none =>
      have HRR := Lib.hid hw
      have HNO : Hid (∀ w', Kept (· < w.heap.size) w w' → W1 w pb RR (Stops zRf) w') := Lib.hid fun w' hk => ⟨hk.mono fun k h => h.1, by rw [HRW.out, HRR.out]; exact ⟨rfl, hk⟩⟩
      clear hw
      go_enter Tryz.func47, Tryz.ntmps47
      go_wp2_with fail
      refine wp_region_T 5 (fun w' : World => Kept (· < w.heap.size) w w') (by kernel_rfl) (Kept.refl _ _).drew (fun hHeld => ?_)
      refine takeT 0 (y := by intro wS hSw; obtain ⟨s0, s1, s2⟩ := HF.out _ hSw; go_simp; (try with_reducible rfl)) (h := ?_)
      (try simp only [pA, pB, pC, pD])
      refine takeT 1 (y := by intro wS hSw; obtain ⟨s0, s1, s2⟩ := HF.out _ hSw; go_simp; (try with_reducible rfl)) (h := ?_)
      (try simp only [pA, pB, pC, pD])
      refine takeT 3 (y := by intro wS hSw; obtain ⟨s0, s1, s2⟩ := HF.out _ hSw; go_simp; (try with_reducible rfl)) (h := ?_)
      (try simp only [pA, pB, pC, pD])
      refine wpAnyT_ready (rs := [2]) (by kernel_rfl) (by simp) ?_
      refine AllReadyT.cons (o := ?oB4) ?hB4 ?kB4 AllReadyT.nil
      case hB4 => (simp only [List.getElem?_toArray, List.getElem?_cons_zero, List.getElem?_cons_succ]; rfl)
      case kB4 =>
        intro K hK
        go_simp
        refine HNR.out.mono ?_
        rintro e w5 ⟨o, rfl, hB5, hR5, hS5⟩
        have hk5 : Kept (· < w.heap.size) w w5 := (Kept.refl _ _).drew.trans (Kept.of_below hB5 fun _ h => h)
        refine hK.out _ _ (fun _ => hk5) ?_
        clear hK K
        (try simp only [pA, pB, pC, pD])
        have hW := wwhole_any hR5 HSH.out id
        rw [HRR.out] at hW
        refine wpAnyT_ready (rs := [4]) (by kernel_rfl) (by simp) ?_
        refine AllReadyT.cons (o := ?oB5) ?hB5 ?kB5 AllReadyT.nil
        case hB5 => (simp only [List.getElem?_toArray, List.getElem?_cons_zero, List.getElem?_cons_succ]; rfl)
        case kB5 =>
          intro K hK
          go_simp
          refine hW.mono ?_
          rintro e w6 ⟨hs6, rfl⟩
          exact ⟨rfl, HNO.out _ (hk5.trans (hs6.base.mono fun k hk => ⟨hS5 k hk, fun e => e⟩))⟩
    | some s =>
      have HRR := Lib.hid hw
      rw [show RR = some s by rw [HRW.out, hw]]
      clear hw
      go_enter Tryz.func47, Tryz.ntmps47
      go_wp2_with fail
      refine wp_region_T 5 (fun w' : World => Kept (· < w.heap.size) w w') (by kernel_rfl) (Kept.refl _ _).drew (fun hHeld => ?_)
      refine takeT 0 (y := by intro wS hSw; obtain ⟨s0, s1, s2⟩ := HF.out _ hSw; go_simp; (try with_reducible rfl)) (h := ?_)
      (try simp only [pA, pB, pC, pD])
      refine takeT 1 (y := by intro wS hSw; obtain ⟨s0, s1, s2⟩ := HF.out _ hSw; go_simp; (try with_reducible rfl)) (h := ?_)
      (try simp only [pA, pB, pC, pD])
      refine takeT 3 (y := by intro wS hSw; obtain ⟨s0, s1, s2⟩ := HF.out _ hSw; go_simp; (try with_reducible rfl)) (h := ?_)
      (try simp only [pA, pB, pC, pD])
      refine wpAnyT_ready (rs := [2]) (by kernel_rfl) (by simp) ?_
      refine AllReadyT.cons (o := ?oB9) ?hB9 ?kB9 AllReadyT.nil
      case hB9 => (simp only [List.getElem?_toArray, List.getElem?_cons_zero, List.getElem?_cons_succ]; rfl)
      case kB9 =>
        intro K hK
        go_simp
        refine HNR.out.mono ?_
        rintro e w5 ⟨o, rfl, hB5, hR5, hS5⟩
        have hk5 : Kept (· < w.heap.size) w w5 := (Kept.refl _ _).drew.trans (Kept.of_below hB5 fun _ h => h)
        refine hK.out _ _ (fun _ => hk5) ?_
        clear hK K
        (try simp only [pA, pB, pC, pD])
        have hW := wwhole_any hR5 HSH.out id
        rw [HRR.out] at hW
        refine wpAnyT_ready (rs := [4]) (by kernel_rfl) (by simp) ?_
        refine AllReadyT.cons (o := ?oB10) ?hB10 ?kB10 AllReadyT.nil
        case hB10 => (simp only [List.getElem?_toArray, List.getElem?_cons_zero, List.getElem?_cons_succ]; rfl)
        case kB10 =>
          intro K hK
          go_simp
          refine hW.mono ?_
          rintro e w6 ⟨hs6, rfl⟩
          have hk6' : Kept (· < w.heap.size) w w6 := hk5.trans (hs6.base.mono fun k hk => ⟨hS5 k hk, fun e => e⟩)
          refine hK.out _ _ (fun _ => hk6') ?_
          clear hK K
          (try simp only [pA, pB, pC, pD])
          have hpb : Blk w6 pb 9 #[.string ByteArray.empty] := (hk6'.block pb HP.out.2).trans HP.out.1
          have c3 := hpb.cell 0
          have y3 := hpb.frozen 0
          simp only [List.getElem?_toArray, List.getElem?_cons_zero] at c3
          have HE := Lib.hid (And.intro hk6' hpb)
          clear hk5 hs6 hk6' hpb hW hB5 hR5 hS5
          refine wpAnyT_ready (rs := [5]) (by kernel_rfl) (by simp) ?_
          refine AllReadyT.cons (o := ?oB11) ?hB11 ?kB11 AllReadyT.nil
          case hB11 => (simp only [List.getElem?_toArray, List.getElem?_cons_zero, List.getElem?_cons_succ]; rfl)
          case kB11 =>
            intro K hK
            go_simp
            refine hK.out _ _ (no_more (by kernel_rfl)) ?_
            clear hK K
            (try simp only [pA, pB, pC, pD])
            refine wpAnyT_done (by kernel_rfl) ?_ _
            go_wp2
            first | go_end0 | skip
            have hkk : Kept (fun k => k < w.heap.size ∧ k ≠ pb) w w6 := HE.out.1.mono fun k hk => hk.1
            exact ⟨hkk.setCell (p := ⟨pb, 0, none⟩) (fun h => h.2 rfl) _, rfl, HE.out.2.set_ 0 _⟩
  · have hb : vd L = false := by simpa using hok
    have HNR := Lib.hid (newWriter_no _ (.slice ua vals.length uc) L er w.drew hE' hV' hI hb)
    have HNO : Hid (∀ w', Kept (· < w.heap.size) w w' → W1 w pb RR (Stops zRf) w') := Lib.hid fun w' hk => ⟨hk.mono fun k h => h.1, by rw [hRR, writ, if_neg hok]; exact ⟨rfl, hk⟩⟩
    clear hl hs hi hp hE hV hI hE' hV' c0 c1 c2 hRR hok hb hS' hO hsh
    go_enter Tryz.func47, Tryz.ntmps47
    go_wp2_with fail
    refine wp_region_T 5 (fun w' : World => Kept (· < w.heap.size) w w') (by kernel_rfl) (Kept.refl _ _).drew (fun hHeld => ?_)
    refine takeT 0 (y := by intro wS hSw; obtain ⟨s0, s1, s2⟩ := HF.out _ hSw; go_simp; (try with_reducible rfl)) (h := ?_)
    (try simp only [pA, pB, pC, pD])
    refine takeT 1 (y := by intro wS hSw; obtain ⟨s0, s1, s2⟩ := HF.out _ hSw; go_simp; (try with_reducible rfl)) (h := ?_)
    (try simp only [pA, pB, pC, pD])
    refine takeT 3 (y := by intro wS hSw; obtain ⟨s0, s1, s2⟩ := HF.out _ hSw; go_simp; (try with_reducible rfl)) (h := ?_)
    (try simp only [pA, pB, pC, pD])
    refine wpAnyT_ready (rs := [2]) (by kernel_rfl) (by simp) ?_
    refine AllReadyT.cons (o := ?oB15) ?hB15 ?kB15 AllReadyT.nil
    case hB15 => (simp only [List.getElem?_toArray, List.getElem?_cons_zero, List.getElem?_cons_succ]; rfl)
    case kB15 =>
      intro K hK
      go_simp
      refine HNR.out.mono ?_
      rintro e w5 ⟨rfl, hB5⟩
      exact ⟨rfl, HNO.out _ ((Kept.refl _ _).drew.trans (Kept.of_below hB5 fun _ h => h))⟩

/-- What Write lays ahead of its call. -/
abbrev wW (w : World) (v : Value) (id : Int) (vv : Value) : World :=
  (((w.alloc (.cells #[v] 23)).alloc (.cells #[.int .i64 id] 3)).alloc (.cells #[vv] 34)).alloc (.cells #[.string ByteArray.empty] 9)
theorem enters_47 : Enters 47 := fun args w => by simp [callFunc, Tryz.func47, Tryz.f47]
/-- What comes of attempt in Write. -/
def W2 (W : World) (pb : Nat) (r : Option ByteArray) (e : Ending) (w' : World) : Prop :=
  Kept (fun k => k < W.heap.size ∧ k ≠ pb) W w' ∧ match r with
  | some s => e = .returned (.tuple #[.agg #[.int .i64 0, .int .i64 0, .int .i64 0, .int .i64 0], .int .i64 0]) ∧ Blk w' pb 9 #[.string s]
  | none => (∃ f : Rf, e = .returned (.tuple #[.agg #[.int .i64 f.offset, .int .i64 f.format, .int .i64 f.field, .int .i64 f.reason], .int .i64 50])) ∧ Blk w' pb 9 #[.string ByteArray.empty]
theorem write_att (v vv : Value) (L : List Fm) (id : Int) (vals : List ByteArray) (er : Addr) (w : World) (hE : ErrAt w er) (hT : ErrTy w) (hV : FmsAt (· < w.heap.size) w v L) (hI : IntsL L) (hS : StrsV w vv vals) (hO : ∀ b, vv.ownBlock = some b → vals ≠ [] → b < w.heap.size) (hsh : Short vals) :
    Calls Tryz.prog 37 #[.func (.func 47) #[] #[ptr w.heap.size, ptr (w.heap.size + 2), ptr (w.heap.size + 1), ptr (w.heap.size + 3)]] (wW w v id vv) fun e w' => W2 (wW w v id vv) (w.heap.size + 3) (writ L id vals) e w' := by
  obtain ⟨W, hW⟩ : ∃ W, W = wW w v id vv := ⟨_, rfl⟩
  have hsz : W.heap.size = w.heap.size + 4 := by rw [hW]; simp [wW]
  have hB : Below w.heap.size w W := by
    rw [hW]
    exact ((((Below.refl _ _).alloc (Nat.le_refl _) _).alloc (by simp) _).alloc (by simp; omega) _).alloc (by simp; omega) _
  have b0 : Blk W w.heap.size 23 #[v] := by rw [hW]; exact (((Blk.new w _ _).alloc_ _).alloc_ _).alloc_ _
  have b1 : Blk W (w.heap.size + 1) 3 #[.int .i64 id] := by
    rw [hW]
    have := Blk.new (w.alloc (.cells #[v] 23)) 3 #[.int .i64 id]
    exact ((show Blk _ (w.heap.size + 1) _ _ by simpa using this).alloc_ _).alloc_ _
  have b2 : Blk W (w.heap.size + 2) 34 #[vv] := by
    rw [hW]
    have := Blk.new ((w.alloc (.cells #[v] 23)).alloc (.cells #[.int .i64 id] 3)) 34 #[vv]
    exact (show Blk _ (w.heap.size + 2) _ _ by simpa using this).alloc_ _
  have b3 : Blk W (w.heap.size + 3) 9 #[.string ByteArray.empty] := by
    rw [hW]
    have := Blk.new (((w.alloc (.cells #[v] 23)).alloc (.cells #[.int .i64 id] 3)).alloc (.cells #[vv] 34)) 9 #[.string ByteArray.empty]
    simpa [wW] using this
  rw [← hW]
  have hBW : Below W.heap.size W (attW W) := ((Below.refl _ _).alloc (Nat.le_refl _) _).alloc (by simp) _
  have hBa : Below w.heap.size w (attW W) := hB.trans (hBW.mono (by omega))
  have hasz : (attW W).heap.size = W.heap.size + 2 := by simp
  have hm := write1_any w.heap.size (w.heap.size + 2) (w.heap.size + 1) (w.heap.size + 3) v vv L id vals er (attW W) ((hBW.block _ (by omega)).trans b0) ((hBW.block _ (by omega)).trans b2) ((hBW.block _ (by omega)).trans b1) ((hBW.block _ (by omega)).trans b3) (hE.below hBa)
    ((hV.kept (Kept.of_below hBa fun _ h => h)).mono fun k hk => by show k < _; have : k < w.heap.size := hk; omega) hI (hS.step fun b h1 h2 => hBa.block b (hO b h1 h2)) (fun b h1 h2 => by have := hO b h1 h2; omega) hsh
  have hl0 : 0 < w.heap.size := World.block_lt_of_cell? (h := hT)
  obtain ⟨r, hr⟩ : ∃ r, r = writ L id vals := ⟨_, rfl⟩
  rw [← hr] at hm ⊢
  have ha := attempt_any 47 #[ptr w.heap.size, ptr (w.heap.size + 2), ptr (w.heap.size + 1), ptr (w.heap.size + 3)] W
    (fun w2 => ∃ s, r = some s ∧ Kept (fun k => k < (attW W).heap.size ∧ k ≠ w.heap.size + 3) (attW W) w2 ∧ Blk w2 (w.heap.size + 3) 9 #[.string s])
    (fun _ _ _ _ w2 => r = none ∧ Kept (· < (attW W).heap.size) (attW W) w2) enters_47 (hT.below hB)
    (hm.mono fun e w2 h => ⟨by
      obtain ⟨hk, h⟩ := h
      cases r with
      | some s => exact .inl ⟨h.1, s, rfl, hk, h.2⟩
      | none => exact .inr ⟨_, _, _, _, h.1, rfl, h.2⟩, h.1.mono fun k hk => by
      rcases hk with ⟨h1, h2⟩ | h1
      · exact ⟨by omega, by omega⟩
      · unfold attK at h1; omega⟩)
  refine ha.mono fun e w' h => ?_
  rcases h with ⟨he, w2, ⟨s, hr, hk, hb⟩, hk2⟩ | ⟨a, b, c, d, he, w2, ⟨hr, hk⟩, hk2⟩
  · have hs2 := hk.size
    have k1 : Kept (fun k => k < W.heap.size ∧ k ≠ w.heap.size + 3) W w' :=
      (Kept.of_below hBW fun k hk => hk.1).trans ((hk.mono fun k hk => ⟨by omega, hk.2⟩).trans (hk2.mono fun k hk => ⟨by omega, by unfold attK; omega⟩))
    refine ⟨k1, ?_⟩
    rw [hr]
    exact ⟨he, (hk2.block _ ⟨by omega, by unfold attK; omega⟩).trans hb⟩
  · have hs2 := hk.size
    have k1 : Kept (fun k => k < W.heap.size) W w' :=
      (Kept.of_below hBW fun k hk => hk).trans ((hk.mono fun k hk => by show k < _; have : k < W.heap.size := hk; omega).trans (hk2.mono fun k hk => ⟨by have : k < W.heap.size := hk; omega, by have : k < W.heap.size := hk; unfold attK; omega⟩))
    refine ⟨k1.mono fun k hk => hk.1, ?_⟩
    rw [hr]
    exact ⟨⟨⟨a, b, c, d⟩, he⟩, (k1.block _ (by show _ < _; omega)).trans b3⟩
set_option maxRecDepth 20000 in
set_option maxHeartbeats 4000000 in
theorem Write_any (v vv : Value) (L : List Fm) (id : Int) (vals : List ByteArray) (er : Addr) (w : World) (hE : ErrAt w er) (hT : ErrTy w) (hV : FmsAt (· < w.heap.size) w v L) (hI : IntsL L) (hS : StrsV w vv vals) (hO : ∀ b, vv.ownBlock = some b → vals ≠ [] → b < w.heap.size) (hsh : Short vals) :
    Calls Tryz.prog 27 #[v, .int .i64 id, vv] w fun e w' => Below w.heap.size w w' ∧ e = match writ L id vals with
      | some s => .returned (.tuple #[.string s, .int .i64 0])
      | none => .returned (.tuple #[.string ByteArray.empty, .int .i64 50]) := by
  have hmf : ∀ (fn : Fn) (first cap : Array Value) (w : World), (Instr.makeFunc fn first cap).run Tryz.prog w = .ok (.func fn first cap) w := fun _ _ _ _ => rfl
  obtain ⟨va, vc, rfl, -⟩ := hV.slice2
  obtain ⟨ua, uc, huu, hu⟩ := hS
  have hS' : StrsV w (.slice ua vals.length uc) vals := ⟨ua, uc, rfl, hu⟩
  subst huu
  obtain ⟨W, hW⟩ : ∃ W, W = wW w (.slice va L.length vc) id (.slice ua vals.length uc) := ⟨_, rfl⟩
  have hsz : W.heap.size = w.heap.size + 4 := by rw [hW]; simp [wW]
  have hB : Below w.heap.size w W := by
    rw [hW]
    exact ((((Below.refl _ _).alloc (Nat.le_refl _) _).alloc (by simp) _).alloc (by simp; omega) _).alloc (by simp; omega) _
  have HA := Lib.hid (write_att _ _ L id vals er w hE hT hV hI hS' hO hsh)
  rw [← hW] at HA
  have HB := Lib.hid (And.intro hB hsz)
  clear hE hT hV hI hB hsz hu hS' hO hsh
  obtain ⟨r, hr⟩ : ∃ r, r = writ L id vals := ⟨_, rfl⟩
  rw [← hr] at HA ⊢
  clear hr
  obtain ⟨q, hq⟩ : ∃ q, q = vals.length := ⟨_, rfl⟩
  rw [← hq] at hW ⊢
  clear hq
  go_enter Tryz.func27, Tryz.ntmps27
  go_wp2_with fail
  refine (show Calls Tryz.prog 37 #[.func (.func 47) #[] #[ptr w.heap.size, ptr (w.heap.size + 1 + 1), ptr (w.heap.size + 1), ptr (w.heap.size + 1 + 1 + 1)]] (wW w (.slice va L.length vc) id (.slice ua q uc)) _ from by rw [← hW]; exact HA.out).mono ?_
  rintro e w1 ⟨hk, hR⟩
  have hB1 : Below w.heap.size w w1 := HB.out.1.trans (hk.below fun k hk => ⟨by rw [HB.out.2]; omega, by omega⟩)
  have hs1 : w.heap.size + 4 ≤ w1.heap.size := by have := hk.size; rw [HB.out.2] at this; exact this
  have HK := Lib.hid hB1
  clear hk hB1 HA hW
  cases r with
  | some s =>
    obtain ⟨rfl, hpb⟩ := hR
    have c3 := hpb.cell 0
    simp only [List.getElem?_toArray, List.getElem?_cons_zero] at c3
    have lpb : w.heap.size + 1 + 1 + 1 < w1.heap.size := by omega
    have c3' : w1.cell? ⟨w.heap.size + 1 + 1 + 1, 0, none⟩ = some (.string s) := c3
    clear hpb c3
    go_wp2
    go_ret2
    exact ⟨HK.out.trans ((bx _).mono (by omega)), rfl⟩
  | none =>
    obtain ⟨⟨f, rfl⟩, hpb⟩ := hR
    have c3 := hpb.cell 0
    simp only [List.getElem?_toArray, List.getElem?_cons_zero] at c3
    have lpb : w.heap.size + 1 + 1 + 1 < w1.heap.size := by omega
    have c3' : w1.cell? ⟨w.heap.size + 1 + 1 + 1, 0, none⟩ = some (.string ByteArray.empty) := c3
    clear hpb c3
    go_wp2
    go_ret2
    exact ⟨HK.out.trans ((bx _).mono (by omega)), rfl⟩
end WrU
section RecW
open Go.RowKit Fx Rec Go.Maps

/-- What is made behind is protected as well. -/
theorem Rd.widen {w w' : World} {P : Nat → Prop} {o : Ro} {rb : Nat} {L : List Fm} {s : ByteArray} {ps : List Pt} (h : Rd w P o rb L s ps) (hb : Below w.heap.size w w') : Rd w' (fun k => P k ∨ (w.heap.size ≤ k ∧ k < w'.heap.size)) o rb L s ps := by
  have h' := h.below hb
  obtain ⟨hf, vp, k, vs, hm⟩ := h
  obtain ⟨hf', vp', k', vs', hm'⟩ := h'
  refine ⟨{ hf' with pin := ?_, pa := .inl hf.pa, pt := .inl hf.pt, pk := .inl hf.pk, pf := .inl hf.pf, pu := fun i b hi hb => .inl (hf.pu i b hi hb), nr := ?_, ns := ?_ }, vp, k, vs, ⟨(hb.block _ hm.blk.lt).trans hm.blk, hm.sums.below hb, hm.kle, ownsRow_below hm.row hb, hm.len, fun g hg => ?_, fun g hg => ?_⟩⟩
  · rintro q (hq | hq)
    · exact hf'.pin q hq
    · exact hq.2
  · rintro (hq | hq)
    · exact hf.nr hq
    · have := hm.blk.lt; omega
  · rintro (hq | hq)
    · exact hf.ns hq
    · have := hm.sums.sb.lt; omega
  · rintro (hq | hq)
    · exact hm.nS g hg hq
    · have := own_lt hm.sums.row hg; omega
  · rintro (hq | hq)
    · exact hm.nP g hg hq
    · have := own_lt hm.row hg; omega
/-- Blocks that others hold are written. -/
theorem Rd.frame {w w' : World} {P X : Nat → Prop} {o : Ro} {rb : Nat} {L : List Fm} {s : ByteArray} {ps : List Pt} (h : Rd w P o rb L s ps) (hP : ∀ k, X k → P k) (h1 : ¬ X o.ab) (h2 : ¬ X o.tb) (h3 : ¬ X o.kb) (h4 : ¬ X o.fb)
    (hu : ∀ i b, i < L.length → (o.us.getD i undef).ownBlock = some b → ¬ X b) (hk : Kept (fun k => k < w.heap.size ∧ ¬ X k) w w') : Rd w' P o rb L s ps := by
  obtain ⟨hf, vp, k, vs, hm⟩ := h
  have e : ∀ q, q < w.heap.size → ¬ X q → w'.heap[q]? = w.heap[q]? := fun q a b => hk.block q ⟨a, b⟩
  refine ⟨{ hf with ab := (e _ hf.ab.lt h1).trans hf.ab, tb := (e _ hf.tb.lt h2).trans hf.tb, kinds := hf.kinds.of_block (e _ hf.kinds.lt h3), fields := hf.fields.of_block (e _ hf.fields.lt h4), flds := fun i hi => (hf.flds i hi).keep hk.size fun b hb => e b (hf.pin b (hf.pu i b hi hb)) (hu i b hi hb), pin := fun q hq => Nat.lt_of_lt_of_le (hf.pin q hq) hk.size }, vp, k, vs, { hm with blk := (e _ hm.blk.lt fun hx => hf.nr (hP _ hx)).trans hm.blk, sums := hm.sums.keep (e _ hm.sums.sb.lt fun hx => hf.ns (hP _ hx)) (e _ hf.ab.lt h1) fun g hg => e g (own_lt hm.sums.row hg) fun hx => hm.nS g hg (hP _ hx), row := own_keep hm.row fun g cur hg hh => e g (own_lt hm.row hg) fun hx => hm.nP g hg (hP _ hx) }⟩
theorem MapE.ne_cells {w : World} {mb : Nat} {es : List (Int × Value)} (h : MapE w mb es) {g : Nat} {t : TypeId} {cs : Array Value} (hg : Blk w g t cs) : mb ≠ g := by
  rintro rfl
  obtain ⟨a, c, h1, _⟩ := h
  unfold Blk at hg
  rw [h1] at hg
  cases hg
/-- A block that another holds is written. -/
theorem Rd.poke {w w' : World} {P : Nat → Prop} {o : Ro} {rb : Nat} {L : List Fm} {s : ByteArray} {ps : List Pt} (h : Rd w P o rb L s ps) {g : Nat} {t : TypeId} {cs : Array Value} (hg : Blk w g t cs) (hP : P g) (t1 : t ≠ 114) (t2 : t ≠ 9)
    (hu : ∀ i b, i < L.length → (o.us.getD i undef).ownBlock = some b → b ≠ g) (hk : Kept (fun k => k < w.heap.size ∧ k ≠ g) w w') : Rd w' P o rb L s ps :=
  h.frame (X := (· = g)) (fun _ hk => hk ▸ hP) (fun e => Blk.ne_ hg h.1.ab t1 e.symm) (fun e => Blk.ne_ hg h.1.tb t2 e.symm) (fun e => h.1.kinds.ne_cells hg e) (fun e => h.1.fields.ne_cells hg e) hu hk

/-- Whether a stream is of a format. -/
def isOk : Except Rf (List Pt) → Bool
  | .ok _ => true
  | .error _ => false
def isOf (L : List Fm) (s : ByteArray) (id : Int) : Bool := isOk (whole L s id)
set_option maxRecDepth 20000 in
set_option maxHeartbeats 4000000 in
theorem all11_any (rx fx : Nat) (o : Ro) (rb : Nat) (L : List Fm) (s : ByteArray) (P : Nat → Prop) (ps : List Pt) (id : Int) (u : Value) (w : World) (hr : Blk w rx 81 #[ptr rb]) (hf : Blk w fx 52 #[.int .i64 id, u]) (h : Rd w P o rb L s ps) :
    Calls Tryz.prog 44 #[ptr rx, ptr fx] w fun e w' => (Kept P w w' ∧ ∃ ps', Rd w' P o rb L s ps') ∧ match whole L s id with | .ok _ => e = .returned (.tuple #[]) | .error rf => e = Stops rf := by
  have c0 := hr.cell 0
  have c1 := hf.cell 0
  simp only [List.getElem?_toArray, List.getElem?_cons_zero] at c0 c1
  have hW := whole_any o rb L s P ps id w h
  clear hr hf h
  cases hw : whole L s id with
  | ok qs =>
    rw [hw] at hW
    have HW := Lib.hid hW
    clear hW hw
    go_enter Tryz.func44, Tryz.ntmps44
    go_wp2_with fail
    refine HW.out.mono ?_
    rintro e w1 ⟨hk, vp, rfl, hr, -⟩
    have HK := Lib.hid (And.intro hk hr)
    clear hk hr
    go_wp2
    first | go_end0 | skip
    exact ⟨⟨HK.out.1, qs, HK.out.2⟩, rfl⟩
  | error rf =>
    rw [hw] at hW
    have HW := Lib.hid hW
    clear hW hw
    go_enter Tryz.func44, Tryz.ntmps44
    go_wp2_with fail
    refine HW.out.mono ?_
    rintro e w1 ⟨hk, rfl, hr⟩
    exact ⟨rfl, ⟨hk, hr⟩, rfl⟩
theorem enters_44 : Enters 44 := fun args w => by simp [callFunc, Tryz.func44, Tryz.f44]
/-- The trial of a format. -/
theorem try_any (rx fx : Nat) (o : Ro) (rb : Nat) (L : List Fm) (s : ByteArray) (P : Nat → Prop) (ps : List Pt) (id : Int) (u : Value) (w : World) (hr : Blk w rx 81 #[ptr rb]) (hf : Blk w fx 52 #[.int .i64 id, u]) (h : Rd w P o rb L s ps) (hT : ErrTy w) (pT : P 0) :
    Calls Tryz.prog 37 #[.func (.func 44) #[] #[ptr rx, ptr fx]] w fun e w' => ∃ r n, e = .returned (.tuple #[r, .int .i64 n]) ∧ (∃ a b c d, r = .agg #[.int .i64 a, .int .i64 b, .int .i64 c, .int .i64 d]) ∧ n = (if isOf L s id then 0 else 50) ∧ Kept P w w' ∧ ∃ ps', Rd w' P o rb L s ps' := by
  have hBW : Below w.heap.size w (attW w) := ((Below.refl _ _).alloc (Nat.le_refl _) _).alloc (by simp) _
  have hasz : (attW w).heap.size = w.heap.size + 2 := by simp
  have h2 := h.widen hBW
  have hm := all11_any rx fx o rb L s _ ps id u (attW w) ((hBW.block _ hr.lt).trans hr) ((hBW.block _ hf.lt).trans hf) h2
  obtain ⟨r, hrr⟩ : ∃ r, r = whole L s id := ⟨_, rfl⟩
  have hof : isOf L s id = isOk r := by rw [hrr]; rfl
  rw [← hrr] at hm
  rw [hof]
  have hlt : 0 < w.heap.size := h.1.pin _ pT
  have ha := attempt_any 44 #[ptr rx, ptr fx] w
    (fun w2 => (∃ ps', r = .ok ps') ∧ Kept (fun k => P k ∨ (w.heap.size ≤ k ∧ k < (attW w).heap.size)) (attW w) w2 ∧ ∃ ps', Rd w2 (fun k => P k ∨ (w.heap.size ≤ k ∧ k < (attW w).heap.size)) o rb L s ps')
    (fun a b c d w2 => r = .error ⟨a, b, c, d⟩ ∧ Kept (fun k => P k ∨ (w.heap.size ≤ k ∧ k < (attW w).heap.size)) (attW w) w2 ∧ ∃ ps', Rd w2 (fun k => P k ∨ (w.heap.size ≤ k ∧ k < (attW w).heap.size)) o rb L s ps') enters_44 hT
    (hm.mono fun e w2 h => ⟨by
      obtain ⟨⟨hk, hr2⟩, h⟩ := h
      cases r with
      | ok qs => exact .inl ⟨h, ⟨qs, rfl⟩, hk, hr2⟩
      | error f => exact .inr ⟨f.offset, f.format, f.field, f.reason, h, rfl, hk, hr2⟩, h.1.1.mono fun k hk => by
      rcases hk with ⟨h1, h2⟩ | h1
      · rw [h2]; exact .inl pT
      · unfold attK at h1; exact .inr (by omega)⟩)
  have fin : ∀ w2 w', Kept (fun k => P k ∨ (w.heap.size ≤ k ∧ k < (attW w).heap.size)) (attW w) w2 → (∃ ps', Rd w2 (fun k => P k ∨ (w.heap.size ≤ k ∧ k < (attW w).heap.size)) o rb L s ps') → Kept (fun k => k < w2.heap.size ∧ ¬ attK w k) w2 w' → Kept P w w' ∧ ∃ ps', Rd w' P o rb L s ps' := fun w2 w' hk hr hk2 => by
    obtain ⟨ps', hr⟩ := hr
    have hs2 := hk.size
    have hno : ∀ k, P k → ¬ attK w k := fun k hp ha => by have := h.1.pin k hp; unfold attK at ha; omega
    have k1 : Kept P w w' := (Kept.of_below hBW h.1.pin).trans ((hk.mono fun k hp => .inl hp).trans (hk2.mono fun k hp => ⟨by have := h.1.pin k hp; omega, hno k hp⟩))
    have hr3 : Rd w' _ o rb L s ps' := hr.frame (X := attK w) (fun k hk => .inr (by unfold attK at hk; omega)) (hno _ h.1.pa) (hno _ h.1.pt) (hno _ h.1.pk) (hno _ h.1.pf) (fun i b hi hb => hno b (h.1.pu i b hi hb)) hk2
    exact ⟨k1, ps', h.weak hr3 k1.size fun k hp => .inl hp⟩
  refine ha.mono fun e w' hh => ?_
  rcases hh with ⟨he, w2, ⟨⟨qs, hr⟩, hk, hr2⟩, hk2⟩ | ⟨a, b, c, d, he, w2, ⟨hr, hk, hr2⟩, hk2⟩
  · rw [hr]
    exact ⟨_, _, he, ⟨0, 0, 0, 0, rfl⟩, rfl, fin w2 w' hk hr2 hk2⟩
  · rw [hr]
    exact ⟨_, _, he, ⟨a, b, c, d, rfl⟩, rfl, fin w2 w' hk hr2 hk2⟩
end RecW
section RecX
open Go.RowKit Fx Rec Go.Maps

theorem run_append_oneB (w : World) (B : Nat) (hB : B ≤ w.heap.size) (ty : TypeId) (v : Value) (n : Nat) (xs : List Value) (hown : w.ownsRow B 3 1 v n xs) (hn : n ≤ 1000000) (g : Nat) (x : Int) (hg : w.heap[g]? = some (.cells #[.int .i64 x] 3 (0, 0))) :
    ∃ v' w', (Builtin.append_ #[24, 24] ty #[v, .slice (some ⟨g, 0, none⟩) 1 1]).run Tryz.prog w = .ok v' w' ∧ Grew w w' B 3 1 v v' (n + 1) (xs ++ [.int .i64 x]) := by
  obtain ⟨i0, hi, hz0, hz1, hz2⟩ := info_parts infoInt5
  obtain ⟨v', w', h1, h2, h3, _, h5⟩ := run_append_own_at (P := Tryz.prog) w B 24 ty 3 i0 _ 1 8 Tryz.underlying24 hi hz0 hz1 hz2 rfl (by decide) v n xs hown ⟨g, 0, none⟩ 1 1 [.int .i64 x] rfl
    (fun j u hu => by
      have hadd : (⟨g, 0, none⟩ : Addr).add j = ⟨g, j, none⟩ := by unfold Addr.add; split <;> simp_all
      rw [hadd, cell_of_row w g j _ _ _ hg]; simpa using hu)
    (fun u hu => by simp at hu; subst hu; rfl) (by unfold maxLen; omega) (by omega) hB
  exact ⟨v', w', h1, h2, h3, h5⟩
theorem wpList_append_oneB {ops : Array Oper} {rest : List Oper} {o : Oper} {a : Act} {w : World} {Q : Exit → Act → World → Prop}
    (hg : o.guard = none) (s x : Operand) (hop : o.op = Op.call { callee := Callee.builtin Builtin.append, args := #[s, x], argTypes := #[24, 24] })
    (B : Nat) (hB : B ≤ w.heap.size) (v : Value) (n : Nat) (xs : List Value) (hs : a.eval s = v) (hown : w.ownsRow B 3 1 v n xs) (hn : n ≤ 1000000) (g : Nat) (y : Int) (hx : a.eval x = .slice (some ⟨g, 0, none⟩) 1 1)
    (hb : w.heap[g]? = some (.cells #[.int .i64 y] 3 (0, 0)))
    (hK : ∀ v' w', Grew w w' B 3 1 v v' (n + 1) (xs ++ [.int .i64 y]) → wpList Tryz.prog ops Q rest (a.put o.dst v') w') :
    wpList Tryz.prog ops Q (o :: rest) a w := by
  refine wpList_plain hg fun K' hK' => ?_
  obtain ⟨v', w', hr, h2⟩ := run_append_oneB w B hB o.type v n xs hown hn g y hb
  unfold Oper.wp
  simp [execOp, hop, resolve, invoke, builtin, hs, hx, hr, Result.andThen]
  exact hK' _ _ (hK _ _ h2)

/-- The IDs of the first k formats of which a stream is. -/
def idsTo (L : List Fm) (s : ByteArray) (k : Nat) : List Int := ((L.take k).filter fun f => isOf L s f.id).map (·.id)
def idsV (l : List Int) : List Value := l.map fun (n : Int) => Value.int .i64 n
theorem idsTo_le (L : List Fm) (s : ByteArray) (k : Nat) : (idsTo L s k).length ≤ k := by
  unfold idsTo
  rw [List.length_map]
  have := List.length_filter_le (fun f : Fm => isOf L s f.id) (L.take k)
  rw [List.length_take] at this
  omega
theorem idsTo_succ {L : List Fm} {s : ByteArray} {k : Nat} (hk : k < L.length) : idsTo L s (k + 1) = idsTo L s k ++ (if isOf L s (L.getD k zm).id then [(L.getD k zm).id] else []) := by
  unfold idsTo
  have e : L.take (k + 1) = L.take k ++ [L.getD k zm] := by
    rw [List.take_succ_eq_append_getElem hk]
    simp [List.getD, hk]
  rw [e, List.filter_append, List.map_append]
  congr 1
  generalize L.getD k zm = f
  by_cases h : isOf L s f.id = true
  · rw [if_pos h]; simp [h]
  · rw [if_neg h]; simp [h]
/-- What All's loop keeps. -/
structure AInv (w : World) (ib rx B2 : Nat) (o : Ro) (rb : Nat) (L : List Fm) (s : ByteArray) (k : Nat) (wr : World) (P : Nat → Prop) (ps : List Pt) (vi : Value) : Prop where
  kept : Kept (fun q => q < w.heap.size ∧ q ≠ ib) w wr
  size : B2 ≤ wr.heap.size
  held : ∀ q, Held w.heap.size o q → P q
  rd : Rd wr P o rb L s ps
  rxb : Blk wr rx 81 #[ptr rb]
  prx : P rx
  ibb : Blk wr ib 24 #[vi]
  row : wr.ownsRow B2 3 1 vi (idsTo L s k).length (idsV (idsTo L s k))
  prow : ∀ g, vi.ownBlock = some g → P g
theorem AInv.shape {w : World} {ib rx B2 : Nat} {o : Ro} {rb : Nat} {L : List Fm} {s : ByteArray} {k : Nat} {wr : World} {P : Nat → Prop} {ps : List Pt} {vi : Value} (h : AInv w ib rx B2 o rb L s k wr P ps vi) : ∃ a n c, vi = .slice a n c := by
  rcases h.row.2 with ⟨rfl, _⟩ | ⟨g, cap, cur, rfl, _⟩
  · exact ⟨_, _, _, rfl⟩
  · exact ⟨_, _, _, rfl⟩
/-- New blocks. -/
theorem AInv.below {w : World} {ib rx B2 : Nat} {o : Ro} {rb : Nat} {L : List Fm} {s : ByteArray} {k : Nat} {wr wr' : World} {P : Nat → Prop} {ps : List Pt} {vi : Value} (h : AInv w ib rx B2 o rb L s k wr P ps vi) (hb : Below wr.heap.size wr wr') :
    AInv w ib rx B2 o rb L s k wr' (fun q => P q ∨ (wr.heap.size ≤ q ∧ q < wr'.heap.size)) ps vi :=
  ⟨h.kept.trans (Kept.of_below hb fun _ hq => Nat.lt_of_lt_of_le hq.1 h.kept.size), Nat.le_trans h.size hb.size, fun q hq => .inl (h.held q hq), h.rd.widen hb, (hb.block _ h.rxb.lt).trans h.rxb, .inl h.prx, (hb.block _ h.ibb.lt).trans h.ibb, ownsRow_below h.row hb, fun g hg => .inl (h.prow g hg)⟩
/-- The reader has worked. -/
theorem AInv.work {w : World} {ib rx B2 : Nat} {o : Ro} {rb : Nat} {L : List Fm} {s : ByteArray} {k : Nat} {wr wr' : World} {P : Nat → Prop} {ps ps' : List Pt} {vi : Value} (h : AInv w ib rx B2 o rb L s k wr P ps vi) (hib : ib < w.heap.size) (hk : Kept P wr wr') (hr : Rd wr' P o rb L s ps') :
    AInv w ib rx B2 o rb L s k wr' P ps' vi :=
  ⟨h.kept.trans (hk.mono fun q hq => h.held q (.inl hq.1)), Nat.le_trans h.size hk.size, h.held, hr, (hk.block _ h.prx).trans h.rxb, h.prx, (hk.block _ (h.held _ (.inl hib))).trans h.ibb, own_keep h.row fun g _ hg _ => hk.block g (h.prow g hg), h.prow⟩
/-- An ID is put behind the others. -/
theorem AInv.grow {w : World} {ib rx B2 : Nat} {o : Ro} {rb : Nat} {L : List Fm} {s : ByteArray} {k : Nat} {wr wA : World} {P : Nat → Prop} {ps : List Pt} {vi v1 : Value} (h : AInv w ib rx B2 o rb L s k wr P ps vi) (hib : ib < w.heap.size) (hl : k < L.length) (hof : isOf L s (L.getD k zm).id = true)
    (hu : ∀ i b, i < L.length → (o.us.getD i undef).ownBlock = some b → b ≠ ib ∧ b < B2) (hB2 : w.heap.size ≤ B2) (hG : Grew wr wA B2 3 1 vi v1 ((idsTo L s k).length + 1) (idsV (idsTo L s k) ++ [.int .i64 (L.getD k zm).id])) :
    (Blk wA ib 24 #[vi] ∧ ∃ g c, v1 = .slice (some ⟨g, 0, none⟩) ((idsTo L s k).length + 1) c) ∧ ∃ P', AInv w ib rx B2 o rb L s (k + 1) (wA.setCell ⟨ib, 0, none⟩ v1) P' ps v1 := by
  have hb1 : Blk wA ib 24 #[vi] := hG.blkOther h.row h.ibb (by decide)
  have hrx1 : Blk wA rx 81 #[ptr rb] := hG.blkOther h.row h.rxb (by decide)
  have sA := hG.grown.size
  -- the reader, where the row lay is protected
  have hr1 : Rd wA P o rb L s ps := by
    refine h.rd.frame (X := fun q => vi.ownBlock = some q) (fun q hq => h.prow q hq) (fun e => own_ne h.row h.rd.1.ab (by decide) e rfl) (fun e => own_ne h.row h.rd.1.tb (by decide) e rfl) (fun e => ?_) (fun e => ?_) (fun i b hi hb e => ?_) ?_
    · obtain ⟨cur, hh⟩ := own_heap h.row e
      exact h.rd.1.kinds.ne_cells (t := 3) hh rfl
    · obtain ⟨cur, hh⟩ := own_heap h.row e
      exact h.rd.1.fields.ne_cells (t := 3) hh rfl
    · have := (hu i b hi hb).2
      have := (h.row.lt b e).1
      omega
    · exact ⟨hG.grown.os, hG.grown.tape, hG.grown.output, hG.grown.size, fun q hq => hG.grown.block q hq.1 fun e => hq.2 e.symm⟩
  obtain ⟨g, c, hv1⟩ : ∃ g c, v1 = .slice (some ⟨g, 0, none⟩) ((idsTo L s k).length + 1) c := by
    rcases hG.own.2 with ⟨_, h0⟩ | ⟨g, cap, cur, rfl, _⟩
    · omega
    · exact ⟨g, cap, rfl⟩
  refine ⟨⟨hb1, g, c, hv1⟩, ?_⟩
  -- a new row is protected as well
  have hP2 : ∃ P' : Nat → Prop, (∀ q, P q → P' q) ∧ Rd wA P' o rb L s ps ∧ ∀ q, v1.ownBlock = some q → P' q := by
    rcases hG.blk with hbk | hbk
    · exact ⟨P, fun _ hq => hq, hr1, fun q hq => h.prow q (hbk ▸ hq)⟩
    · refine ⟨fun q => P q ∨ q = wr.heap.size, fun _ hq => .inl hq, ?_, fun q hq => .inr (by rw [hbk] at hq; exact (Option.some.inj hq).symm)⟩
      have hnew : wr.heap.size < wA.heap.size := by
        obtain ⟨cur, hh⟩ := own_heap hG.own hbk
        exact lt_of_heap hh
      obtain ⟨hf, vp, kk, vs, hm⟩ := hr1
      have old : ∀ q t cs, Blk wr q t cs → q ≠ wr.heap.size := fun q t cs hq => by have := hq.lt; omega
      obtain ⟨hf0, vp0, k0, vs0, hm0⟩ := h.rd
      have e1 : vp = vp0 := by
        have h1 := hm.blk.cell 4
        have h2 := ((hG.blkOther h.row hm0.blk (by decide)) : Blk wA rb _ _).cell 4
        simp only [List.getElem?_toArray, List.getElem?_cons_zero, List.getElem?_cons_succ] at h1 h2
        rw [h1] at h2
        exact Option.some.inj h2
      have e2 : vs = vs0 := by
        have h1 := hm.sums.sb.cell 0
        have h2 := ((hG.blkOther h.row hm0.sums.sb (by decide)) : Blk wA o.sb _ _).cell 0
        simp only [List.getElem?_toArray, List.getElem?_cons_zero] at h1 h2
        rw [h1] at h2
        exact Option.some.inj h2
      subst e1 e2
      refine ⟨{ hf with pin := ?_, pa := .inl hf.pa, pt := .inl hf.pt, pk := .inl hf.pk, pf := .inl hf.pf, pu := fun i b hi hb => .inl (hf.pu i b hi hb), nr := ?_, ns := ?_ }, vp, kk, vs, { hm with nS := fun q hq hp => ?_, nP := fun q hq hp => ?_ }⟩
      · rintro q (hq | hq)
        · exact hf.pin q hq
        · rw [hq]; exact hnew
      · rintro (hq | hq)
        · exact hf.nr hq
        · exact old _ _ _ hm0.blk hq
      · rintro (hq | hq)
        · exact hf.ns hq
        · exact old _ _ _ hm0.sums.sb hq
      · rcases hp with hp | hp
        · exact hm.nS q hq hp
        · have := own_lt hm0.sums.row hq; omega
      · rcases hp with hp | hp
        · exact hm.nP q hq hp
        · have := own_lt hm0.row hq; omega
  obtain ⟨P', hPP, hr2, hrow2⟩ := hP2
  have hkA : Kept (fun q => q < w.heap.size ∧ q ≠ ib) w wA := h.kept.grown hG.grown (fun q hq => Nat.lt_of_lt_of_le hq.1 h.kept.size) (fun q hq hp => by have := (h.row.lt q hq).1; omega)
  have hke : Kept (fun q => q < wA.heap.size ∧ q ≠ ib) wA (wA.setCell ⟨ib, 0, none⟩ v1) := (Kept.refl _ _).setCell (fun hq => hq.2 rfl) _
  refine ⟨P', hkA.trans (hke.mono fun q hq => ⟨Nat.lt_of_lt_of_le hq.1 hkA.size, hq.2⟩), by simp [World.setCell]; have := h.size; omega, fun q hq => hPP q (h.held q hq), hr2.poke hb1 (hPP _ (h.held _ (.inl hib))) (by decide) (by decide) (fun i b hi hb => (hu i b hi hb).1) hke, ?_, hPP _ h.prx, hb1.set_ 0 v1, ?_, hrow2⟩
  · exact (Below.heap_setCell _ _ _ _ fun e => Blk.ne_ hrx1 hb1 (by decide) e).trans hrx1
  · have e : idsTo L s (k + 1) = idsTo L s k ++ [(L.getD k zm).id] := by rw [idsTo_succ hl, if_pos hof]
    rw [e, List.length_append, List.length_singleton]
    have e2 : idsV (idsTo L s k ++ [(L.getD k zm).id]) = idsV (idsTo L s k) ++ [.int .i64 (L.getD k zm).id] := by unfold idsV; simp
    rw [e2]
    exact own_keep hG.own fun q cur hq hh => Below.heap_setCell _ _ _ _ fun e => Blk.ne_ (t := 3) hh hb1 (by decide) e
end RecX
end Go.Proofs.YtdndmhlmbpgdeaaGreatDoor
