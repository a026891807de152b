/- build: a table is read from a list of formats. Conditions: the list is readable; its numbers are ints; the variable of the error holds a pointer. -/
import Derived.Test.YtcnokccgdiodlaaGreatDoorFmtL
namespace Go.Proofs.YtcnokccgdiodlaaGreatDoor
open Go.RowKit Fx Go.Sort

/-- Formats that lie at b from place off on, in blocks of a kind. -/
structure FmAt (B : Nat → Prop) (w : World) (b off : Nat) (f : Fm) (u : Value) : Prop where
  c0 : w.cell? ⟨b, off, none⟩ = some (.int .i64 f.id)
  c1 : w.cell? ⟨b, off + 1, none⟩ = some u
  fs : FldsAt w u f.fs
  own : ∀ g, u.ownBlock = some g → B g
/-- A slice that reads as these formats. -/
def FmsAt (B : Nat → Prop) (w : World) (v : Value) (l : List Fm) : Prop :=
  (∃ a c, v = .slice a 0 c ∧ l = []) ∨ ∃ b off cap, v = .slice (some ⟨b, off, none⟩) l.length cap ∧ 1 ≤ l.length ∧ l.length ≤ cap ∧ cap ≤ maxLen ∧ B b ∧ b < w.heap.size ∧ ∀ i, i < l.length → ∃ u, FmAt B w b (off + i * 2) (l.getD i zm) u
theorem FmAt.kept {B : Nat → Prop} {w w' : World} {b off : Nat} {f : Fm} {u : Value} (h : FmAt B w b off f u) (hk : Kept B w w') (hb : B b) : FmAt B w' b off f u :=
  ⟨(hk.cell (p := ⟨b, off, none⟩) hb).trans h.c0, (hk.cell (p := ⟨b, off + 1, none⟩) hb).trans h.c1, h.fs.keep hk.size fun g hg => hk.block g (h.own g hg), h.own⟩
theorem FmsAt.kept {B : Nat → Prop} {w w' : World} {v : Value} {l : List Fm} (h : FmsAt B w v l) (hk : Kept B w w') : FmsAt B w' v l := by
  rcases h with h | ⟨b, off, cap, rfl, h1, h2, h3, h4, h5, h6⟩
  · exact .inl h
  · exact .inr ⟨b, off, cap, rfl, h1, h2, h3, h4, Nat.lt_of_lt_of_le h5 hk.size, fun i hi => by
      obtain ⟨u, hu⟩ := h6 i hi
      exact ⟨u, hu.kept hk h4⟩⟩
theorem FmsAt.mono {B C : Nat → Prop} {w : World} {v : Value} {l : List Fm} (h : FmsAt B w v l) (hc : ∀ g, B g → C g) : FmsAt C w v l := by
  rcases h with h | ⟨b, off, cap, rfl, h1, h2, h3, h4, h5, h6⟩
  · exact .inl h
  · exact .inr ⟨b, off, cap, rfl, h1, h2, h3, hc b h4, h5, fun i hi => by
      obtain ⟨u, hu⟩ := h6 i hi
      exact ⟨u, hu.c0, hu.c1, hu.fs, fun g hg => hc g (hu.own g hg)⟩⟩
theorem FldsAt.slice_ {w : World} {v : Value} {fs : List Fld} (h : FldsAt w v fs) : ∃ a c, v = .slice a fs.length c ∧ (fs.length = 0 ∨ (fs.length ≤ c ∧ c ≤ maxLen)) := by
  rcases h with ⟨a, c, rfl, rfl⟩ | ⟨b, off, cap, rfl, h1, h2, h3, _, _⟩
  · exact ⟨a, c, rfl, .inl rfl⟩
  · exact ⟨_, _, rfl, .inr ⟨h2, h3⟩⟩
theorem FldsAt.at_ {w : World} {a : Option Addr} {n c : Nat} {fs : List Fld} (h : FldsAt w (.slice a n c) fs) (h1 : 1 ≤ fs.length) : ∃ b off, a = some ⟨b, off, none⟩ ∧ n = fs.length ∧ b < w.heap.size ∧ n ≤ c ∧ c ≤ maxLen ∧ ∀ i, i < fs.length → FldAt w b (off + i * 4) (fs.getD i zf) := by
  rcases h with ⟨a, c, _, rfl⟩ | ⟨b, off, cap, h0, h2, h3, h4, h5, h6⟩
  · simp at h1
  · cases h0
    exact ⟨b, off, rfl, rfl, h5, h3, h4, h6⟩
/-- The numbers of formats are ints. -/
def IntsM (f : Fm) : Prop := (-9223372036854775808 ≤ f.id ∧ f.id ≤ 9223372036854775807) ∧ ∀ i, i < f.fs.length → Ints (f.fs.getD i zf)
def IntsL (l : List Fm) : Prop := ∀ i, i < l.length → IntsM (l.getD i zm)

theorem ends_bind {α : Type} {o : Option α} (h : o = none) (er : Addr) : ends er o.isSome = ends er false := by rw [h]; rfl
theorem drop_get {α : Type} {l : List α} {k : Nat} (z : α) (h : k < l.length) : l.drop k = l.getD k z :: l.drop (k + 1) := by
  rw [List.drop_eq_getElem_cons h]
  simp [List.getD, List.getElem?_eq_getElem h]
/-- What the reading of a list ends in. -/
def BuildPost (P : Nat → Prop) (tb : Nat) (R : Option St) (er : Addr) (w : World) (e : Ending) (w' : World) : Prop :=
  e = ends er R.isSome ∧ Kept P w w' ∧ ∀ s, R = some s → TabEnd w' P tb s
theorem build_stop {P : Nat → Prop} {tb : Nat} {R : Option St} {er : Addr} {w : World} {e : Ending} {w' : World} (h : R = none) (he : e = ends er false) (hk : Kept P w w') : BuildPost P tb R er w e w' :=
  ⟨by rw [h]; exact he, hk, fun s h2 => by rw [h] at h2; cases h2⟩

theorem TabAt.narrow {w : World} {P Q : Nat → Prop} {tb : Nat} {s : St} (h : TabAt w P tb s) (hq : ∀ k, Q k → P k) : TabAt w Q tb s := by
  obtain ⟨cs, mb, b1, b2, c, b3, vF, vs, vO, h1, h2⟩ := h
  exact ⟨cs, mb, b1, b2, c, b3, vF, vs, vO, { h1 with pin := fun k hk => h1.pin k (hq k hk), pT := fun hk => h1.pT (hq _ hk), pM := fun hk => h1.pM (hq _ hk), pF := fun g hg hk => h1.pF g hg (hq _ hk), pB := fun k hB hk => h1.pB k hB (hq _ hk) }, { h2 with pO := fun g hg hk => h2.pO g hg (hq _ hk) }⟩
/-- The blocks of a kind, and those that were made since. -/
def Wide (P : Nat → Prop) (w w' : World) : Nat → Prop := fun k => P k ∨ (w.heap.size ≤ k ∧ k < w'.heap.size)
theorem wide_l {P : Nat → Prop} {w w' : World} : ∀ k, P k → Wide P w w' k := fun _ h => .inl h

set_option maxRecDepth 100000 in
set_option maxHeartbeats 4000000 in
theorem build1_any (P : Nat → Prop) (tb bl bt b off cap : Nat) (l : List Fm) (R : Option St) (er : Addr) (w : World) (h1 : 1 ≤ l.length) (h2 : l.length ≤ cap) (h3 : cap ≤ maxLen) (hb : P b) (hfm : ∀ i, i < l.length → ∃ u, FmAt P w b (off + i * 2) (l.getD i zm) u)
    (hT : TabAt w P tb st0) (hE : ErrAt w er) (hPe : P 0) (hbt : P bt) (hcl : w.cell? ⟨bl, 0, none⟩ = some (.slice (some ⟨b, off, none⟩) l.length cap)) (hct : w.cell? ⟨bt, 0, none⟩ = some (adr tb))
    (hI : IntsL l) (hR : buildO l = R) :
    Calls Tryz.prog 55 #[.pointer (some ⟨bl, 0, none⟩), .pointer (some ⟨bt, 0, none⟩)] w (BuildPost P tb R er w) := by
  obtain ⟨n, hn⟩ : ∃ n, n = l.length := ⟨_, rfl⟩
  rw [← hn] at hcl h1 h2
  have HFM := Lib.hid hfm
  have HT := Lib.hid hT
  have HE := Lib.hid hE
  have HI := Lib.hid hI
  have HR := Lib.hid hR
  have HN := Lib.hid hn
  have HCT := Lib.hid hct
  have hlt := World.block_lt_of_cell? (h := hct)
  have HP : Hid (∀ k, P k → k < w.heap.size) := Lib.hid (by obtain ⟨a, c, _, _, _, _, _, _, _, q⟩ := hT.cells_; exact q)
  unfold maxLen at h3
  clear hfm hT hE hI hR hn
  go_enter Tryz.func55, Tryz.ntmps55
  go_wp2_with fail
  go_loopw [8] (fun i wr => ∃ k : Nat, k ≤ n ∧ i = .int .i64 k ∧ Hid (∃ s, TabAt wr P tb s ∧ Fx.Good s ∧ runL s (l.drop k) = R ∧ Kept P w wr)) (fun i _ => n - (intOf i).toNat)
  case atStart => exact ⟨0, Nat.zero_le _, rfl, Lib.hid ⟨st0, HT.out, good0, HR.out, Kept.refl _ _⟩⟩
  case round =>
    obtain ⟨k, hk, rfl, HS⟩ := hrel
    obtain ⟨wo, rfl⟩ : ∃ wo : World, wo = wr := ⟨_, rfl⟩
    by_cases hlt2 : k < n
    · obtain ⟨s, hT, hG, hRun, hK⟩ := HS.out
      have hkl : k < l.length := by have := HN.out; omega
      obtain ⟨f, hf⟩ : ∃ f, f = l.getD k zm := ⟨_, rfl⟩
      obtain ⟨u, hu0⟩ := HFM.out k hkl
      rw [← hf] at hu0
      have hu := hu0.kept hK hb
      obtain ⟨ua, uc, rfl, _⟩ := hu.fs.slice_
      obtain ⟨m, hm⟩ : ∃ m, m = f.fs.length := ⟨_, rfl⟩
      rw [← hm] at hu
      have hIf : IntsM f := by rw [hf]; exact HI.out k hkl
      rw [drop_get zm hkl, ← hf] at hRun
      have q0 := hu.c0
      have q1 := hu.c1
      have qt : wo.cell? ⟨bt, 0, none⟩ = some (adr tb) := (hK.cell (p := ⟨bt, 0, none⟩) hbt).trans HCT.out
      have lb := World.block_lt_of_cell? (h := q0)
      have lt_ := World.block_lt_of_cell? (h := qt)
      have hPr : ∀ k, P k → k < wo.heap.size := fun k hk => Nat.lt_of_lt_of_le (HP.out k hk) hK.size
      obtain ⟨wb, hwb⟩ : ∃ wb, wb = wo.alloc (.cells #[.int .i64 f.id, .slice ua m uc] 34) := ⟨_, rfl⟩
      have hBw : Below wo.heap.size wo wb := by rw [hwb]; exact bx _
      have hTb : TabAt wb (Wide P wo wb) tb s := hT.widen hBw
      have hEb : ErrAt wb er := (⟨(hK.cell (p := ⟨0, 0, none⟩) hPe).trans HE.out.cell⟩ : ErrAt wo er).below hBw
      have hNb : Wide P wo wb wo.heap.size := .inr ⟨Nat.le_refl _, by rw [hwb]; simp⟩
      have k1 : wb.cell? ⟨wo.heap.size, 1, none⟩ = some (.slice ua m uc) := by rw [hwb]; simp [go_sem]
      have tcb : wb.cell? ⟨bt, 0, none⟩ = some (adr tb) := ((bcell hBw).1 _ _ lt_).trans qt
      have HBEG := Lib.hid (begin_any (Wide P wo wb) tb s f.id er wb hTb hEb (wide_l _ hPe) hG)
      have HKB : Hid (Kept P w wb) := Lib.hid (hK.trans (Kept.of_below hBw hPr))
      have HFS := Lib.hid (And.intro hu.fs hu.own)
      have H1 := Lib.hid (And.intro hRun (And.intro hG (And.intro hIf (And.intro hNb (And.intro k1 (And.intro tcb (And.intro hEb hBw)))))))
      have HF := Lib.hid (And.intro hf hm)
      have HKO := Lib.hid hK
      clear hf hm hT hK hu hu0 hRun hPr hTb hEb hNb k1 tcb hBw hIf hG HS
      go_wp2_with fail
      rw [← hwb]
      refine HBEG.out.mono ?_
      rintro e w1 ⟨rfl, hk1, hT1⟩
      obtain ⟨hRun, hG, hIf, hNb, k1, tcb, hEb, hBw⟩ := H1.out
      cases hbo : beginO s f.id with
      | none =>
        have hRn : R = none := by rw [← hRun]; unfold runL; rw [hbo]; rfl
        have HK2 : Hid (Kept P w w1) := Lib.hid (HKB.out.trans (hk1.mono wide_l))
        clear H1 hRun hG hIf hNb k1 tcb hEb hBw hk1 hT1
        simp only [Option.isSome_none]
        unfold ends
        go_wp2_with fail
        exact ⟨rfl, build_stop hRn rfl HK2.out⟩
      | some s1 =>
        obtain ⟨hc, _⟩ := And.intro (fun b o (h : Wide P wo wb b) => hk1.cell (p := ⟨b, o, none⟩) h) trivial
        rw [← hc _ _ hNb] at k1
        rw [← hc _ _ (wide_l _ hbt)] at tcb
        have HT1 := Lib.hid (hT1 s1 hbo)
        have HE1 : Hid (ErrAt w1 er) := Lib.hid ⟨(hk1.cell (p := ⟨0, 0, none⟩) (wide_l _ hPe)).trans hEb.cell⟩
        have HK1 : Hid (Kept P w w1) := Lib.hid (HKB.out.trans (hk1.mono wide_l))
        have HG1 := Lib.hid (hG.begin_ hbo)
        have HR1 : Hid ((addL s1 (f.fs.drop 0)).bind (fun s2 => runL s2 (l.drop (k + 1))) = R) := Lib.hid (by
          rw [List.drop_zero, ← hRun, runL, hbo]; rfl)
        have HIF := Lib.hid hIf
        have lb1 := World.block_lt_of_cell? (h := k1)
        have lt1 := World.block_lt_of_cell? (h := tcb)
        clear H1 hRun hG hIf hNb hEb hBw hk1 hT1 hc
        simp only [Option.isSome_some]
        unfold ends
        go_wp2_with fail
        obtain ⟨W1, hW1⟩ : ∃ W1, W1 = w1 := ⟨_, rfl⟩
        subst hW1
        go_loopw [19] (fun i wr => ∃ j : Nat, j ≤ m ∧ i = .int .i64 j ∧ Hid (∃ s2, TabAt wr (Wide P wo wb) tb s2 ∧ Fx.Good s2 ∧ (addL s2 (f.fs.drop j)).bind (fun s3 => runL s3 (l.drop (k + 1))) = R ∧ Kept P w wr)) (fun i _ => m - (intOf i).toNat)
        case atStart => exact ⟨0, Nat.zero_le _, rfl, Lib.hid ⟨s1, HT1.out, HG1.out, HR1.out, HK1.out⟩⟩
        case round =>
          obtain ⟨j, hj, rfl, HS2⟩ := hrel
          by_cases hjm : j < m
          · have hjl : j < f.fs.length := by have := HF.out.2; omega
            obtain ⟨fb, fo, hua, -, -, m1, m2, hfl⟩ := HFS.out.1.at_ (by omega)
            subst hua
            have hPf : P fb := HFS.out.2 fb rfl
            obtain ⟨s2, hT2, hG2, hR2, hK2⟩ := HS2.out
            obtain ⟨⟨gk, gn, gf, gt⟩, hg⟩ : ∃ g, g = f.fs.getD j zf := ⟨_, rfl⟩
            have hgI : Ints ⟨gk, gn, gf, gt⟩ := by rw [hg]; exact HIF.out.2 j hjl
            have hgA := (hfl j hjl).of_block (w' := wr) (by rw [hK2.block fb hPf, HKO.out.block fb hPf])
            rw [← hg] at hgA
            rw [drop_get zf hjl, ← hg] at hR2
            obtain ⟨g0, g1, g2, g3⟩ := hgA
            have qt : wr.cell? ⟨bt, 0, none⟩ = some (adr tb) := (hK2.cell (p := ⟨bt, 0, none⟩) hbt).trans HCT.out
            have lgb := World.block_lt_of_cell? (h := g0)
            have lt2 := World.block_lt_of_cell? (h := qt)
            obtain ⟨wc, hwc⟩ : ∃ wc, wc = wr.alloc (.cells #[.int .i64 gk, .int .i64 gn, .int .i64 gf, .string gt] 56) := ⟨_, rfl⟩
            have hBc : Below wr.heap.size wr wc := by rw [hwc]; exact bx _
            have hPr : ∀ k, Wide P wo wb k → k < wr.heap.size := by obtain ⟨a, c, _, _, _, _, _, _, _, q⟩ := hT2.cells_; exact q
            have hEc : ErrAt wc er := (⟨(hK2.cell (p := ⟨0, 0, none⟩) hPe).trans HE.out.cell⟩ : ErrAt wr er).below hBc
            have HADD := Lib.hid (add_any (Wide P wo wb) tb s2 ⟨gk, gn, gf, gt⟩ er wc (hT2.below hBc) hEc (wide_l _ hPe) hG2 hgI)
            have HX := Lib.hid (And.intro hG2 (And.intro hR2 (hK2.trans (Kept.of_below hBc fun k hk => hPr k (wide_l k hk)))))
            unfold maxLen at m2
            clear hT2 hG2 hR2 hK2 hg hgI hfl hBc hPr hEc HS2 HFS
            go_wp2_with fail
            rw [← hwc]
            refine HADD.out.mono ?_
            rintro e w3 ⟨rfl, hk3, hT3⟩
            obtain ⟨hG2, hR2, hK2⟩ := HX.out
            obtain ⟨ab, hab⟩ : ∃ ab, ab = addB s2 ⟨gk, gn, gf, gt⟩ := ⟨_, rfl⟩
            rw [← hab] at hT3 ⊢
            cases ab with
            | false =>
              have hRn : R = none := by
                rw [← hR2, addL, addO, if_neg (by rw [← hab]; decide)]; rfl
              have HK3 : Hid (Kept P w w3) := Lib.hid (hK2.trans (hk3.mono wide_l))
              clear hG2 hR2 hK2 hk3 hT3 hab HX
              unfold ends
              go_wp2_with fail
              exact ⟨rfl, build_stop hRn rfl HK3.out⟩
            | true =>
              have ha : addO s2 ⟨gk, gn, gf, gt⟩ = some ⟨s2.d, ⟨s2.o.id, s2.o.fs ++ [⟨gk, gn, gf, gt⟩]⟩⟩ := by rw [addO, if_pos hab.symm]
              have HS3 : Hid (∃ s2, TabAt w3 (Wide P wo wb) tb s2 ∧ Fx.Good s2 ∧ (addL s2 (f.fs.drop (j + 1))).bind (fun s3 => runL s3 (l.drop (k + 1))) = R ∧ Kept P w w3) := Lib.hid ⟨_, hT3 rfl, hG2.add_ ha, by
                rw [← hR2, addL, ha]; rfl, hK2.trans (hk3.mono wide_l)⟩
              clear hG2 hR2 hK2 hk3 hT3 hab HX ha
              unfold ends
              go_wp2_with fail
              go_roundw
              case rel => exact ⟨j + 1, by omega, by go_num, HS3⟩
              case measure => simp [intOf]; omega
          · obtain rfl : j = m := by omega
            have HS3 : Hid (∃ s, TabAt wr P tb s ∧ Fx.Good s ∧ runL s (l.drop (k + 1)) = R ∧ Kept P w wr) := Lib.hid (by
              obtain ⟨s2, hT2, hG2, hR2, hK2⟩ := HS2.out
              rw [HF.out.2, List.drop_length] at hR2
              exact ⟨s2, hT2.narrow wide_l, hG2, hR2, hK2⟩)
            clear HS2
            go_wp2_with fail
            go_roundw
            case rel => exact ⟨k + 1, by omega, by go_num, HS3⟩
            case measure => simp [intOf]; omega
    · obtain rfl : k = n := by omega
      obtain ⟨s, hT, hG, hRun, hK⟩ := HS.out
      have hdr : l.drop k = [] := by rw [HN.out, List.drop_length]
      rw [hdr] at hRun
      have qt : wo.cell? ⟨bt, 0, none⟩ = some (adr tb) := (hK.cell (p := ⟨bt, 0, none⟩) hbt).trans HCT.out
      have lt_ := World.block_lt_of_cell? (h := qt)
      have hEr : ErrAt wo er := ⟨(hK.cell (p := ⟨0, 0, none⟩) hPe).trans HE.out.cell⟩
      have HEND := Lib.hid (end_any P tb s er wo hT hEr hG)
      have HX := Lib.hid (And.intro hRun hK)
      clear hT hG hRun hK HS hdr hEr
      go_wp2_with fail
      refine HEND.out.mono ?_
      rintro e w1 ⟨rfl, hk1, hT1⟩
      have HP1 : Hid (BuildPost P tb R er w (ends er R.isSome) w1) := Lib.hid ⟨rfl, HX.out.2.trans hk1, fun s1 h => hT1 s1 (by rw [← h, ← HX.out.1]; rfl)⟩
      have e0 : endO s = R := HX.out.1
      rw [e0]
      clear hk1 hT1 e0
      cases R with
      | none =>
        simp only [Option.isSome_none]
        unfold ends
        go_wp2_with fail
        exact ⟨rfl, HP1.out⟩
      | some s1 =>
        simp only [Option.isSome_some]
        unfold ends
        go_wp2_with fail
        go_end0
        exact HP1.out
end Go.Proofs.YtcnokccgdiodlaaGreatDoor
