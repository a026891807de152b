/- build: a table is read from a list of formats. Conditions: the list is readable; its numbers are ints; the variable of the error holds a pointer. A reader in memory: what stays as it is, and what grows. No condition of its own. The recognisers of literals, of numbers and of bytes. Conditions: the reader and the value lie in memory, the value's numbers are small, the field is a right one. -/
import Derived.Test.YtdndmhlmbpgdeaaGreatDoorPb05
import Derived.Test.YtdndmhlmbpgdeaaGreatDoorPb04
import Derived.Test.YtdndmhlmbpgdeaaGreatDoorPb01
namespace Go.Proofs.YtdndmhlmbpgdeaaGreatDoor
section FmtM
open Go.RowKit Fx Go.Sort

/-- Formats that lie at b from place off on, in blocks of a kind. -/
structure FmAt (B : Nat → Prop) (w : World) (b off : Nat) (f : Fm) (u : Value) : Prop where
  c0 : w.cell? ⟨b, off, none⟩ = some (.int .i64 f.id)
  c1 : w.cell? ⟨b, off + 1, none⟩ = some u
  fs : FldsAt w u f.fs
  own : ∀ g, u.ownBlock = some g → B g
/-- A slice that reads as these formats. -/
def FmsAt (B : Nat → Prop) (w : World) (v : Value) (l : List Fm) : Prop :=
  (∃ a c, v = .slice a 0 c ∧ l = []) ∨ ∃ b off cap, v = .slice (some ⟨b, off, none⟩) l.length cap ∧ 1 ≤ l.length ∧ l.length ≤ cap ∧ cap ≤ maxLen ∧ B b ∧ b < w.heap.size ∧ ∀ i, i < l.length → ∃ u, FmAt B w b (off + i * 2) (l.getD i zm) u
theorem FmAt.kept {B : Nat → Prop} {w w' : World} {b off : Nat} {f : Fm} {u : Value} (h : FmAt B w b off f u) (hk : Kept B w w') (hb : B b) : FmAt B w' b off f u :=
  ⟨(hk.cell (p := ⟨b, off, none⟩) hb).trans h.c0, (hk.cell (p := ⟨b, off + 1, none⟩) hb).trans h.c1, h.fs.keep hk.size fun g hg => hk.block g (h.own g hg), h.own⟩
theorem FmsAt.kept {B : Nat → Prop} {w w' : World} {v : Value} {l : List Fm} (h : FmsAt B w v l) (hk : Kept B w w') : FmsAt B w' v l := by
  rcases h with h | ⟨b, off, cap, rfl, h1, h2, h3, h4, h5, h6⟩
  · exact .inl h
  · exact .inr ⟨b, off, cap, rfl, h1, h2, h3, h4, Nat.lt_of_lt_of_le h5 hk.size, fun i hi => by
      obtain ⟨u, hu⟩ := h6 i hi
      exact ⟨u, hu.kept hk h4⟩⟩
theorem FmsAt.mono {B C : Nat → Prop} {w : World} {v : Value} {l : List Fm} (h : FmsAt B w v l) (hc : ∀ g, B g → C g) : FmsAt C w v l := by
  rcases h with h | ⟨b, off, cap, rfl, h1, h2, h3, h4, h5, h6⟩
  · exact .inl h
  · exact .inr ⟨b, off, cap, rfl, h1, h2, h3, hc b h4, h5, fun i hi => by
      obtain ⟨u, hu⟩ := h6 i hi
      exact ⟨u, hu.c0, hu.c1, hu.fs, fun g hg => hc g (hu.own g hg)⟩⟩
theorem FldsAt.slice_ {w : World} {v : Value} {fs : List Fld} (h : FldsAt w v fs) : ∃ a c, v = .slice a fs.length c ∧ (fs.length = 0 ∨ (fs.length ≤ c ∧ c ≤ maxLen)) := by
  rcases h with ⟨a, c, rfl, rfl⟩ | ⟨b, off, cap, rfl, h1, h2, h3, _, _⟩
  · exact ⟨a, c, rfl, .inl rfl⟩
  · exact ⟨_, _, rfl, .inr ⟨h2, h3⟩⟩
theorem FldsAt.at_ {w : World} {a : Option Addr} {n c : Nat} {fs : List Fld} (h : FldsAt w (.slice a n c) fs) (h1 : 1 ≤ fs.length) : ∃ b off, a = some ⟨b, off, none⟩ ∧ n = fs.length ∧ b < w.heap.size ∧ n ≤ c ∧ c ≤ maxLen ∧ ∀ i, i < fs.length → FldAt w b (off + i * 4) (fs.getD i zf) := by
  rcases h with ⟨a, c, _, rfl⟩ | ⟨b, off, cap, h0, h2, h3, h4, h5, h6⟩
  · simp at h1
  · cases h0
    exact ⟨b, off, rfl, rfl, h5, h3, h4, h6⟩
/-- The numbers of formats are ints. -/
def IntsM (f : Fm) : Prop := (-9223372036854775808 ≤ f.id ∧ f.id ≤ 9223372036854775807) ∧ ∀ i, i < f.fs.length → Ints (f.fs.getD i zf)
def IntsL (l : List Fm) : Prop := ∀ i, i < l.length → IntsM (l.getD i zm)

theorem ends_bind {α : Type} {o : Option α} (h : o = none) (er : Addr) : ends er o.isSome = ends er false := by rw [h]; rfl
theorem drop_get {α : Type} {l : List α} {k : Nat} (z : α) (h : k < l.length) : l.drop k = l.getD k z :: l.drop (k + 1) := by
  rw [List.drop_eq_getElem_cons h]
  simp [List.getD, List.getElem?_eq_getElem h]
/-- What the reading of a list ends in. -/
def BuildPost (P : Nat → Prop) (tb : Nat) (R : Option St) (er : Addr) (w : World) (e : Ending) (w' : World) : Prop :=
  e = ends er R.isSome ∧ Kept P w w' ∧ ∀ s, R = some s → TabEnd w' P tb s
theorem build_stop {P : Nat → Prop} {tb : Nat} {R : Option St} {er : Addr} {w : World} {e : Ending} {w' : World} (h : R = none) (he : e = ends er false) (hk : Kept P w w') : BuildPost P tb R er w e w' :=
  ⟨by rw [h]; exact he, hk, fun s h2 => by rw [h] at h2; cases h2⟩

theorem TabAt.narrow {w : World} {P Q : Nat → Prop} {tb : Nat} {s : St} (h : TabAt w P tb s) (hq : ∀ k, Q k → P k) : TabAt w Q tb s := by
  obtain ⟨cs, mb, b1, b2, c, b3, vF, vs, vO, h1, h2⟩ := h
  exact ⟨cs, mb, b1, b2, c, b3, vF, vs, vO, { h1 with pin := fun k hk => h1.pin k (hq k hk), pT := fun hk => h1.pT (hq _ hk), pM := fun hk => h1.pM (hq _ hk), pF := fun g hg hk => h1.pF g hg (hq _ hk), pB := fun k hB hk => h1.pB k hB (hq _ hk) }, { h2 with pO := fun g hg hk => h2.pO g hg (hq _ hk) }⟩
/-- The blocks of a kind, and those that were made since. -/
def Wide (P : Nat → Prop) (w w' : World) : Nat → Prop := fun k => P k ∨ (w.heap.size ≤ k ∧ k < w'.heap.size)
theorem wide_l {P : Nat → Prop} {w w' : World} : ∀ k, P k → Wide P w w' k := fun _ h => .inl h

set_option maxRecDepth 100000 in
set_option maxHeartbeats 4000000 in
theorem build1_any (P : Nat → Prop) (tb bl bt b off cap : Nat) (l : List Fm) (R : Option St) (er : Addr) (w : World) (h1 : 1 ≤ l.length) (h2 : l.length ≤ cap) (h3 : cap ≤ maxLen) (hb : P b) (hfm : ∀ i, i < l.length → ∃ u, FmAt P w b (off + i * 2) (l.getD i zm) u)
    (hT : TabAt w P tb st0) (hE : ErrAt w er) (hPe : P 1) (hbt : P bt) (hcl : w.cell? ⟨bl, 0, none⟩ = some (.slice (some ⟨b, off, none⟩) l.length cap)) (hct : w.cell? ⟨bt, 0, none⟩ = some (adr tb))
    (hI : IntsL l) (hR : buildO l = R) :
    Calls Tryz.prog 113 #[.pointer (some ⟨bl, 0, none⟩), .pointer (some ⟨bt, 0, none⟩)] w (BuildPost P tb R er w) := by
  obtain ⟨n, hn⟩ : ∃ n, n = l.length := ⟨_, rfl⟩
  rw [← hn] at hcl h1 h2
  have HFM := Lib.hid hfm
  have HT := Lib.hid hT
  have HE := Lib.hid hE
  have HI := Lib.hid hI
  have HR := Lib.hid hR
  have HN := Lib.hid hn
  have HCT := Lib.hid hct
  have hlt := World.block_lt_of_cell? (h := hct)
  have HP : Hid (∀ k, P k → k < w.heap.size) := Lib.hid (by obtain ⟨a, c, _, _, _, _, _, _, _, q⟩ := hT.cells_; exact q)
  unfold maxLen at h3
  clear hfm hT hE hI hR hn
  go_enter Tryz.func113, Tryz.ntmps113
  go_wp2_with fail
  go_loopw [8] (fun i wr => ∃ k : Nat, k ≤ n ∧ i = .int .i64 k ∧ Hid (∃ s, TabAt wr P tb s ∧ Fx.Good s ∧ runL s (l.drop k) = R ∧ Kept P w wr)) (fun i _ => n - (intOf i).toNat)
  case atStart => exact ⟨0, Nat.zero_le _, rfl, Lib.hid ⟨st0, HT.out, good0, HR.out, Kept.refl _ _⟩⟩
  case round =>
    obtain ⟨k, hk, rfl, HS⟩ := hrel
    obtain ⟨wo, rfl⟩ : ∃ wo : World, wo = wr := ⟨_, rfl⟩
    by_cases hlt2 : k < n
    · obtain ⟨s, hT, hG, hRun, hK⟩ := HS.out
      have hkl : k < l.length := by have := HN.out; omega
      obtain ⟨f, hf⟩ : ∃ f, f = l.getD k zm := ⟨_, rfl⟩
      obtain ⟨u, hu0⟩ := HFM.out k hkl
      rw [← hf] at hu0
      have hu := hu0.kept hK hb
      obtain ⟨ua, uc, rfl, _⟩ := hu.fs.slice_
      obtain ⟨m, hm⟩ : ∃ m, m = f.fs.length := ⟨_, rfl⟩
      rw [← hm] at hu
      have hIf : IntsM f := by rw [hf]; exact HI.out k hkl
      rw [drop_get zm hkl, ← hf] at hRun
      have q0 := hu.c0
      have q1 := hu.c1
      have qt : wo.cell? ⟨bt, 0, none⟩ = some (adr tb) := (hK.cell (p := ⟨bt, 0, none⟩) hbt).trans HCT.out
      have lb := World.block_lt_of_cell? (h := q0)
      have lt_ := World.block_lt_of_cell? (h := qt)
      have hPr : ∀ k, P k → k < wo.heap.size := fun k hk => Nat.lt_of_lt_of_le (HP.out k hk) hK.size
      obtain ⟨wb, hwb⟩ : ∃ wb, wb = wo.alloc (.cells #[.int .i64 f.id, .slice ua m uc] 52) := ⟨_, rfl⟩
      have hBw : Below wo.heap.size wo wb := by rw [hwb]; exact bx _
      have hTb : TabAt wb (Wide P wo wb) tb s := hT.widen hBw
      have hEb : ErrAt wb er := (⟨(hK.cell (p := ⟨1, 0, none⟩) hPe).trans HE.out.cell⟩ : ErrAt wo er).below hBw
      have hNb : Wide P wo wb wo.heap.size := .inr ⟨Nat.le_refl _, by rw [hwb]; simp⟩
      have k1 : wb.cell? ⟨wo.heap.size, 1, none⟩ = some (.slice ua m uc) := by rw [hwb]; simp [go_sem]
      have tcb : wb.cell? ⟨bt, 0, none⟩ = some (adr tb) := ((bcell hBw).1 _ _ lt_).trans qt
      have HBEG := Lib.hid (begin_any (Wide P wo wb) tb s f.id er wb hTb hEb (wide_l _ hPe) hG)
      have HKB : Hid (Kept P w wb) := Lib.hid (hK.trans (Kept.of_below hBw hPr))
      have HFS := Lib.hid (And.intro hu.fs hu.own)
      have H1 := Lib.hid (And.intro hRun (And.intro hG (And.intro hIf (And.intro hNb (And.intro k1 (And.intro tcb (And.intro hEb hBw)))))))
      have HF := Lib.hid (And.intro hf hm)
      have HKO := Lib.hid hK
      clear hf hm hT hK hu hu0 hRun hPr hTb hEb hNb k1 tcb hBw hIf hG HS
      go_wp2_with fail
      rw [← hwb]
      refine HBEG.out.mono ?_
      rintro e w1 ⟨rfl, hk1, hT1⟩
      obtain ⟨hRun, hG, hIf, hNb, k1, tcb, hEb, hBw⟩ := H1.out
      cases hbo : beginO s f.id with
      | none =>
        have hRn : R = none := by rw [← hRun]; unfold runL; rw [hbo]; rfl
        have HK2 : Hid (Kept P w w1) := Lib.hid (HKB.out.trans (hk1.mono wide_l))
        clear H1 hRun hG hIf hNb k1 tcb hEb hBw hk1 hT1
        simp only [Option.isSome_none]
        unfold ends
        go_wp2_with fail
        exact ⟨rfl, build_stop hRn rfl HK2.out⟩
      | some s1 =>
        obtain ⟨hc, _⟩ := And.intro (fun b o (h : Wide P wo wb b) => hk1.cell (p := ⟨b, o, none⟩) h) trivial
        rw [← hc _ _ hNb] at k1
        rw [← hc _ _ (wide_l _ hbt)] at tcb
        have HT1 := Lib.hid (hT1 s1 hbo)
        have HE1 : Hid (ErrAt w1 er) := Lib.hid ⟨(hk1.cell (p := ⟨1, 0, none⟩) (wide_l _ hPe)).trans hEb.cell⟩
        have HK1 : Hid (Kept P w w1) := Lib.hid (HKB.out.trans (hk1.mono wide_l))
        have HG1 := Lib.hid (hG.begin_ hbo)
        have HR1 : Hid ((addL s1 (f.fs.drop 0)).bind (fun s2 => runL s2 (l.drop (k + 1))) = R) := Lib.hid (by
          rw [List.drop_zero, ← hRun, runL, hbo]; rfl)
        have HIF := Lib.hid hIf
        have lb1 := World.block_lt_of_cell? (h := k1)
        have lt1 := World.block_lt_of_cell? (h := tcb)
        clear H1 hRun hG hIf hNb hEb hBw hk1 hT1 hc
        simp only [Option.isSome_some]
        unfold ends
        go_wp2_with fail
        obtain ⟨W1, hW1⟩ : ∃ W1, W1 = w1 := ⟨_, rfl⟩
        subst hW1
        go_loopw [19] (fun i wr => ∃ j : Nat, j ≤ m ∧ i = .int .i64 j ∧ Hid (∃ s2, TabAt wr (Wide P wo wb) tb s2 ∧ Fx.Good s2 ∧ (addL s2 (f.fs.drop j)).bind (fun s3 => runL s3 (l.drop (k + 1))) = R ∧ Kept P w wr)) (fun i _ => m - (intOf i).toNat)
        case atStart => exact ⟨0, Nat.zero_le _, rfl, Lib.hid ⟨s1, HT1.out, HG1.out, HR1.out, HK1.out⟩⟩
        case round =>
          obtain ⟨j, hj, rfl, HS2⟩ := hrel
          by_cases hjm : j < m
          · have hjl : j < f.fs.length := by have := HF.out.2; omega
            obtain ⟨fb, fo, hua, -, -, m1, m2, hfl⟩ := HFS.out.1.at_ (by omega)
            subst hua
            have hPf : P fb := HFS.out.2 fb rfl
            obtain ⟨s2, hT2, hG2, hR2, hK2⟩ := HS2.out
            obtain ⟨⟨gk, gn, gf, gt⟩, hg⟩ : ∃ g, g = f.fs.getD j zf := ⟨_, rfl⟩
            have hgI : Ints ⟨gk, gn, gf, gt⟩ := by rw [hg]; exact HIF.out.2 j hjl
            have hgA := (hfl j hjl).of_block (w' := wr) (by rw [hK2.block fb hPf, HKO.out.block fb hPf])
            rw [← hg] at hgA
            rw [drop_get zf hjl, ← hg] at hR2
            obtain ⟨g0, g1, g2, g3⟩ := hgA
            have qt : wr.cell? ⟨bt, 0, none⟩ = some (adr tb) := (hK2.cell (p := ⟨bt, 0, none⟩) hbt).trans HCT.out
            have lgb := World.block_lt_of_cell? (h := g0)
            have lt2 := World.block_lt_of_cell? (h := qt)
            obtain ⟨wc, hwc⟩ : ∃ wc, wc = wr.alloc (.cells #[.int .i64 gk, .int .i64 gn, .int .i64 gf, .string gt] 56) := ⟨_, rfl⟩
            have hBc : Below wr.heap.size wr wc := by rw [hwc]; exact bx _
            have hPr : ∀ k, Wide P wo wb k → k < wr.heap.size := by obtain ⟨a, c, _, _, _, _, _, _, _, q⟩ := hT2.cells_; exact q
            have hEc : ErrAt wc er := (⟨(hK2.cell (p := ⟨1, 0, none⟩) hPe).trans HE.out.cell⟩ : ErrAt wr er).below hBc
            have HADD := Lib.hid (add_any (Wide P wo wb) tb s2 ⟨gk, gn, gf, gt⟩ er wc (hT2.below hBc) hEc (wide_l _ hPe) hG2 hgI)
            have HX := Lib.hid (And.intro hG2 (And.intro hR2 (hK2.trans (Kept.of_below hBc fun k hk => hPr k (wide_l k hk)))))
            unfold maxLen at m2
            clear hT2 hG2 hR2 hK2 hg hgI hfl hBc hPr hEc HS2 HFS
            go_wp2_with fail
            rw [← hwc]
            refine HADD.out.mono ?_
            rintro e w3 ⟨rfl, hk3, hT3⟩
            obtain ⟨hG2, hR2, hK2⟩ := HX.out
            obtain ⟨ab, hab⟩ : ∃ ab, ab = addB s2 ⟨gk, gn, gf, gt⟩ := ⟨_, rfl⟩
            rw [← hab] at hT3 ⊢
            cases ab with
            | false =>
              have hRn : R = none := by
                rw [← hR2, addL, addO, if_neg (by rw [← hab]; decide)]; rfl
              have HK3 : Hid (Kept P w w3) := Lib.hid (hK2.trans (hk3.mono wide_l))
              clear hG2 hR2 hK2 hk3 hT3 hab HX
              unfold ends
              go_wp2_with fail
              exact ⟨rfl, build_stop hRn rfl HK3.out⟩
            | true =>
              have ha : addO s2 ⟨gk, gn, gf, gt⟩ = some ⟨s2.d, ⟨s2.o.id, s2.o.fs ++ [⟨gk, gn, gf, gt⟩]⟩⟩ := by rw [addO, if_pos hab.symm]
              have HS3 : Hid (∃ s2, TabAt w3 (Wide P wo wb) tb s2 ∧ Fx.Good s2 ∧ (addL s2 (f.fs.drop (j + 1))).bind (fun s3 => runL s3 (l.drop (k + 1))) = R ∧ Kept P w w3) := Lib.hid ⟨_, hT3 rfl, hG2.add_ ha, by
                rw [← hR2, addL, ha]; rfl, hK2.trans (hk3.mono wide_l)⟩
              clear hG2 hR2 hK2 hk3 hT3 hab HX ha
              unfold ends
              go_wp2_with fail
              go_roundw
              case rel => exact ⟨j + 1, by omega, by go_num, HS3⟩
              case measure => simp [intOf]; omega
          · obtain rfl : j = m := by omega
            have HS3 : Hid (∃ s, TabAt wr P tb s ∧ Fx.Good s ∧ runL s (l.drop (k + 1)) = R ∧ Kept P w wr) := Lib.hid (by
              obtain ⟨s2, hT2, hG2, hR2, hK2⟩ := HS2.out
              rw [HF.out.2, List.drop_length] at hR2
              exact ⟨s2, hT2.narrow wide_l, hG2, hR2, hK2⟩)
            clear HS2
            go_wp2_with fail
            go_roundw
            case rel => exact ⟨k + 1, by omega, by go_num, HS3⟩
            case measure => simp [intOf]; omega
    · obtain rfl : k = n := by omega
      obtain ⟨s, hT, hG, hRun, hK⟩ := HS.out
      have hdr : l.drop k = [] := by rw [HN.out, List.drop_length]
      rw [hdr] at hRun
      have qt : wo.cell? ⟨bt, 0, none⟩ = some (adr tb) := (hK.cell (p := ⟨bt, 0, none⟩) hbt).trans HCT.out
      have lt_ := World.block_lt_of_cell? (h := qt)
      have hEr : ErrAt wo er := ⟨(hK.cell (p := ⟨1, 0, none⟩) hPe).trans HE.out.cell⟩
      have HEND := Lib.hid (end_any P tb s er wo hT hEr hG)
      have HX := Lib.hid (And.intro hRun hK)
      clear hT hG hRun hK HS hdr hEr
      go_wp2_with fail
      refine HEND.out.mono ?_
      rintro e w1 ⟨rfl, hk1, hT1⟩
      have HP1 : Hid (BuildPost P tb R er w (ends er R.isSome) w1) := Lib.hid ⟨rfl, HX.out.2.trans hk1, fun s1 h => hT1 s1 (by rw [← h, ← HX.out.1]; rfl)⟩
      have e0 : endO s = R := HX.out.1
      rw [e0]
      clear hk1 hT1 e0
      cases R with
      | none =>
        simp only [Option.isSome_none]
        unfold ends
        go_wp2_with fail
        exact ⟨rfl, HP1.out⟩
      | some s1 =>
        simp only [Option.isSome_some]
        unfold ends
        go_wp2_with fail
        go_end0
        exact HP1.out
end FmtM
section RecG
open Go.RowKit Fx Rec

/-! sums -/
theorem sumTo_zero (s : ByteArray) : sumTo s 0 = 0 := rfl
theorem sumTo_succ {s : ByteArray} {n : Nat} (h : n < s.size) : sumTo s (n + 1) = sumTo s n + ((s[n]).toNat : Int) := by
  unfold sumTo sumL
  have : s.data.toList.take (n + 1) = s.data.toList.take n ++ [s[n]] := by
    rw [List.take_succ_eq_append_getElem (by simpa using h)]
    rfl
  rw [this]
  simp
theorem sumTo_more {s : ByteArray} {n : Nat} (h : s.size ≤ n) : sumTo s (n + 1) = sumTo s n := by
  unfold sumTo
  have hl : s.data.toList.length = s.size := by simp
  rw [List.take_of_length_le (by omega), List.take_of_length_le (by omega)]
def byteAt (s : ByteArray) (i : Nat) : Int := if h : i < s.size then ((s[i]).toNat : Int) else 0
theorem byteAt_bound (s : ByteArray) (i : Nat) : 0 ≤ byteAt s i ∧ byteAt s i ≤ 255 := by
  unfold byteAt
  split
  · rename_i h
    have : (s[i]).toNat < 256 := (s[i]).toNat_lt
    omega
  · omega
theorem sumTo_step (s : ByteArray) (n : Nat) : sumTo s (n + 1) = sumTo s n + byteAt s n := by
  unfold byteAt
  split
  · rename_i h; exact sumTo_succ h
  · rename_i h; rw [sumTo_more (by omega)]; omega
theorem sumTo_bound (s : ByteArray) (n : Nat) : 0 ≤ sumTo s n ∧ sumTo s n ≤ 255 * n := by
  induction n with
  | zero => exact ⟨by rw [sumTo_zero]; omega, by rw [sumTo_zero]; omega⟩
  | succ n ih =>
    rw [sumTo_step]
    have := byteAt_bound s n
    omega
theorem sumTo_mono (s : ByteArray) {i j : Nat} (h : i ≤ j) : sumTo s i ≤ sumTo s j := by
  induction j with
  | zero => obtain rfl : i = 0 := by omega
            omega
  | succ j ih =>
    rcases Nat.lt_or_ge j i with h1 | h1
    · obtain rfl : i = j + 1 := by omega
      omega
    · have := ih h1
      have h2 := byteAt_bound s j
      rw [sumTo_step]
      omega
theorem adds_of (s : ByteArray) : Adds (sumTo s) (byteAt s) :=
  ⟨fun i _ => sumTo_step s i, fun i h => by have := sumTo_bound s i; omega, fun i _ => byteAt_bound s i⟩

/-! the reader -/
def ptC (p : Pt) : List Value := [.int .i64 p.depth, .int .i64 p.format, .int .i64 p.field, .int .i64 p.start, .int .i64 p.stop, .int .i64 p.number]
def flatP (ps : List Pt) : List Value := ps.flatMap ptC
theorem flatP_snoc (ps : List Pt) (p : Pt) : flatP (ps ++ [p]) = flatP ps ++ ptC p := by unfold flatP; simp
theorem flatP_len (ps : List Pt) : (flatP ps).length = ps.length * 6 := by
  unfold flatP
  induction ps with
  | nil => rfl
  | cons p t ih => simp [List.flatMap_cons, ih, ptC]; omega
/-- What a reader is made of. -/
structure Ro where
  fb : Nat
  kb : Nat
  sb : Nat
  ab : Nat
  tb : Nat
  us : List Value
abbrev ptr (b : Nat) : Value := .pointer (some ⟨b, 0, none⟩)
def kindsR (rb : Nat) : List (Int × Value) :=
  [(1, .func (.func 67) #[ptr rb] #[]), (2, .func (.func 68) #[ptr rb] #[]), (3, .func (.func 69) #[ptr rb] #[]),
   (4, .func (.func 70) #[ptr rb] #[]), (5, .func (.func 71) #[ptr rb] #[]), (6, .func (.func 72) #[ptr rb] #[])]
/-- The entries of a map of fields by formats. -/
def fieldsE (L : List Fm) (us : List Value) : List (Int × Value) := (L.zip us).map fun p => (p.1.id, p.2)
abbrev atF (tb : Nat) : Value := .func (.func 66) #[] #[ptr tb]
abbrev sumF (o : Ro) : Value := .func (.func 93) #[] #[ptr o.sb, ptr o.ab]
/-- What stays as it is. -/
structure RdFix (w : World) (P : Nat → Prop) (o : Ro) (rb : Nat) (L : List Fm) (s : ByteArray) : Prop where
  ab : Blk w o.ab 114 #[atF o.tb]
  tb : Blk w o.tb 9 #[.string s]
  kinds : MapE w o.kb (kindsR rb)
  fields : MapE w o.fb (fieldsE L o.us)
  ul : o.us.length = L.length
  flds : ∀ i, i < L.length → FldsAt w (o.us.getD i undef) (L.getD i zm).fs
  pin : ∀ k, P k → k < w.heap.size
  pa : P o.ab
  pt : P o.tb
  pk : P o.kb
  pf : P o.fb
  pu : ∀ i b, i < L.length → (o.us.getD i undef).ownBlock = some b → P b
  nr : ¬ P rb
  ns : ¬ P o.sb
  max : s.size ≤ 65536
  ok : Ok L
theorem RdFix.kept {w w' : World} {P : Nat → Prop} {o : Ro} {rb : Nat} {L : List Fm} {s : ByteArray} (h : RdFix w P o rb L s) (hk : Kept P w w') : RdFix w' P o rb L s :=
  { h with
    ab := (hk.block _ h.pa).trans h.ab
    tb := (hk.block _ h.pt).trans h.tb
    kinds := h.kinds.of_block (hk.block _ h.pk)
    fields := h.fields.of_block (hk.block _ h.pf)
    flds := fun i hi => (h.flds i hi).keep hk.size fun b hb => hk.block b (h.pu i b hi hb)
    pin := fun k hp => Nat.lt_of_lt_of_le (h.pin k hp) hk.size }
/-- What grows. -/
structure RdMut (w : World) (P : Nat → Prop) (o : Ro) (rb : Nat) (s : ByteArray) (ps : List Pt) (vp : Value) (k : Nat) (vs : Value) : Prop where
  blk : Blk w rb 112 #[.map (some o.fb), .map (some o.kb), .string s, sumF o, vp]
  sums : SumsAt w o.sb o.ab (atF o.tb) (sumTo s) k vs
  kle : k ≤ s.size
  row : w.ownsRow 0 26 6 vp ps.length (flatP ps)
  len : ps.length ≤ 5000
  nS : ∀ g, vs.ownBlock = some g → ¬ P g
  nP : ∀ g, vp.ownBlock = some g → ¬ P g
/-- A reader, with these parts so far; P tells the blocks that others hold. -/
def Rd (w : World) (P : Nat → Prop) (o : Ro) (rb : Nat) (L : List Fm) (s : ByteArray) (ps : List Pt) : Prop := RdFix w P o rb L s ∧ ∃ vp k vs, RdMut w P o rb s ps vp k vs

/-- Of a block of another type. -/
theorem own_ne {w : World} {base g : Nat} {e t : TypeId} {size n : Nat} {v : Value} {xs : List Value} {cs : Array Value} (h : w.ownsRow base e size v n xs) (hg : Blk w g t cs) (hne : e ≠ t) {q : Nat} (hq : v.ownBlock = some q) : q ≠ g := fun e' => own_blk_ne h hg hne (e' ▸ hq)
theorem own_own_ne {w : World} {b1 b2 : Nat} {e1 e2 : TypeId} {s1 s2 n1 n2 : Nat} {v1 v2 : Value} {x1 x2 : List Value} (h1 : w.ownsRow b1 e1 s1 v1 n1 x1) (h2 : w.ownsRow b2 e2 s2 v2 n2 x2) (hne : e1 ≠ e2) {q r : Nat} (hq : v1.ownBlock = some q) (hr : v2.ownBlock = some r) : q ≠ r := by
  obtain ⟨cur, hh⟩ := own_heap h2 hr
  exact own_ne (t := e2) h1 hh hne hq
/-- A block of another type is protected as well. -/
theorem Rd.add_ {w : World} {P : Nat → Prop} {o : Ro} {rb : Nat} {L : List Fm} {s : ByteArray} {ps : List Pt} (h : Rd w P o rb L s ps) {g : Nat} {t : TypeId} {cs : Array Value} (hg : Blk w g t cs)
    (h1 : t ≠ 112) (h2 : t ≠ 24) (h3 : t ≠ 3) (h4 : t ≠ 26) : Rd w (fun k => P k ∨ k = g) o rb L s ps := by
  obtain ⟨hf, vp, k, vs, hm⟩ := h
  refine ⟨{ hf with pin := ?_, pa := .inl hf.pa, pt := .inl hf.pt, pk := .inl hf.pk, pf := .inl hf.pf, pu := fun i b hi hb => .inl (hf.pu i b hi hb), nr := ?_, ns := ?_ }, vp, k, vs, { hm with nS := ?_, nP := ?_ }⟩
  · rintro q (hq | rfl)
    · exact hf.pin q hq
    · exact hg.lt
  · rintro (hq | hq)
    · exact hf.nr hq
    · exact Blk.ne_ hg hm.blk h1 hq.symm
  · rintro (hq | hq)
    · exact hf.ns hq
    · exact Blk.ne_ hg hm.sums.sb h2 hq.symm
  · rintro q hq (hp | hp)
    · exact hm.nS q hq hp
    · exact own_ne hm.sums.row hg (Ne.symm h3) hq hp
  · rintro q hq (hp | hp)
    · exact hm.nP q hq hp
    · exact own_ne hm.row hg (Ne.symm h4) hq hp
/-- Less is protected. -/
theorem Rd.weak {w w' : World} {P P' : Nat → Prop} {o : Ro} {rb : Nat} {L : List Fm} {s : ByteArray} {ps ps' : List Pt} (h : Rd w P o rb L s ps) (h' : Rd w' P' o rb L s ps') (hs : w.heap.size ≤ w'.heap.size) (hp : ∀ k, P k → P' k) : Rd w' P o rb L s ps' := by
  obtain ⟨hf, -⟩ := h
  obtain ⟨hf', vp, k, vs, hm⟩ := h'
  exact ⟨{ hf' with pin := fun q hq => Nat.lt_of_lt_of_le (hf.pin q hq) hs, pa := hf.pa, pt := hf.pt, pk := hf.pk, pf := hf.pf, pu := hf.pu, nr := hf.nr, ns := hf.ns }, vp, k, vs, { hm with nS := fun g hg hq => hm.nS g hg (hp g hq), nP := fun g hg hq => hm.nP g hg (hp g hq) }⟩
theorem SumsAt.below {w w' : World} {sb ab : Nat} {fv : Value} {σ : Nat → Int} {k : Nat} {vs : Value} (h : SumsAt w sb ab fv σ k vs) (hb : Below w.heap.size w w') : SumsAt w' sb ab fv σ k vs :=
  ⟨(hb.block _ h.sb.lt).trans h.sb, (hb.block _ h.ab.lt).trans h.ab, ownsRow_below h.row hb⟩
theorem SumsAt.keep {w w' : World} {sb ab : Nat} {fv : Value} {σ : Nat → Int} {k : Nat} {vs : Value} (h : SumsAt w sb ab fv σ k vs) (h1 : w'.heap[sb]? = w.heap[sb]?) (h2 : w'.heap[ab]? = w.heap[ab]?) (h3 : ∀ g, vs.ownBlock = some g → w'.heap[g]? = w.heap[g]?) : SumsAt w' sb ab fv σ k vs :=
  ⟨h1.trans h.sb, h2.trans h.ab, own_keep h.row fun g _ hg _ => h3 g hg⟩
/-- New blocks make no difference. -/
theorem Rd.below {w w' : World} {P : Nat → Prop} {o : Ro} {rb : Nat} {L : List Fm} {s : ByteArray} {ps : List Pt} (h : Rd w P o rb L s ps) (hb : Below w.heap.size w w') : Rd w' P o rb L s ps := by
  obtain ⟨hf, vp, k, vs, hm⟩ := h
  refine ⟨hf.kept (Kept.of_below hb hf.pin), vp, k, vs, { hm with blk := (hb.block _ hm.blk.lt).trans hm.blk, sums := hm.sums.below hb, row := ownsRow_below hm.row hb }⟩
/-- A block that the reader does not own is written. -/
theorem Rd.write {w w' : World} {P : Nat → Prop} {o : Ro} {rb : Nat} {L : List Fm} {s : ByteArray} {ps : List Pt} (h : Rd w P o rb L s ps) {g : Nat} {t : TypeId} {cs : Array Value} (hg : Blk w g t cs) (hP : ¬ P g)
    (h1 : t ≠ 112) (h2 : t ≠ 24) (h3 : t ≠ 3) (h4 : t ≠ 26) (hk : Kept (fun k => k ≠ g) w w') : Rd w' P o rb L s ps := by
  obtain ⟨hf, vp, k, vs, hm⟩ := h
  refine ⟨hf.kept (hk.mono fun k hp e => hP (e ▸ hp)), vp, k, vs, { hm with blk := (hk.block _ (fun e => Blk.ne_ hg hm.blk h1 e.symm)).trans hm.blk, sums := hm.sums.keep (hk.block _ fun e => Blk.ne_ hg hm.sums.sb h2 e.symm) (hk.block _ fun e => hP (e ▸ hf.pa)) (fun q hq => hk.block _ (own_ne hm.sums.row hg (Ne.symm h3) hq)), row := own_keep hm.row fun q _ hq _ => hk.block _ (own_ne hm.row hg (Ne.symm h4) hq) }⟩

/-! the sum of the first bytes -/
theorem rat_any (tb : Nat) (s : ByteArray) (i : Nat) (w : World) (h : Blk w tb 9 #[.string s]) (hi : i < s.size) :
    Calls Tryz.prog 66 #[.int .i64 i, ptr tb] w fun e w' => e = .returned (.int .u8 (byteAt s i)) ∧ w' = w := by
  have c0 := h.cell 0
  simp only [List.getElem?_toArray, List.getElem?_cons_zero] at c0
  obtain ⟨B, hB⟩ : ∃ B : Int, ((s[i]).toNat : Int) = B := ⟨_, rfl⟩
  have e : byteAt s i = B := by unfold byteAt; rw [dif_pos hi]; exact hB
  rw [e]
  clear h e
  go_enter Tryz.func66, Tryz.ntmps66
  go_wp2
  go_ret
  exact ⟨rfl, rfl⟩
theorem enters_rat : Enters 66 := fun args w => by
  simp [callFunc, Tryz.func66, Tryz.f66]
theorem rsum_any {w : World} {P : Nat → Prop} {o : Ro} {rb : Nat} {L : List Fm} {s : ByteArray} {ps : List Pt} (n : Nat) (h : Rd w P o rb L s ps) (hn : n ≤ s.size) :
    Calls Tryz.prog 93 #[.int .i64 n, ptr o.sb, ptr o.ab] w fun e w' => e = .returned (.int .i64 (sumTo s n)) ∧ Kept P w w' ∧ Rd w' P o rb L s ps := by
  obtain ⟨hf, vp, k, vs, hm⟩ := h
  have hsb := hm.sums.sb
  refine (sum_any (fun g => P g ∨ g = rb ∨ vp.ownBlock = some g) _ #[ptr o.tb] (sumTo s) (byteAt s) o.sb o.ab k n vs w hm.sums enters_rat (adds_of s) (by have := hm.kle; have := hf.max; omega) (by have := hf.max; omega) ?_ ?_ ?_ (.inl hf.pa) ?_).mono ?_
  · rintro (h | h | h)
    · exact hf.ns h
    · exact Blk.ne_ hsb hm.blk (by decide) h
    · exact own_ne hm.row hsb (by decide) h rfl
  · rintro g hg (h | h | h)
    · exact hm.nS g hg h
    · exact own_ne hm.sums.row hm.blk (by decide) hg h
    · exact own_own_ne hm.sums.row hm.row (by decide) hg h rfl
  · rintro g (h | h | h)
    · exact hf.pin g h
    · rw [h]; exact hm.blk.lt
    · exact own_lt hm.row h
  · intro W i hk h1 h2
    exact rat_any o.tb s i W ((hk.block _ (.inl hf.pt)).trans hf.tb) (by omega)
  · rintro e w' ⟨rfl, hk, k', vs', hkk, hs, hv⟩
    refine ⟨rfl, hk.mono fun g h => .inl h, hf.kept (hk.mono fun g h => .inl h), vp, k', vs', { hm with blk := (hk.block _ (.inr (.inl rfl))).trans hm.blk, sums := hs, kle := ?_, row := own_keep hm.row fun g _ hg _ => hk.block _ (.inr (.inr hg)), nS := fun g hg hp => hv g hg (.inl hp) }⟩
    have := hm.kle
    omega
end RecG
section RecH
open Go.RowKit Fx Rec

/-- What comes of a recogniser. -/
def KPost (w : World) (P : Nat → Prop) (o : Ro) (rb : Nat) (L : List Fm) (s : ByteArray) (ps : List Pt) (r : Except Rf (Nat × Int × List Pt)) (e : Ending) (w' : World) : Prop :=
  Kept P w w' ∧ match r with
  | .ok x => e = .returned (.tuple #[.int .i64 (x.1 : Nat), .int .i64 x.2.1]) ∧ Rd w' P o rb L s (ps ++ x.2.2)
  | .error f => e = Stops f ∧ ∃ ps', Rd w' P o rb L s ps'
theorem KPost.no {w w' : World} {P : Nat → Prop} {o : Ro} {rb : Nat} {L : List Fm} {s : ByteArray} {ps : List Pt} {f : Rf} {r : Except Rf (Nat × Int × List Pt)} (hr : r = .error f) (h : Rd w P o rb L s ps) (hb : Below w.heap.size w w') : KPost w P o rb L s ps r (Stops f) w' := by
  subst hr
  exact ⟨Kept.of_below hb h.1.pin, rfl, ps, h.below hb⟩
theorem KPost.yes {w w' : World} {P : Nat → Prop} {o : Ro} {rb : Nat} {L : List Fm} {s : ByteArray} {ps : List Pt} {E : Int} {n : Int} {en : Nat} {r : Except Rf (Nat × Int × List Pt)} (hr : r = .ok (en, n, [])) (he : E = en) (h : Rd w P o rb L s ps) (hb : Below w.heap.size w w') :
    KPost w P o rb L s ps r (.returned (.tuple #[.int .i64 E, .int .i64 n])) w' := by
  subst hr he
  exact ⟨Kept.of_below hb h.1.pin, rfl, by rw [List.append_nil]; exact h.below hb⟩
theorem short_no {id : Int} {k a l n : Nat} {x : Except Rf (Nat × Int × List Pt)} (h : l < a + n) : short id k a l n x = .error ⟨a, id, k, 1⟩ := if_pos h
theorem short_yes {id : Int} {k a l n : Nat} {x : Except Rf (Nat × Int × List Pt)} (h : ¬ l < a + n) : short id k a l n x = x := if_neg h
/-- The value's field is a natural number. -/
structure VNat (v : Vl) (a l st k : Nat) : Prop where
  a : v.at_ = a
  l : v.limit = l
  st : v.start = st
  k : v.field = k
theorem VOk.nat {v : Vl} (h : VOk v) {k : Nat} (hk : v.field = k) : ∃ a l st : Nat, VNat v a l st k :=
  ⟨v.at_.toNat, v.limit.toNat, v.start.toNat, by have := h.at0; omega, by have := h.at0; have := h.lim; omega, by have := h.st0; omega, hk⟩
/-- The blocks of a field that is captured. -/
theorem box_cells (w : World) (f : Fld) : let W := w.alloc (.cells #[.int .i64 f.kind, .int .i64 f.n, .int .i64 f.frm, .string f.text] 56)
    W.cell? ⟨w.heap.size, 0, none⟩ = some (.int .i64 f.kind) ∧ W.cell? ⟨w.heap.size, 1, none⟩ = some (.int .i64 f.n) ∧ W.cell? ⟨w.heap.size, 2, none⟩ = some (.int .i64 f.frm) ∧ W.cell? ⟨w.heap.size, 3, none⟩ = some (.string f.text) := by
  have h := heap_alloc_new w (.cells #[.int .i64 f.kind, .int .i64 f.n, .int .i64 f.frm, .string f.text] 56)
  exact ⟨cell_of_row _ _ 0 _ _ _ h, cell_of_row _ _ 1 _ _ _ h, cell_of_row _ _ 2 _ _ _ h, cell_of_row _ _ 3 _ _ _ h⟩
theorem drewN_below (w : World) (n : Nat) : Below w.heap.size w (w.drewN n) := ⟨rfl, rfl, rfl, Nat.le_refl _, fun _ _ => rfl⟩
theorem drew2_below (w : World) (n : Nat) : Below w.heap.size w (w.drew.drewN n) := ⟨rfl, rfl, rfl, Nat.le_refl _, fun _ _ => rfl⟩
theorem Rd.stream {w : World} {P : Nat → Prop} {o : Ro} {rb : Nat} {L : List Fm} {s : ByteArray} {ps : List Pt} (h : Rd w P o rb L s ps) : w.cell? ⟨rb, 2, none⟩ = some (.string s) := by
  obtain ⟨_, vp, k, vs, hm⟩ := h
  rw [hm.blk.cell]; rfl

theorem str_eq {a b : ByteArray} (h : a = b) : (a.toList == b.toList) = true := by rw [h]; simp
theorem str_ne {a b : ByteArray} (h : a ≠ b) : (a.toList == b.toList) = false := by
  rw [beq_eq_false_iff_ne]
  intro e
  rw [ByteArray.toList_eq, ByteArray.toList_eq] at e
  exact h (ByteArray.ext (Array.toList_inj.1 e))
theorem str_slice {s : ByteArray} {x y : Int} {a n : Nat} (hx : x = a) (hy : y = (a : Int) + (n : Nat)) (h : a + n ≤ s.size) (W : World) :
    (Instr.slice 9 (.string s) (some (.int .i64 x)) (some (.int .i64 y)) none).run Tryz.prog W = .ok (.string (s.extract a (a + n))) W := by
  rw [run_slice_string W _ s .i64 .i64 x y Tryz.underlying9 (by omega) (by omega) (by omega)]
  rw [show x.toNat = a by omega, show y.toNat = a + n by omega]
section
variable {w : World} {P : Nat → Prop} {o : Ro} {rb vb : Nat} {L : List Fm} {s : ByteArray} {ps : List Pt} {v : Vl} {f : Fld} {a l st k : Nat}
set_option maxRecDepth 20000 in
set_option maxHeartbeats 2000000 in
theorem rd_literal (h : Rd w P o rb L s ps) (hv : VAt w vb v) (ok : VOk v) (hN : VNat v a l st k) (hl : l ≤ s.size) (ht : f.text.size ≤ 16) :
    Calls Tryz.prog 67 #[ptr rb, ptr vb, fldV f] w fun e w' =>
      KPost w P o rb L s ps (short v.format k a l f.text.size (unlessB (decide (s.extract a (a + f.text.size) = f.text)) ⟨a, v.format, k, 2⟩ (.ok (a + f.text.size, 0, [])))) e w' := by
  have na := hN.a
  have nl := hN.l
  have b0 := ok.at0
  have b1 := ok.lim
  have b2 := ok.max
  obtain ⟨n, hn⟩ : ∃ n : Int, (f.text.size : Int) = n := ⟨_, rfl⟩
  have HH := Lib.hid (And.intro h (And.intro hv (And.intro ok hN)))
  have HBX := Lib.hid (box_cells w f)
  have HV2 : Hid (∀ W, Below w.heap.size w W → VAt W vb v) := Lib.hid fun W hb => hv.keep (hb.block vb hv.blk.lt)
  clear h hv ok hN
  go_enter Tryz.func67, Tryz.ntmps67
  go_wp2_with fail
  by_cases hfit : n ≤ v.limit - v.at_
  · refine (after_yes vb v n _ (HV2.out _ (bx _)) HH.out.2.2.1 (by omega) (by omega) hfit).mono ?_
    rintro e w5 ⟨rfl, m5, hw⟩
    have hB : Below w.heap.size w w5 := by rw [hw]; exact (bx _).trans ((drewN_below _ _).mono (by simp))
    have c3 : w5.cell? ⟨w.heap.size, 3, none⟩ = some (.string f.text) := by rw [hw]; exact HBX.out.2.2.2
    obtain ⟨-, -, -, -, c4, -⟩ := (HV2.out _ hB).cells
    have cs := (HH.out.1.below hB).stream
    obtain ⟨X, hX⟩ : ∃ X, X = s.extract a (a + f.text.size) := ⟨_, rfl⟩
    have hsl : ∀ W, (Instr.slice 9 (.string s) (some (.int .i64 (a : Int))) (some (.int .i64 ((a : Int) + n))) none).run Tryz.prog W = .ok (.string X) W := by rw [hX]; exact str_slice rfl (by rw [hn]) (by omega)
    have HB := Lib.hid hB
    have HE := Lib.hid (And.intro hX hn)
    clear hw hB hX
    by_cases hXT : X = f.text
    · have hq := str_eq hXT
      have HY : Hid (∀ W, Below w5.heap.size w5 W → KPost w P o rb L s ps (short v.format k a l f.text.size (unlessB (decide (s.extract a (a + f.text.size) = f.text)) ⟨a, v.format, k, 2⟩ (.ok (a + f.text.size, 0, [])))) (.returned (.tuple #[.int .i64 ((a : Int) + n), .int .i64 0])) W) := Lib.hid fun W hb => by
        refine KPost.yes (en := a + f.text.size) ?_ (by rw [← HE.out.2]; omega) HH.out.1 (HB.out.trans (hb.mono HB.out.size))
        rw [short_yes (by omega), decide_eq_true (by rw [← HE.out.1]; exact hXT)]; rfl
      clear hXT
      go_wp2_with fail
      refine wp_region_held_drew (S := (fun w' : World => ∃ n : Nat, w' = w5.drewN n)) (by kernel_rfl) ⟨1, rfl⟩ (fun hHeld => ?_)
      refine takeHn 0 (h := ?_)
      (try simp only [pA, pB, pC, pD])
      refine takeHn 1 (h := ?_)
      (try simp only [pA, pB, pC, pD])
      refine takeHn 2 (h := ?_)
      (try simp only [pA, pB, pC, pD])
      refine takeHn 3 (h := ?_)
      (try simp only [pA, pB, pC, pD])
      refine takeHn 4 (h := ?_)
      (try simp only [pA, pB, pC, pD])
      refine takeHn 5 (h := ?_)
      (try simp only [pA, pB, pC, pD])
      refine takeHn 6 (h := ?_)
      (try simp only [pA, pB, pC, pD])
      refine takeHn 7 (h := ?_)
      (try simp only [pA, pB, pC, pD])
      refine takeHn 8 (h := ?_)
      (try simp only [pA, pB, pC, pD])
      refine takeHn 9 (h := ?_)
      (try simp only [pA, pB, pC, pD])
      refine takeHn 10 (h := ?_)
      (try simp only [pA, pB, pC, pD])
      refine takeHn 11 (h := ?_)
      (try simp only [pA, pB, pC, pD])
      refine takeHn 12 (h := ?_)
      (try simp only [pA, pB, pC, pD])
      refine takeHn 13 (h := ?_)
      (try simp only [pA, pB, pC, pD])
      refine wpAnyH_ready (rs := [14]) (by kernel_rfl) (by simp) ?_
      refine AllReadyH.cons (o := ?oB15) ?hB15 ?kB15 AllReadyH.nil
      case hB15 => (simp only [List.getElem?_toArray, List.getElem?_cons_zero, List.getElem?_cons_succ]; rfl)
      case kB15 =>
        intro K hK
        go_simp
        refine (vrequire_yes _ _ w5.drew).mono ?_
        rintro e w6 ⟨rfl, rfl⟩
        refine hK.out _ _ ⟨1, rfl⟩ (fun _ => ?_)
        clear hK K
        (try simp only [pA, pB, pC, pD])
        refine wpAnyH_done (by kernel_rfl) ?_ _
        go_wp2
        go_ret2
        exact HY.out _ (drewN_below _ 1)
    · have hq := str_ne hXT
      have HNO : Hid (∀ W, Below w5.heap.size w5 W → KPost w P o rb L s ps (short v.format k a l f.text.size (unlessB (decide (s.extract a (a + f.text.size) = f.text)) ⟨a, v.format, k, 2⟩ (.ok (a + f.text.size, 0, [])))) (Stops ⟨v.at_, v.format, v.field, 2⟩) W) := Lib.hid fun W hb => by
        rw [HH.out.2.2.2.a, HH.out.2.2.2.k]
        refine KPost.no ?_ HH.out.1 (HB.out.trans (hb.mono HB.out.size))
        rw [short_yes (by omega), decide_eq_false (by rw [← HE.out.1]; exact hXT)]; rfl
      clear hXT
      go_wp2_with fail
      refine wp_region_held_drew (S := (fun w' : World => ∃ n : Nat, w' = w5.drewN n)) (by kernel_rfl) ⟨1, rfl⟩ (fun hHeld => ?_)
      refine takeHn 0 (h := ?_)
      (try simp only [pA, pB, pC, pD])
      refine takeHn 1 (h := ?_)
      (try simp only [pA, pB, pC, pD])
      refine takeHn 2 (h := ?_)
      (try simp only [pA, pB, pC, pD])
      refine takeHn 3 (h := ?_)
      (try simp only [pA, pB, pC, pD])
      refine takeHn 4 (h := ?_)
      (try simp only [pA, pB, pC, pD])
      refine takeHn 5 (h := ?_)
      (try simp only [pA, pB, pC, pD])
      refine takeHn 6 (h := ?_)
      (try simp only [pA, pB, pC, pD])
      refine takeHn 7 (h := ?_)
      (try simp only [pA, pB, pC, pD])
      refine takeHn 8 (h := ?_)
      (try simp only [pA, pB, pC, pD])
      refine takeHn 9 (h := ?_)
      (try simp only [pA, pB, pC, pD])
      refine takeHn 10 (h := ?_)
      (try simp only [pA, pB, pC, pD])
      refine takeHn 11 (h := ?_)
      (try simp only [pA, pB, pC, pD])
      refine takeHn 12 (h := ?_)
      (try simp only [pA, pB, pC, pD])
      refine takeHn 13 (h := ?_)
      (try simp only [pA, pB, pC, pD])
      refine wpAnyH_ready (rs := [14]) (by kernel_rfl) (by simp) ?_
      refine AllReadyH.cons (o := ?oB30) ?hB30 ?kB30 AllReadyH.nil
      case hB30 => (simp only [List.getElem?_toArray, List.getElem?_cons_zero, List.getElem?_cons_succ]; rfl)
      case kB30 =>
        intro K hK
        go_simp
        refine (vrequire_no vb v 2 w5.drew (HV2.out _ HB.out).drew).mono ?_
        rintro e w6 ⟨rfl, n5, rfl⟩
        exact ⟨rfl, HNO.out _ (drew2_below w5 n5)⟩
  · refine (after_no vb v n _ (HV2.out _ (bx _)) HH.out.2.2.1 hfit).mono ?_
    rintro e w5 ⟨rfl, m5, hw⟩
    have hB : Below w.heap.size w w5 := by rw [hw]; exact (bx _).trans ((drewN_below _ _).mono (by simp))
    refine ⟨rfl, ?_⟩
    rw [HH.out.2.2.2.a, HH.out.2.2.2.k]
    exact KPost.no (short_no (by omega)) HH.out.1 hB
set_option maxRecDepth 20000 in
set_option maxHeartbeats 2000000 in
theorem rd_number (h : Rd w P o rb L s ps) (hv : VAt w vb v) (ok : VOk v) (hN : VNat v a l st k) (hl : l ≤ s.size) (f1 : 1 ≤ f.n) (f3 : f.n ≤ 3) :
    Calls Tryz.prog 68 #[ptr rb, ptr vb, fldV f] w fun e w' =>
      KPost w P o rb L s ps (short v.format k a l f.n.toNat (.ok (a + f.n.toNat, num (s.extract a (a + f.n.toNat)), []))) e w' := by
  have na := hN.a
  have nl := hN.l
  have b0 := ok.at0
  have b1 := ok.lim
  have b2 := ok.max
  obtain ⟨n, hn⟩ : ∃ n : Int, f.n = n := ⟨_, rfl⟩
  have HH := Lib.hid (And.intro h (And.intro hv (And.intro ok hN)))
  have HBX := Lib.hid (box_cells w f)
  have HV2 : Hid (∀ W, Below w.heap.size w W → VAt W vb v) := Lib.hid fun W hb => hv.keep (hb.block vb hv.blk.lt)
  clear h hv ok hN
  go_enter Tryz.func68, Tryz.ntmps68
  go_wp2_with fail
  by_cases hfit : n ≤ v.limit - v.at_
  · refine (after_yes vb v n _ (HV2.out _ (bx _)) HH.out.2.2.1 (by omega) (by omega) hfit).mono ?_
    rintro e w5 ⟨rfl, m5, hw⟩
    have hB : Below w.heap.size w w5 := by rw [hw]; exact (bx _).trans ((drewN_below _ _).mono (by simp))
    obtain ⟨-, -, -, -, c4, -⟩ := (HV2.out _ hB).cells
    have cs := (HH.out.1.below hB).stream
    obtain ⟨X, hX⟩ : ∃ X, X = s.extract a (a + f.n.toNat) := ⟨_, rfl⟩
    have hsl : ∀ W, (Instr.slice 9 (.string s) (some (.int .i64 (a : Int))) (some (.int .i64 ((a : Int) + n))) none).run Tryz.prog W = .ok (.string X) W := by rw [hX]; exact str_slice rfl (by omega) (by omega)
    have hxs : X.size ≤ 3 := by rw [hX, ByteArray.size_extract]; omega
    have HY : Hid (∀ W, Below w5.heap.size w5 W → KPost w P o rb L s ps (short v.format k a l f.n.toNat (.ok (a + f.n.toNat, num (s.extract a (a + f.n.toNat)), []))) (.returned (.tuple #[.int .i64 ((a : Int) + n), .int .i64 (num X)])) W) := Lib.hid fun W hb => by
      rw [hX]
      exact KPost.yes (en := a + f.n.toNat) (short_yes (by omega)) (by omega) HH.out.1 (hB.trans (hb.mono hB.size))
    clear hw hB hX
    go_wp2_with fail
    refine wp_region_held_drew (S := (fun w' : World => ∃ n : Nat, w' = w5.drewN n)) (by kernel_rfl) ⟨1, rfl⟩ (fun hHeld => ?_)
    refine takeHn 0 (h := ?_)
    (try simp only [pA, pB, pC, pD])
    refine takeHn 1 (h := ?_)
    (try simp only [pA, pB, pC, pD])
    refine takeHn 2 (h := ?_)
    (try simp only [pA, pB, pC, pD])
    refine takeHn 3 (h := ?_)
    (try simp only [pA, pB, pC, pD])
    refine takeHn 4 (h := ?_)
    (try simp only [pA, pB, pC, pD])
    refine takeHn 5 (h := ?_)
    (try simp only [pA, pB, pC, pD])
    refine takeHn 6 (h := ?_)
    (try simp only [pA, pB, pC, pD])
    refine takeHn 7 (h := ?_)
    (try simp only [pA, pB, pC, pD])
    refine takeHn 8 (h := ?_)
    (try simp only [pA, pB, pC, pD])
    refine takeHn 9 (h := ?_)
    (try simp only [pA, pB, pC, pD])
    refine takeHn 10 (h := ?_)
    (try simp only [pA, pB, pC, pD])
    refine wpAnyH_ready (rs := [11]) (by kernel_rfl) (by simp) ?_
    refine AllReadyH.cons (o := ?oB42) ?hB42 ?kB42 AllReadyH.nil
    case hB42 => (simp only [List.getElem?_toArray, List.getElem?_cons_zero, List.getElem?_cons_succ]; rfl)
    case kB42 =>
      intro K hK
      go_simp
      refine (number_any X w5.drew hxs).mono ?_
      rintro e w6 ⟨rfl, rfl⟩
      refine hK.out _ _ ⟨1, rfl⟩ (fun _ => ?_)
      clear hK K
      (try simp only [pA, pB, pC, pD])
      refine takeHn 12 (h := ?_)
      (try simp only [pA, pB, pC, pD])
      refine takeHn 13 (h := ?_)
      (try simp only [pA, pB, pC, pD])
      refine wpAnyH_done (by kernel_rfl) ?_ _
      go_wp2
      go_ret2
      exact HY.out _ (drewN_below _ 1)
  · refine (after_no vb v n _ (HV2.out _ (bx _)) HH.out.2.2.1 hfit).mono ?_
    rintro e w5 ⟨rfl, m5, hw⟩
    have hB : Below w.heap.size w w5 := by rw [hw]; exact (bx _).trans ((drewN_below _ _).mono (by simp))
    refine ⟨rfl, ?_⟩
    rw [HH.out.2.2.2.a, HH.out.2.2.2.k]
    exact KPost.no (short_no (by omega)) HH.out.1 hB

set_option maxRecDepth 20000 in
set_option maxHeartbeats 2000000 in
theorem rd_bytes_n (h : Rd w P o rb L s ps) (hv : VAt w vb v) (ok : VOk v) (hN : VNat v a l st k) (hfr : f.frm = -1) (f1 : 0 ≤ f.n) (f3 : f.n ≤ 4096) :
    Calls Tryz.prog 69 #[ptr rb, ptr vb, fldV f] w fun e w' =>
      KPost w P o rb L s ps (short v.format k a l f.n.toNat (.ok (a + f.n.toNat, 0, []))) e w' := by
  have na := hN.a
  have nl := hN.l
  have b0 := ok.at0
  have b1 := ok.lim
  have b2 := ok.max
  obtain ⟨n, hn⟩ : ∃ n : Int, f.n = n := ⟨_, rfl⟩
  have HH := Lib.hid (And.intro h (And.intro hv (And.intro ok hN)))
  have HV2 : Hid (∀ W, Below w.heap.size w W → VAt W vb v) := Lib.hid fun W hb => hv.keep (hb.block vb hv.blk.lt)
  clear h hv ok hN
  go_enter Tryz.func69, Tryz.ntmps69
  go_wp2_with fail
  by_cases hfit : n ≤ v.limit - v.at_
  · refine (after_yes vb v n _ (HV2.out _ (bx _)) HH.out.2.2.1 (by omega) (by omega) hfit).mono ?_
    rintro e w5 ⟨rfl, m5, hw⟩
    have HB := Lib.hid (show Below w.heap.size w w5 by rw [hw]; exact (bx _).trans ((drewN_below _ _).mono (by simp)))
    clear hw
    go_wp2
    go_ret2
    exact KPost.yes (en := a + f.n.toNat) (short_yes (by omega)) (by omega) HH.out.1 HB.out
  · refine (after_no vb v n _ (HV2.out _ (bx _)) HH.out.2.2.1 hfit).mono ?_
    rintro e w5 ⟨rfl, m5, hw⟩
    have hB : Below w.heap.size w w5 := by rw [hw]; exact (bx _).trans ((drewN_below _ _).mono (by simp))
    refine ⟨rfl, ?_⟩
    rw [HH.out.2.2.2.a, HH.out.2.2.2.k]
    exact KPost.no (short_no (by omega)) HH.out.1 hB
set_option maxRecDepth 20000 in
set_option maxHeartbeats 2000000 in
theorem rd_bytes_from (h : Rd w P o rb L s ps) (hv : VAt w vb v) (ok : VOk v) (hN : VNat v a l st k) (q : Nat) (hq : f.frm = q) (hq16 : q < 16) :
    Calls Tryz.prog 69 #[ptr rb, ptr vb, fldV f] w fun e w' =>
      KPost w P o rb L s ps (short v.format k a l (told f v.nums) (.ok (a + told f v.nums, 0, []))) e w' := by
  have na := hN.a
  have nl := hN.l
  have b0 := ok.at0
  have b1 := ok.lim
  have b2 := ok.max
  have bq := ok.num q hq16
  obtain ⟨n, hn⟩ : ∃ n : Int, v.nums.getD q 0 = n := ⟨_, rfl⟩
  rw [hn] at bq
  have htl : told f v.nums = n.toNat := by unfold told; rw [hq, ← hn]; rfl
  have cq : w.cell? ⟨vb, 6 + q, none⟩ = some (.int .i64 n) := by rw [hv.num hq16, hn]
  have HBX := Lib.hid (box_cells w f)
  have lv := hv.blk.lt
  have HC : Hid (∀ W, Below w.heap.size w W → W.cell? ⟨vb, 6 + q, none⟩ = some (.int .i64 n)) := Lib.hid fun W hb => (hb.cell (p := ⟨vb, 6 + q, none⟩) lv).trans cq
  have HH := Lib.hid (And.intro h (And.intro hv (And.intro ok hN)))
  have HV2 : Hid (∀ W, Below w.heap.size w W → VAt W vb v) := Lib.hid fun W hb => hv.keep (hb.block vb hv.blk.lt)
  have hne : ((q : Int) == -1) = false := by rw [beq_eq_false_iff_ne]; omega
  have hin : (0 : Int) ≤ (q : Int) ∧ (q : Int) < 16 := by omega
  rw [htl]
  clear h hv ok hN cq hn
  go_enter Tryz.func69, Tryz.ntmps69
  go_wp2_with fail
  have hB0 := bx (w := w) (.cells #[.int .i64 f.kind, .int .i64 f.n, .int .i64 (q : Int), .string f.text] 56)
  have c2 : (w.alloc (.cells #[.int .i64 f.kind, .int .i64 f.n, .int .i64 (q : Int), .string f.text] 56)).cell? ⟨w.heap.size, 2, none⟩ = some (.int .i64 (q : Int)) := cell_of_row _ _ 2 _ _ _ (heap_alloc_new w _)
  have cq := HC.out _ hB0
  have HB0 := Lib.hid hB0
  clear hB0
  generalize w.alloc (.cells #[.int .i64 f.kind, .int .i64 f.n, .int .i64 (q : Int), .string f.text] 56) = W at *
  by_cases hfit : n ≤ v.limit - v.at_
  · have HY : Hid (∀ W', Below W.heap.size W W' → KPost w P o rb L s ps (short v.format k a l n.toNat (.ok (a + n.toNat, 0, []))) (.returned (.tuple #[.int .i64 ((a : Int) + n), .int .i64 0])) W') := Lib.hid fun W' hb =>
      KPost.yes (en := a + n.toNat) (short_yes (by omega)) (by omega) HH.out.1 (HB0.out.trans (hb.mono HB0.out.size))
    have HCL : Hid (Calls Tryz.prog 94 #[ptr vb, .int .i64 n] W.drew fun e w' => e = .returned (.int .i64 (v.at_ + n)) ∧ ∃ m, w' = W.drew.drewN m) := Lib.hid (after_yes vb v n _ (HV2.out _ HB0.out.drew) HH.out.2.2.1 bq.1 bq.2 hfit)
    clear hfit
    refine wp_region_held_drew (S := (fun w' : World => ∃ n : Nat, w' = W.drewN n)) (by kernel_rfl) ⟨1, rfl⟩ (fun hHeld => ?_)
    refine takeHn 0 (h := ?_)
    (try simp only [pA, pB, pC, pD])
    refine takeHn 1 (h := ?_)
    (try simp only [pA, pB, pC, pD])
    refine takeHn 2 (h := ?_)
    (try simp only [pA, pB, pC, pD])
    refine takeHn 3 (h := ?_)
    (try simp only [pA, pB, pC, pD])
    refine takeHn 4 (h := ?_)
    (try simp only [pA, pB, pC, pD])
    refine takeHn 5 (h := ?_)
    (try simp only [pA, pB, pC, pD])
    refine takeHn 6 (h := ?_)
    (try simp only [pA, pB, pC, pD])
    refine takeHn 7 (h := ?_)
    (try simp only [pA, pB, pC, pD])
    refine wpAnyH_ready (rs := [8]) (by kernel_rfl) (by simp) ?_
    refine AllReadyH.cons (o := ?oB53) ?hB53 ?kB53 AllReadyH.nil
    case hB53 => (simp only [List.getElem?_toArray, List.getElem?_cons_zero, List.getElem?_cons_succ]; rfl)
    case kB53 =>
      intro K hK
      go_simp
      refine HCL.out.mono ?_
      rintro e w6 ⟨rfl, m6, rfl⟩
      refine hK.out _ _ ⟨m6 + 1, by rw [Nat.add_comm]; exact World.drewN_drewN _ 1 m6⟩ (fun _ => ?_)
      clear hK K
      (try simp only [pA, pB, pC, pD])
      refine takeHn 9 (h := ?_)
      (try simp only [pA, pB, pC, pD])
      refine takeHn 10 (h := ?_)
      (try simp only [pA, pB, pC, pD])
      refine wpAnyH_done (by kernel_rfl) ?_ _
      go_wp2
      go_ret2
      exact HY.out _ (drew2_below W m6)
  · have HNO : Hid (∀ W', Below W.heap.size W W' → KPost w P o rb L s ps (short v.format k a l n.toNat (.ok (a + n.toNat, 0, []))) (Stops ⟨v.at_, v.format, v.field, 1⟩) W') := Lib.hid fun W' hb => by
      rw [HH.out.2.2.2.a, HH.out.2.2.2.k]
      exact KPost.no (short_no (by omega)) HH.out.1 (HB0.out.trans (hb.mono HB0.out.size))
    have HCL : Hid (Calls Tryz.prog 94 #[ptr vb, .int .i64 n] W.drew fun e w' => e = Stops ⟨v.at_, v.format, v.field, 1⟩ ∧ ∃ m, w' = W.drew.drewN m) := Lib.hid (after_no vb v n _ (HV2.out _ HB0.out.drew) HH.out.2.2.1 hfit)
    clear hfit
    refine wp_region_held_drew (S := (fun w' : World => ∃ n : Nat, w' = W.drewN n)) (by kernel_rfl) ⟨1, rfl⟩ (fun hHeld => ?_)
    refine takeHn 0 (h := ?_)
    (try simp only [pA, pB, pC, pD])
    refine takeHn 1 (h := ?_)
    (try simp only [pA, pB, pC, pD])
    refine takeHn 2 (h := ?_)
    (try simp only [pA, pB, pC, pD])
    refine takeHn 3 (h := ?_)
    (try simp only [pA, pB, pC, pD])
    refine takeHn 4 (h := ?_)
    (try simp only [pA, pB, pC, pD])
    refine takeHn 5 (h := ?_)
    (try simp only [pA, pB, pC, pD])
    refine takeHn 6 (h := ?_)
    (try simp only [pA, pB, pC, pD])
    refine takeHn 7 (h := ?_)
    (try simp only [pA, pB, pC, pD])
    refine wpAnyH_ready (rs := [8]) (by kernel_rfl) (by simp) ?_
    refine AllReadyH.cons (o := ?oB64) ?hB64 ?kB64 AllReadyH.nil
    case hB64 => (simp only [List.getElem?_toArray, List.getElem?_cons_zero, List.getElem?_cons_succ]; rfl)
    case kB64 =>
      intro K hK
      go_simp
      refine HCL.out.mono ?_
      rintro e w6 ⟨rfl, n5, rfl⟩
      exact ⟨rfl, HNO.out _ (drew2_below W n5)⟩
end
end RecH
end Go.Proofs.YtdndmhlmbpgdeaaGreatDoor
