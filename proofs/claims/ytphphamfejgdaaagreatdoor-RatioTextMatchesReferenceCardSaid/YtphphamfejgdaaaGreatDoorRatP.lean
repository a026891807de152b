/- Parse. Conditions: a text of at most 1000 bytes; what the functions of texts read of memory. -/
import Derived.Test.YtphphamfejgdaaaGreatDoorRatO
namespace Go.Proofs.YtphphamfejgdaaaGreatDoor
open Go.RowKit

theorem cut_b (s L R : ByteArray) (f : Bool) (a : Addr) (w : World) (hs : s.size ≤ 1000) (hT : Txt w a) (h : Lib.cut s.data.toList [47] = (L.data.toList, R.data.toList, f)) :
    Calls Tryz.prog 57 #[.string s, .string ⟨#[47]⟩] w fun e w' => e = .returned (.tuple #[.string L, .string R, .bool f]) ∧ Below w.heap.size w w' :=
  (cut_any s L R f a w (by omega) hT h).mono fun e w' ⟨he, n, hw⟩ => ⟨he, by rw [hw]; exact Go.Joins.below_draws _ _ _⟩
theorem cut_len (l sep : List UInt8) : (Lib.cut l sep).1.length ≤ l.length ∧ (Lib.cut l sep).2.1.length ≤ l.length := by
  unfold Lib.cut
  split
  · simp only [List.length_take, List.length_drop]; omega
  · simp
theorem num_bounds {l : List UInt8} {n : Int} (h : Rt.numO l = some n) : -9223372036854775808 ≤ n ∧ n ≤ 9223372036854775807 := by
  unfold Rt.numO at h
  split at h
  · rename_i v hv
    obtain rfl : v = n := by simpa using h
    have := Lib.atoiAll_bounds hv
    omega
  · cases h
/-- What two numbers give together. -/
def joinO (l : List UInt8) : Option Int → Option Int → Option Rat
  | some n, some d => Rt.backO n d l
  | _, _ => none
theorem str_beq (a b : ByteArray) : (a.toList == b.toList) = decide (a = b) := by
  rw [ByteArray.toList_eq, ByteArray.toList_eq]
  by_cases h : a = b
  · subst h; simp
  · have : a.data.toList ≠ b.data.toList := fun e => h (Go.WideShapes.bytes_inj e)
    simp [h, beq_eq_false_iff_ne.2 this]

set_option maxRecDepth 20000 in
set_option maxHeartbeats 1000000 in
theorem parse1_any (bp : Nat) (s : ByteArray) (o : Option Rat) (er : Addr) (w : World) (hs : s.size ≤ 1000) (hT : Txt w er) (ho : Rt.parseO s.data.toList = o) (p0 : w.cell? ⟨bp, 0, none⟩ = some (.string s)) :
    Calls Tryz.prog 56 #[.pointer (some ⟨bp, 0, none⟩)] w fun e w' => e = outcome er o ∧ Below w.heap.size w w' := by
  obtain ⟨L, hL⟩ : ∃ L : ByteArray, L = ⟨(Lib.cut s.data.toList [47]).1.toArray⟩ := ⟨_, rfl⟩
  obtain ⟨R, hR⟩ : ∃ R : ByteArray, R = ⟨(Lib.cut s.data.toList [47]).2.1.toArray⟩ := ⟨_, rfl⟩
  obtain ⟨f, hf⟩ : ∃ f, f = (Lib.cut s.data.toList [47]).2.2 := ⟨_, rfl⟩
  have hsl : s.data.toList.length ≤ 1000 := by rw [Array.length_toList]; exact hs
  have hLs : L.size ≤ 1000 := by rw [hL]; exact Nat.le_trans (cut_len s.data.toList [47]).1 hsl
  have hRs : R.size ≤ 1000 := by rw [hR]; exact Nat.le_trans (cut_len s.data.toList [47]).2 hsl
  have hcut : Lib.cut s.data.toList [47] = (L.data.toList, R.data.toList, f) := by rw [hL, hR, hf]
  obtain ⟨D, hD⟩ : ∃ D : ByteArray, D = if f then R else ⟨#[49]⟩ := ⟨_, rfl⟩
  have hDs : D.size ≤ 1000 := by
    rw [hD]; cases f
    · exact show (1 : Nat) ≤ 1000 by decide
    · exact hRs
  obtain ⟨on, hn⟩ : ∃ on, Rt.numO L.data.toList = on := ⟨_, rfl⟩
  obtain ⟨od, hd⟩ : ∃ od, Rt.numO D.data.toList = od := ⟨_, rfl⟩
  have HP : Hid (o = joinO s.data.toList on od) := Lib.hid (by
    rw [← ho, ← hn, ← hd, hD]; unfold Rt.parseO; rw [hcut]
    cases f
    · rfl
    · rfl)
  have HN := Lib.hid hn
  have HD := Lib.hid hd
  have HT := Lib.hid hT
  have HC := Lib.hid hcut
  have HSZ := Lib.hid (And.intro hs (And.intro hLs hDs))
  have HDD := Lib.hid hD
  have hp := World.block_lt_of_cell? (a := ⟨bp, 0, none⟩) (h := p0)
  clear hn hd hT hcut hs hsl hLs hRs hDs hD hL hR hf ho
  go_enter Tryz.func56, Tryz.ntmps56
  go_wp2_with fail
  have hb0 : Below w.heap.size w (w.alloc (Obj.cells #[Value.int IntKind.i64 0, Value.int IntKind.i64 0] 25)) := (Below.refl _ _).alloc (Nat.le_refl _) _
  refine (cut_b s L R f er _ HSZ.out.1 (HT.out.below hb0) HC.out).mono ?_
  rintro e w2 ⟨rfl, hB⟩
  obtain ⟨hc, hz⟩ := bcell hB
  have x0 : w2.cell? ⟨bp, 0, none⟩ = some (.string s) := by rw [hc _ _ (by first | (simp; done) | (simp; omega))]; simp [go_sem, *]
  have y0 : w2.cell? ⟨w.heap.size, 0, none⟩ = some (.int .i64 0) := by rw [hc _ _ (by first | (simp; done) | (simp; omega))]; simp [go_sem]
  have y1 : w2.cell? ⟨w.heap.size, 1, none⟩ = some (.int .i64 0) := by rw [hc _ _ (by first | (simp; done) | (simp; omega))]; simp [go_sem]
  have z0 : w2.frozen? ⟨w.heap.size, 0, none⟩ = false := by rw [hz _ _ (by first | (simp; done) | (simp; omega))]; simp [go_sem]
  have z1 : w2.frozen? ⟨w.heap.size, 1, none⟩ = false := by rw [hz _ _ (by first | (simp; done) | (simp; omega))]; simp [go_sem]
  have hsz : w.heap.size < w2.heap.size := by have := hB.size; simp at this; omega
  have HB2 : Hid (Below w.heap.size w w2) := Lib.hid (hb0.trans (hB.mono (by simp)))
  clear hB hb0 hc hz p0
  have KEY : ∀ b, b < w2.heap.size → ∀ w', Below w2.heap.size w2 w' → (∀ o, w'.cell? ⟨b, o, none⟩ = w2.cell? ⟨b, o, none⟩) ∧ ∀ o, w'.frozen? ⟨b, o, none⟩ = w2.frozen? ⟨b, o, none⟩ := fun b hb w' h' => ⟨fun o => (bcell h').1 b o hb, fun o => (bcell h').2 b o hb⟩
  have hp2 := World.block_lt_of_cell? (a := ⟨bp, 0, none⟩) (h := x0)
  have HK := Lib.hid (And.intro (KEY bp hp2) (KEY w.heap.size hsz))
  have X := Lib.hid (And.intro x0 (And.intro (And.intro y0 y1) (And.intro z0 z1)))
  clear KEY x0 y0 y1 z0 z1

  have hfd : (f = false ∧ D = ⟨#[49]⟩) ∨ (f = true ∧ D = R) := by
    have := HDD.out
    cases f
    · exact .inl ⟨rfl, this⟩
    · exact .inr ⟨rfl, this⟩
  rcases hfd with ⟨rfl, rfl⟩ | ⟨rfl, rfl⟩
  all_goals
    clear HDD HC
    go_wp2_with fail
    refine (number_any L on er _ HSZ.out.2.1 (HT.out.below HB2.out) HN.out).mono ?_
    rintro e w3 ⟨rfl, hB3⟩
    cases on with
    | none =>
      obtain rfl : o = none := HP.out
      have HB3 : Hid (Below w.heap.size w w3) := Lib.hid (HB2.out.trans (hB3.mono HB2.out.size))
      clear hB3
      unfold outcomeI
      go_wp2_with fail
      exact ⟨rfl, rfl, HB3.out⟩
    | some n =>
      unfold outcomeI
      go_wp2_with fail
      refine (number_any _ od er _ HSZ.out.2.2 (HT.out.below (HB2.out.trans (hB3.mono HB2.out.size))) HD.out).mono ?_
      rintro e w4 ⟨rfl, hB4⟩
      have HB24 := Lib.hid (hB3.trans (hB4.mono hB3.size))
      have HB4 : Hid (Below w.heap.size w w4) := Lib.hid (HB2.out.trans (HB24.out.mono HB2.out.size))
      clear hB3 hB4
      cases od with
      | none =>
        obtain rfl : o = none := HP.out
        unfold outcomeI
        go_wp2_with fail
        exact ⟨rfl, rfl, HB4.out⟩
      | some d =>
        have HO : Hid (Rt.backO n d s.data.toList = o) := Lib.hid HP.out.symm
        have HI := Lib.hid (And.intro (num_bounds HN.out) (num_bounds HD.out))
        unfold outcomeI
        go_wp2_with fail
        obtain ⟨v, hv⟩ : ∃ v, (Rt.rd n d).isSome = v := ⟨_, rfl⟩
        have HV := Lib.hid hv
        clear hv
        have hb4 : Below w2.heap.size w2 ((w4.alloc (Obj.cells #[Value.int IntKind.i64 n, Value.int IntKind.i64 d] 25)).alloc (Obj.cells #[Value.int IntKind.i64 n, Value.int IntKind.i64 d] 25)) :=
          (HB24.out.alloc HB24.out.size _).alloc (by have := HB24.out.size; simp; omega) _
        refine (check_any (w4.heap.size + 1) 1 (two n n) (two d d) v er _ (by decide) (fun i _ => ⟨two_bounds HI.out.1.1 HI.out.1.2 HI.out.1.1 HI.out.1.2 i, two_bounds HI.out.2.1 HI.out.2.2 HI.out.2.1 HI.out.2.2 i⟩) ⟨fun i hi => ?_, fun i hi => ?_⟩ ((HT.out.below HB2.out).below hb4).err (by rw [allV_one]; exact HV.out)).mono ?_
        · match i, hi with
          | 0, _ => simp [go_sem, two]
        · match i, hi with
          | 0, _ => simp [go_sem, two]
        have HB4' := Lib.hid hb4
        clear hb4
        cases v with
        | false =>
          have ho1 : o = none := by
            rw [← HO.out]; unfold Rt.backO
            cases h : Rt.rd n d with
            | none => rfl
            | some q => have := HV.out; rw [h] at this; cases this
          subst ho1
          rintro e w5 ⟨rfl, hB5⟩
          have HB5 : Hid (Below w.heap.size w w5) := Lib.hid (HB2.out.trans ((HB4'.out.trans (hB5.mono HB4'.out.size)).mono HB2.out.size))
          clear hB5
          unfold verdict
          go_wp2_with fail
          exact ⟨rfl, rfl, HB5.out⟩
        | true =>
          obtain ⟨q, hq⟩ : ∃ q, Rt.rd n d = some q := Option.isSome_iff_exists.1 HV.out
          have HQ := Lib.hid hq
          have HBD := Lib.hid (Rt.rd_bounds hq)
          clear hq
          rintro e w5 ⟨rfl, hB5⟩
          obtain ⟨hc, hz⟩ := bcell hB5
          have t0 : w5.cell? ⟨w4.heap.size, 0, none⟩ = some (.int .i64 n) := by rw [hc _ _ (by simp; omega)]; simp [go_sem]
          have t1 : w5.cell? ⟨w4.heap.size, 1, none⟩ = some (.int .i64 d) := by rw [hc _ _ (by simp; omega)]; simp [go_sem]
          have htz : w4.heap.size < w5.heap.size := by have := hB5.size; simp at this; omega
          have HB25 : Hid (Below w2.heap.size w2 w5) := Lib.hid (HB4'.out.trans (hB5.mono HB4'.out.size))
          have HB5 : Hid (Below w.heap.size w w5) := Lib.hid (HB2.out.trans (HB25.out.mono HB2.out.size))
          have x0 : w5.cell? ⟨bp, 0, none⟩ = some (.string s) := by rw [(HK.out.1 w5 HB25.out).1 0]; exact X.out.1
          have y0 : w5.cell? ⟨w.heap.size, 0, none⟩ = some (.int .i64 0) := by rw [(HK.out.2 w5 HB25.out).1 0]; exact X.out.2.1.1
          have y1 : w5.cell? ⟨w.heap.size, 1, none⟩ = some (.int .i64 0) := by rw [(HK.out.2 w5 HB25.out).1 1]; exact X.out.2.1.2
          have z0 : w5.frozen? ⟨w.heap.size, 0, none⟩ = false := by rw [(HK.out.2 w5 HB25.out).2 0]; exact X.out.2.2.1
          have z1 : w5.frozen? ⟨w.heap.size, 1, none⟩ = false := by rw [(HK.out.2 w5 HB25.out).2 1]; exact X.out.2.2.2
          have hbp5 := World.block_lt_of_cell? (a := ⟨bp, 0, none⟩) (h := x0)
          have hws5 := World.block_lt_of_cell? (a := ⟨w.heap.size, 0, none⟩) (h := y0)
          have hE5 := (HT.out.below HB5.out).err
          obtain ⟨S, hS⟩ : ∃ S : ByteArray, ⟨(textI n d).toArray⟩ = S := ⟨_, rfl⟩
          have HTX : Hid (∀ w1, Below w5.heap.size w5 w1 → Calls Tryz.prog 54 #[frac n d] w1 fun e w' => e = .returned (.string S) ∧
              (w'.cell? ⟨w4.heap.size, 0, none⟩ = some (.int .i64 n) ∧ w'.cell? ⟨w4.heap.size, 1, none⟩ = some (.int .i64 d) ∧ w'.cell? ⟨bp, 0, none⟩ = some (.string s) ∧ w'.cell? ⟨w.heap.size, 0, none⟩ = some (.int .i64 0) ∧
                w'.cell? ⟨w.heap.size, 1, none⟩ = some (.int .i64 0) ∧ w'.frozen? ⟨w.heap.size, 0, none⟩ = false ∧ w'.frozen? ⟨w.heap.size, 1, none⟩ = false ∧ w'.cell? ⟨0, 0, none⟩ = some (errV er) ∧ Below w5.heap.size w5 w')) := Lib.hid (fun w1 h1 => by
            have hb := HBD.out
            refine (text_any n d S er w1 hb.1 hb.2.1 (by omega) hb.2.2.2 ((HT.out.below HB5.out).below h1) hS).mono fun e w' ⟨he, h2⟩ => ⟨he, ?_⟩
            have h3 := h1.trans (h2.mono h1.size)
            obtain ⟨hc, hz⟩ := bcell h3
            exact ⟨by rw [hc _ _ htz]; exact t0, by rw [hc _ _ htz]; exact t1, by rw [hc _ _ hbp5]; exact x0, by rw [hc _ _ hws5]; exact y0, by rw [hc _ _ hws5]; exact y1, by rw [hz _ _ hws5]; exact z0, by rw [hz _ _ hws5]; exact z1, (hE5.below h3).cell, h3⟩)
          have HSS := Lib.hid hS
          have e0 := hE5.cell
          clear hc hz hB5 hS hE5 hbp5 hws5 htz
          obtain ⟨b2, hb2⟩ : ∃ b2, (S.toList == s.toList) = b2 := ⟨_, rfl⟩
          have HO2 : Hid (o = if b2 = true then some q else none) := Lib.hid (by
            rw [← HO.out]; unfold Rt.backO; rw [HQ.out]
            have e1 : Rt.textB q = textI n d := by obtain ⟨h1, h2, _⟩ := Rt.rd_some HQ.out; rw [← textI_of, h1, h2]
            rw [str_beq] at hb2
            have e2 : (Rt.textB q = s.data.toList) ↔ b2 = true := by
              rw [← hb2, decide_eq_true_eq, e1]
              constructor
              · intro h; rw [← HSS.out, h]
              · intro h; rw [← h, ← HSS.out]
            simp only [e2])
          have hq2 := Rt.rd_some HQ.out
          have HQ2 := Lib.hid (And.intro hq2.1 hq2.2.1)
          clear hq2
          unfold verdict
          go_wp2_with fail
          cases b2 with
          | false =>
            obtain rfl : o = none := HO2.out
            go_region_held3 (fun w' => w'.cell? ⟨w4.heap.size, 0, none⟩ = some (.int .i64 n) ∧ w'.cell? ⟨w4.heap.size, 1, none⟩ = some (.int .i64 d) ∧ w'.cell? ⟨bp, 0, none⟩ = some (.string s) ∧ w'.cell? ⟨w.heap.size, 0, none⟩ = some (.int .i64 0) ∧ w'.cell? ⟨w.heap.size, 1, none⟩ = some (.int .i64 0) ∧ w'.frozen? ⟨w.heap.size, 0, none⟩ = false ∧ w'.frozen? ⟨w.heap.size, 1, none⟩ = false ∧ w'.cell? ⟨0, 0, none⟩ = some (errV er) ∧ Below w5.heap.size w5 w') (first | exact ⟨t0, t1, x0, y0, y1, z0, z1, e0, Below.refl _ _⟩ | exact ⟨t0, t1, x0, y0, y1, z0, z1, e0, (Below.refl _ _).drew⟩ | assumption) ((first | (go_at_call 54; refine (HTX.out _ (by first | exact Below.refl _ _ | exact (Below.refl _ _).drew | assumption)).mono ?_; rintro e w6 ⟨rfl, hH6⟩)))
            all_goals
              go_wp2_with fail
              exact ⟨rfl, rfl, HB5.out.trans (hH6.2.2.2.2.2.2.2.2.mono HB5.out.size)⟩
          | true =>
            obtain rfl : o = some q := HO2.out
            go_region_held3 (fun w' => w'.cell? ⟨w4.heap.size, 0, none⟩ = some (.int .i64 n) ∧ w'.cell? ⟨w4.heap.size, 1, none⟩ = some (.int .i64 d) ∧ w'.cell? ⟨bp, 0, none⟩ = some (.string s) ∧ w'.cell? ⟨w.heap.size, 0, none⟩ = some (.int .i64 0) ∧ w'.cell? ⟨w.heap.size, 1, none⟩ = some (.int .i64 0) ∧ w'.frozen? ⟨w.heap.size, 0, none⟩ = false ∧ w'.frozen? ⟨w.heap.size, 1, none⟩ = false ∧ w'.cell? ⟨0, 0, none⟩ = some (errV er) ∧ Below w5.heap.size w5 w') (first | exact ⟨t0, t1, x0, y0, y1, z0, z1, e0, Below.refl _ _⟩ | exact ⟨t0, t1, x0, y0, y1, z0, z1, e0, (Below.refl _ _).drew⟩ | assumption) ((first | (go_at_call 54; refine (HTX.out _ (by first | exact Below.refl _ _ | exact (Below.refl _ _).drew | assumption)).mono ?_; rintro e w6 ⟨rfl, hH6⟩)))
            all_goals
              obtain ⟨g0, g1, gx, gy0, gy1, gz0, gz1, ge, gb⟩ := hH6
              have HG := Lib.hid (HB5.out.trans (gb.mono HB5.out.size))
              clear gb
              go_wp2_with fail
              refine bodyPost_ret (v := frac n d) (by simp [results, Tryz.results56, go_sem, gy0, gy1]) rfl ⟨by rw [← HQ2.out.1, ← HQ2.out.2]; rfl, ?_⟩
              exact (HG.out.setCell (Nat.le_refl _) _).setCell (Nat.le_refl _) _

set_option maxRecDepth 20000 in
set_option maxHeartbeats 1000000 in
theorem Parse_any (s : ByteArray) (x y z : Int) (er : Addr) (w : World) (hs : s.size ≤ 1000) (hT : Txt w er)
    (hx : Rt.nm (Rt.parseO s.data.toList) = x) (hy : Rt.dn (Rt.parseO s.data.toList) = y) (hz : Rt.er (Rt.parseO s.data.toList) = z) :
    Calls Tryz.prog 30 #[.string s] w fun e w' => e = .returned (.tuple #[frac x y, .int .i64 z]) ∧ Below w.heap.size w w' := by
  have hmf : ∀ (fn : Fn) (first cap : Array Value) (w : World), (Instr.makeFunc fn first cap).run Tryz.prog w = .ok (.func fn first cap) w := fun _ _ _ _ => rfl
  have HS := Lib.hid hs
  have HX := Lib.hid (And.intro hx (And.intro hy hz))
  have HT := Lib.hid hT
  clear hs hx hy hz hT
  have hen : Enters 56 := enters_of Tryz.func56 (by kernel_rfl) (by kernel_rfl)
  have HN := Lib.hid hen
  clear hen
  go_enter Tryz.func30, Tryz.ntmps30
  go_wp2_with fail
  have hb0 : Below w.heap.size w ((w.alloc (Obj.cells #[Value.string s] 9)).alloc (Obj.cells #[Value.int IntKind.i64 0, Value.int IntKind.i64 0] 25)) :=
    ((Below.refl _ _).alloc (Nat.le_refl _) _).alloc (by simp) _
  have HT1 := Lib.hid (HT.out.below hb0)
  have HC : ∀ w1, Below _ _ w1 → Calls Tryz.prog 56 _ w1 fun e w2 => e = outcome er (Rt.parseO s.data.toList) ∧ Below w1.heap.size w1 w2 := fun w1 h1 => by
    obtain ⟨hc, _⟩ := bcell h1
    exact parse1_any w.heap.size s _ er w1 HS.out (HT1.out.below h1) rfl (by rw [hc _ _ (by first | (simp; done) | (simp; omega))]; simp [go_sem])
  refine (answer_any 56 _ (Rt.parseO s.data.toList) er x y z _ HN.out HT1.out.err (fun q hq w1 h1 => ?_) (fun hq w1 h1 => ?_) HX.out).mono ?_
  · have h2 := HC w1 h1
    rw [hq] at h2
    exact h2
  · have h2 := HC w1 h1
    rw [hq] at h2
    exact h2
  clear HC
  rintro e w2 ⟨rfl, hB⟩
  obtain ⟨hc, hz⟩ := bcell hB
  have hc0 : w2.cell? ⟨w.heap.size + 1, 0, none⟩ = some (.int .i64 0) := by rw [hc _ _ (by first | (simp; done) | (simp; omega))]; simp [go_sem]
  have hc1 : w2.cell? ⟨w.heap.size + 1, 1, none⟩ = some (.int .i64 0) := by rw [hc _ _ (by first | (simp; done) | (simp; omega))]; simp [go_sem]
  have hz0 : w2.frozen? ⟨w.heap.size + 1, 0, none⟩ = false := by rw [hz _ _ (by first | (simp; done) | (simp; omega))]; simp [go_sem]
  have hz1 : w2.frozen? ⟨w.heap.size + 1, 1, none⟩ = false := by rw [hz _ _ (by first | (simp; done) | (simp; omega))]; simp [go_sem]
  have hB2 : Below w.heap.size w w2 := hb0.trans (hB.mono (by simp; omega))
  clear hc hz
  go_wp2_with fail
  refine bodyPost_ret (v := .tuple #[frac x y, .int .i64 z]) (by simp [results, Tryz.results30, go_sem, hc0, hc1]) rfl ⟨rfl, ?_⟩
  exact (hB2.setCell (by simp) _).setCell (by simp) _
end Go.Proofs.YtphphamfejgdaaaGreatDoor
