/- read: what a line says is put at the end of a table. Conditions: a line of limited length; the table lies there; what the functions of texts read of memory. -/
import Derived.Test.YtcnokccgdiodlaaGreatDoorFmtX
namespace Go.Proofs.YtcnokccgdiodlaaGreatDoor
open Go.RowKit Go.Shelf Fx

theorem numO_int {p : List UInt8} {n : Int} (h : numO p = some n) : -9223372036854775808 ≤ n ∧ n ≤ 9223372036854775807 := by
  unfold numO at h
  split at h
  · rename_i v hv
    cases h
    unfold Lib.atoiAll at hv
    split at hv
    · cases hv
    · simp only at hv
      split at hv
      · cases hv
      · cases hv
      · rename_i u _
        split at hv
        · cases hv
        · split at hv
          · cases hv
          · rename_i h1 h2
            cases hv
            split
            · omega
            · omega
  · cases h
theorem numW_int {r : List (List UInt8)} {n : Int} (h : numW r = some n) : -9223372036854775808 ≤ n ∧ n ≤ 9223372036854775807 := by
  cases r with
  | nil => cases h
  | cons p r => exact numO_int h
theorem unhexO_len : ∀ {p l : List UInt8}, unhexO p = some l → l.length ≤ p.length
  | [], l, h => by cases h; simp
  | [_], l, h => by cases h
  | x :: y :: t, l, h => by
    rw [unhexO] at h
    split at h
    · cases ht : unhexO t with
      | none => rw [ht] at h; cases h
      | some l2 =>
        rw [ht] at h
        cases h
        have := unhexO_len ht
        simp; omega
    · cases h
theorem readK_int {k : Int} {r : List (List UInt8)} {f : Fld} (hS : Short r) (h : readK k r = some f) (k1 : 1 ≤ k) (k6 : k ≤ 6) : Ints (setK k f) ∧ f.text.size ≤ 10000000 := by
  have key : ∀ (n m : Int), (-9223372036854775808 ≤ n ∧ n ≤ 9223372036854775807) → (-9223372036854775808 ≤ m ∧ m ≤ 9223372036854775807) → Ints (setK k ⟨0, n, m, eb⟩) ∧ (⟨0, n, m, eb⟩ : Fld).text.size ≤ 10000000 := fun n m hn hm =>
    ⟨⟨by show _ ≤ k; omega, by show k ≤ _; omega, hn.1, hn.2, hm.1, hm.2, by show eb.size ≤ _; decide⟩, by show eb.size ≤ _; decide⟩
  unfold readK at h
  split at h
  · cases r with
    | nil => cases h
    | cons p r =>
      simp only at h
      cases hu : unhexO p with
      | none => rw [hu] at h; cases h
      | some l =>
        rw [hu] at h
        cases h
        have h1 := unhexO_len hu
        have h2 := hS p (by simp)
        have h3 : (⟨l.toArray⟩ : ByteArray).size = l.length := rfl
        exact ⟨⟨by show _ ≤ k; omega, by show k ≤ _; omega, by show _ ≤ (0 : Int); omega, by show (0 : Int) ≤ _; omega, by show _ ≤ (-1 : Int); omega, by show (-1 : Int) ≤ _; omega, by show ByteArray.size (⟨l.toArray⟩ : ByteArray) ≤ _; omega⟩, by show ByteArray.size (⟨l.toArray⟩ : ByteArray) ≤ _; omega⟩
  · split at h
    · cases r with
      | nil => cases h
      | cons p r =>
        simp only at h
        split at h
        · cases hn : numW r with
          | none => rw [hn] at h; cases h
          | some n => rw [hn] at h; cases h; exact key 0 n (by omega) (numW_int hn)
        · cases hn : numO p with
          | none => rw [hn] at h; cases h
          | some n => rw [hn] at h; cases h; exact key n (-1) (numO_int hn) (by omega)
    · split at h
      · cases r with
        | nil => cases h
        | cons p r =>
          simp only at h
          cases hn : numO p with
          | none => rw [hn] at h; cases h
          | some n =>
            rw [hn] at h
            simp only at h
            cases r with
            | nil => cases h
            | cons q r =>
              simp only at h
              split at h
              · cases hm : numW r with
                | none => rw [hm] at h; cases h
                | some m => rw [hm] at h; cases h; exact key n m (numO_int hn) (numW_int hm)
              · cases h
      · cases hn : numW r with
        | none => rw [hn] at h; cases h
        | some n => rw [hn] at h; cases h; exact key n (-1) (numW_int hn) (by omega)
theorem sp_short (c : UInt8) : ∀ (l : List UInt8), ∀ p ∈ sp c l, p.length ≤ l.length
  | [], p, h => by simp [sp] at h; subst h; simp
  | x :: t, p, h => by
    have ih := sp_short c t
    unfold sp at h
    split at h
    · rcases List.mem_cons.1 h with rfl | h
      · simp
      · have := ih p h; simp; omega
    · have hne := sp_ne c t
      generalize sp c t = q at ih hne h
      match q, hne with
      | r :: rs, _ =>
        rcases List.mem_cons.1 h with rfl | h
        · have := ih r (by simp); simp; omega
        · have := ih p (List.mem_cons_of_mem _ h); simp; omega
theorem idxK_zero {p : List UInt8} (h : kindOf p = 0) : idxK p = 0 ∨ idxK p = -1 := by
  unfold idxK
  rw [if_pos h]
  split
  · exact .inl rfl
  · exact .inr rfl
theorem idxK_some {p : List UInt8} (h : kindOf p ≠ 0) : idxK p = kindOf p := by
  unfold idxK
  rw [if_neg (fun e => h (by rw [e]; rfl)), if_neg h]
/-- What read ends in. -/
def ReadPost (P : Nat → Prop) (tb : Nat) (s : St) (l : List UInt8) (er : Addr) (w : World) (e : Ending) (w' : World) : Prop :=
  e = ends er (readO s l).isSome ∧ Kept P w w' ∧ ∀ s1, readO s l = some s1 → TabAt w' P tb s1
theorem read_stop {P : Nat → Prop} {tb : Nat} {s : St} {l : List UInt8} {er : Addr} {w : World} {e : Ending} {w' : World} (h : itemD l = none) (he : e = ends er false) (hk : Kept P w w') : ReadPost P tb s l er w e w' := by
  have hr : readO s l = none := by unfold readO; rw [h]
  exact ⟨by rw [hr]; exact he, hk, fun s1 h2 => by rw [hr] at h2; cases h2⟩
set_option maxRecDepth 100000 in
set_option maxHeartbeats 2000000 in
theorem read1_any (P : Nat → Prop) (tb : Nat) (s : St) (l : List UInt8) (er : Addr) (w : World) (hT : TabAt w P tb s) (hX : Txt w er) (hPe : P 0) (hG : Fx.Good s) (hl : l.length ≤ 10000000) :
    Calls Tryz.prog 48 #[adr tb, .string (bs l)] w (ReadPost P tb s l er w) := by
  have hmf : ∀ (fn : Fn) (first cap : Array Value) (w : World), (Instr.makeFunc fn first cap).run Tryz.prog w = .ok (.func fn first cap) w := fun _ _ _ _ => rfl
  obtain ⟨htb, hPin⟩ : tb < w.heap.size ∧ ∀ k, P k → k < w.heap.size := by
    obtain ⟨_, _, _, _, _, _, _, h1, _, h2⟩ := hT.cells_
    exact ⟨h1, h2⟩
  have HT := Lib.hid hT
  have HX := Lib.hid hX
  have HG := Lib.hid hG
  have HP := Lib.hid hPin
  obtain ⟨p, r, hsp⟩ : ∃ p r, sp 32 l = p :: r := by
    cases h : sp 32 l with
    | nil => exact absurd h (sp_ne 32 l)
    | cons p r => exact ⟨p, r, rfl⟩
  have HS : Hid (Short (p :: r)) := Lib.hid (fun q hq => Nat.le_trans (sp_short 32 l q (by rw [hsp]; exact hq)) hl)
  have HSP := Lib.hid hsp
  have HCU := Lib.hid (cutter_any (bs l) 32 w (Nat.le_trans hl (by decide)))
  have hls : (bs l).size ≤ 10000000 := hl
  clear hT hX hG hPin hsp
  go_enter Tryz.func48, Tryz.ntmps48
  go_wp2_with fail
  refine HCU.out.mono ?_
  rintro e w1 ⟨rfl, hC1, hb1⟩
  have hC1 : CutAt w1 (w.heap.size + 2) (w.heap.size + 1) w.heap.size 32 (p :: r) := by rw [← HSP.out]; exact hC1
  have HN1 := Lib.hid (next_any _ _ _ 32 (p :: r) er w1 hC1 (HX.out.below hb1))
  have HB1 := Lib.hid hb1
  clear hC1 hb1 HCU
  go_wp2_with fail
  refine HN1.out.mono ?_
  rintro e w2 ⟨rfl, hC2, hk2⟩
  have hb2 : Below w.heap.size w w2 := HB1.out.trans (CutTo.below hk2 HB1.out.size (by omega) (by omega))
  obtain ⟨w3, hw3⟩ : ∃ w3, w3 = w2.alloc (.cells #[.string (bs p)] 9) := ⟨_, rfl⟩
  have hb3 : Below w.heap.size w w3 := by rw [hw3]; exact hb2.alloc hb2.size _
  have hp3 : w3.cell? ⟨w2.heap.size, 0, none⟩ = some (.string (bs p)) := by rw [hw3]; exact cell_of_row _ _ _ _ _ _ (heap_alloc_new _ _)
  have hC3 : CutAt w3 (w.heap.size + 2) (w.heap.size + 1) w.heap.size 32 r := by rw [hw3]; exact hC2.below (bx _)
  have H3 := Lib.hid (And.intro hb3 hC3)
  clear hC2 hk2 hb2 HN1 hb3 hC3 HB1
  simp only [List.head?_cons]
  rw [outS_some]
  by_cases hpf : p = wFormat
  · subst hpf
    have hst : bs wFormat = (⟨#[102, 111, 114, 109, 97, 116]⟩ : ByteArray) := rfl
    rw [hst]
    have HIT : Hid (itemD l = match numW r with
      | none => none
      | some id => if l = heading id then some (.head id) else none) := Lib.hid (by
      unfold itemD
      rw [HSP.out]
      simp only [if_true]
      rfl)
    rw [hst] at hw3 hp3
    have HX3 := Lib.hid (HX.out.below H3.out.1)
    have HN3 := Lib.hid (next_any _ _ _ 32 r er w3 H3.out.2 HX3.out)
    go_wp2_with fail
    rw [← hw3]
    clear hw3 hp3
    refine HN3.out.mono ?_
    rintro e w4 ⟨rfl, hC4, hk4⟩
    have HB4 := Lib.hid (H3.out.1.trans (CutTo.below hk4 H3.out.1.size (by omega) (by omega)))
    clear hC4 hk4 HN3 H3 HX3
    cases r with
    | nil =>
      simp only [List.head?_nil]
      have HK : Hid (Kept P w w4) := Lib.hid (Kept.of_below HB4.out HP.out)
      have hr : itemD l = none := HIT.out
      unfold outS
      go_wp2_with fail
      exact ⟨rfl, read_stop hr rfl HK.out⟩
    | cons q r =>
      simp only [List.head?_cons]
      rw [outS_some]
      go_wp2_with fail
      refine (number_any (bs q) (numO q) er w4 (Nat.le_trans (HS.out q (by simp)) (by decide)) (HX.out.below HB4.out) rfl).mono ?_
      rintro e w5 ⟨rfl, hb5⟩
      have HB5 := Lib.hid (HB4.out.trans (hb5.mono HB4.out.size))
      have HIU : Hid (itemD l = match numO q with
        | none => none
        | some id => if l = heading id then some (.head id) else none) := Lib.hid HIT.out
      obtain ⟨U, hU⟩ : ∃ U, U = numO q := ⟨_, rfl⟩
      rw [← hU] at HIU ⊢
      clear hb5 HB4 HIT
      cases U with
      | none =>
        have HK : Hid (Kept P w w5) := Lib.hid (Kept.of_below HB5.out HP.out)
        have hr : itemD l = none := HIU.out
        unfold outI
        clear hU
        go_wp2_with fail
        exact ⟨rfl, read_stop hr rfl HK.out⟩
      | some id =>
        have hid := numO_int hU.symm
        have HH := Lib.hid (heading_any id (bs (heading id)) er w5 hid.1 hid.2 (HX.out.below HB5.out) rfl)
        have HIV : Hid (itemD l = if l = heading id then some (.head id) else none) := HIU
        unfold outI
        clear hU hid HIU
        go_wp2_with fail
        refine HH.out.mono ?_
        rintro e w6 ⟨rfl, hb6⟩
        have HB6 := Lib.hid (HB5.out.trans (hb6.mono HB5.out.size))
        clear hb6 HB5 HH
        by_cases hhd : l = heading id
        · have hv : (l == heading id) = true := by simpa using hhd
          have HR : Hid (itemD l = some (.head id)) := Lib.hid (by rw [HIV.out, if_pos hhd])
          clear HIV hhd
          go_wp2_with fail
          refine (require_any true er _ (HX.out.below HB6.out).err).mono ?_
          rintro e w7 ⟨rfl, rfl⟩
          unfold ends
          go_wp2_with fail
          refine (begin_any P tb s id er w6 (HT.out.below HB6.out) (HX.out.below HB6.out).err hPe HG.out).mono ?_
          rintro e w7 ⟨rfl, hk7, hT7⟩
          have hro : readO s l = beginO s id := by unfold readO; rw [HR.out]; rfl
          have HF : Hid (ReadPost P tb s l er w (ends er (beginO s id).isSome) w7) := Lib.hid ⟨by rw [hro], (Kept.of_below HB6.out HP.out).trans hk7, fun s1 h1 => hT7 s1 (by rw [← hro]; exact h1)⟩
          clear hk7 hT7 hro
          generalize (beginO s id).isSome = bb at HF
          cases bb with
          | false =>
            unfold ends
            go_wp2_with fail
            exact ⟨rfl, HF.out⟩
          | true =>
            unfold ends
            go_wp2_with fail
            go_end0
            exact HF.out
        · have hv : (l == heading id) = false := beq_false_of_ne hhd
          have hr : itemD l = none := by rw [HIV.out, if_neg hhd]
          have HK : Hid (Kept P w w6) := Lib.hid (Kept.of_below HB6.out HP.out)
          clear HIV hhd
          go_wp2_with fail
          refine (require_any false er _ (HX.out.below HB6.out).err).mono ?_
          rintro e w7 ⟨rfl, rfl⟩
          unfold ends
          go_wp2_with fail
          exact ⟨rfl, read_stop hr rfl HK.out⟩
  · have hv : (p == [102, 111, 114, 109, 97, 116]) = false := beq_false_of_ne hpf
    have HIT : Hid (itemD l = if kindOf p = 0 then none else match readK (kindOf p) r with
      | none => none
      | some f => if l = lineF (setK (kindOf p) f) then some (.fld (setK (kindOf p) f)) else none) := Lib.hid (by
      unfold itemD
      rw [HSP.out]
      simp only
      rw [if_neg hpf]
      rfl)
    obtain ⟨b1, b2, c, b3, hcell, -, -⟩ := (HT.out.below H3.out.1).boxes_
    have HI := Lib.hid (index_any tb b1 c b3 w2.heap.size p w3 hcell hp3)
    clear hcell
    go_wp2_with fail
    rw [← hw3]
    clear hw3 hp3
    refine HI.out.mono ?_
    rintro e w4 ⟨rfl, hb4⟩
    have HB4 := Lib.hid (And.intro (H3.out.1.trans (hb4.mono H3.out.1.size)) (H3.out.2.below hb4))
    clear hb4 HI H3 hv
    by_cases hk0 : kindOf p = 0
    · have hr : itemD l = none := by rw [HIT.out, if_pos hk0]
      have HK : Hid (Kept P w w4) := Lib.hid (Kept.of_below HB4.out.1 HP.out)
      obtain ⟨I, hI⟩ : ∃ I, I = idxK p := ⟨_, rfl⟩
      have hI1 : ¬ 1 ≤ I := by rw [hI]; rcases idxK_zero hk0 with h | h <;> rw [h] <;> decide
      have hI2 : decide (1 ≤ I) = false := decide_eq_false hI1
      rw [← hI]
      clear HIT hk0 hpf hI
      go_wp2_with fail
      refine (require_any false er _ (HX.out.below HB4.out.1).err).mono ?_
      rintro e w7 ⟨rfl, rfl⟩
      unfold ends
      go_wp2_with fail
      exact ⟨rfl, read_stop hr rfl HK.out⟩
    · rw [idxK_some hk0]
      have hkl := kindOf_le p
      obtain ⟨K, hK⟩ : ∃ K : Nat, kindOf p = K := ⟨(kindOf p).toNat, by omega⟩
      have HIU : Hid (itemD l = match readK K r with
        | none => none
        | some f => if l = lineF (setK K f) then some (.fld (setK K f)) else none) := Lib.hid (by rw [HIT.out, if_neg hk0, hK])
      rw [hK] at hk0 hkl ⊢
      have k1 : 1 ≤ K := by omega
      have k6 : K ≤ 6 := by omega
      have d2 : 1 ≤ (K : Int) := by omega
      have d3 : (K : Int) ≤ 6 := by omega
      have d4 : (0 : Int) ≤ K := by omega
      have d5 : (K : Int) < 7 := by omega
      clear HIT hK hk0 hkl hpf
      obtain ⟨b1, b2, c, b3, hcell, -, -⟩ := (HT.out.below HB4.out.1).boxes_
      obtain ⟨-, -, -, -, x4⟩ := kindAt_of hcell K k1 k6
      obtain ⟨R, hR⟩ : ∃ R, readK K r = R := ⟨_, rfl⟩
      have HD := Lib.hid (read_any K _ _ _ r R er w4 HB4.out.2 (HX.out.below HB4.out.1) (fun q hq => HS.out q (List.mem_cons_of_mem _ hq)) k1 k6 hR)
      have EW := enD K
      have HRI := Lib.hid (fun f (h : R = some f) => readK_int (k := K) (fun q hq => HS.out q (List.mem_cons_of_mem _ hq)) (hR.trans h) (by omega) (by omega))
      rw [hR] at HIU
      obtain ⟨fd, hfd⟩ : ∃ x, x = fnD K := ⟨_, rfl⟩
      rw [← hfd] at HD EW x4
      unfold Enters at EW
      clear hcell hR hfd
      go_wp2_with fail
      refine (require_any true er _ (HX.out.below HB4.out.1).err).mono ?_
      rintro e w7 ⟨rfl, rfl⟩
      unfold ends
      go_wp2_with fail
      refine HD.out.mono ?_
      rintro e w5 ⟨rfl, hk5⟩
      have HB5 := Lib.hid (HB4.out.1.trans (CutTo.below hk5 HB4.out.1.size (by omega) (by omega)))
      clear hk5 HD x4
      cases R with
      | none =>
        have hr : itemD l = none := HIU.out
        have HK : Hid (Kept P w w5) := Lib.hid (Kept.of_below HB5.out HP.out)
        unfold outF
        go_wp2_with fail
        exact ⟨rfl, read_stop hr rfl HK.out⟩
      | some f =>
        obtain ⟨hfi, hft⟩ := HRI.out f rfl
        have HIV : Hid (itemD l = if l = lineF (setK K f) then some (.fld (setK K f)) else none) := HIU
        obtain ⟨kd, n, fm, tx⟩ := f
        unfold outF
        clear HIU HRI EW
        go_wp2_with fail
        obtain ⟨w6, hw6⟩ : ∃ w6, w6 = w5.alloc (.cells #[.int .i64 K, .int .i64 n, .int .i64 fm, .string tx] 56) := ⟨_, rfl⟩
        have hh6 : w6.heap[w5.heap.size]? = some (.cells #[.int .i64 K, .int .i64 n, .int .i64 fm, .string tx] 56 (0, 0)) := by rw [hw6]; exact heap_alloc_new _ _
        have hb6 : Below w.heap.size w w6 := by rw [hw6]; exact HB5.out.alloc HB5.out.size _
        have HB6 := Lib.hid (And.intro hb6 hh6)
        rw [← hw6]
        have HL := Lib.hid (line_any tb K (setK K ⟨kd, n, fm, tx⟩) er (bs (lineF (setK K ⟨kd, n, fm, tx⟩))) w6 ((HT.out.below hb6).hasKinds) (HX.out.below hb6) hfi hft k1 k6 rfl rfl)
        have HFI := Lib.hid hfi
        clear hw6 hh6 hb6 HB5 hfi hft
        refine HL.out.mono ?_
        rintro e w7 ⟨rfl, hb7⟩
        have hh7 : w7.heap[w5.heap.size]? = some (.cells #[.int .i64 K, .int .i64 n, .int .i64 fm, .string tx] 56 (0, 0)) := (hb7.block _ (lt_of_heap HB6.out.2)).trans HB6.out.2
        have g0 : w7.cell? ⟨w5.heap.size, 0, none⟩ = some (.int .i64 K) := cell_of_row _ _ _ _ _ _ hh7
        have g1 : w7.cell? ⟨w5.heap.size, 1, none⟩ = some (.int .i64 n) := cell_of_row _ _ _ _ _ _ hh7
        have g2 : w7.cell? ⟨w5.heap.size, 2, none⟩ = some (.int .i64 fm) := cell_of_row _ _ _ _ _ _ hh7
        have g3 : w7.cell? ⟨w5.heap.size, 3, none⟩ = some (.string tx) := cell_of_row _ _ _ _ _ _ hh7
        have HB7 := Lib.hid (HB6.out.1.trans (hb7.mono HB6.out.1.size))
        clear hb7 hh7 HB6 HL
        by_cases hlf : l = lineF (setK K ⟨kd, n, fm, tx⟩)
        · have hv : (l == lineF (setK K ⟨kd, n, fm, tx⟩)) = true := by simpa using hlf
          have HR : Hid (itemD l = some (.fld (setK K ⟨kd, n, fm, tx⟩))) := Lib.hid (by rw [HIV.out, if_pos hlf])
          clear HIV hlf
          go_wp2_with fail
          refine (require_any true er _ (HX.out.below HB7.out).err).mono ?_
          rintro e w8 ⟨rfl, rfl⟩
          unfold ends
          go_wp2_with fail
          refine (add_any P tb s (setK K ⟨kd, n, fm, tx⟩) er w7 (HT.out.below HB7.out) (HX.out.below HB7.out).err hPe HG.out HFI.out).mono ?_
          rintro e w8 ⟨rfl, hk8, hT8⟩
          have hro : readO s l = addO s (setK K ⟨kd, n, fm, tx⟩) := by unfold readO; rw [HR.out]; rfl
          have HF : Hid (ReadPost P tb s l er w (ends er (addB s (setK K ⟨kd, n, fm, tx⟩))) w8) := Lib.hid (by
            refine ⟨?_, (Kept.of_below HB7.out HP.out).trans hk8, fun s1 h1 => ?_⟩
            · rw [hro, addO]; split
              · rename_i h; rw [h]; rfl
              · rename_i h; rw [Bool.not_eq_true] at h; rw [h]; rfl
            · rw [hro, addO] at h1
              split at h1
              · rename_i h; cases h1; exact hT8 h
              · cases h1)
          clear hk8 hT8 hro
          generalize addB s (setK K ⟨kd, n, fm, tx⟩) = bb at HF
          cases bb with
          | false =>
            unfold ends
            go_wp2_with fail
            exact ⟨rfl, HF.out⟩
          | true =>
            unfold ends
            go_wp2_with fail
            go_end0
            exact HF.out
        · have hv : (l == lineF (setK K ⟨kd, n, fm, tx⟩)) = false := beq_false_of_ne hlf
          have hr : itemD l = none := by rw [HIV.out, if_neg hlf]
          have HK : Hid (Kept P w w7) := Lib.hid (Kept.of_below HB7.out HP.out)
          clear HIV hlf
          go_wp2_with fail
          refine (require_any false er _ (HX.out.below HB7.out).err).mono ?_
          rintro e w8 ⟨rfl, rfl⟩
          unfold ends
          go_wp2_with fail
          exact ⟨rfl, read_stop hr rfl HK.out⟩
end Go.Proofs.YtcnokccgdiodlaaGreatDoor
