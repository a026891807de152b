/- The line of a field. Conditions: a table's kinds lie there; the field's kind is one of them; texts of limited length. -/
import Derived.Test.YtcnokccgdiodlaaGreatDoorFmtP
namespace Go.Proofs.YtcnokccgdiodlaaGreatDoor
open Go.RowKit Fx

/-- The kinds of a table lie there. -/
def HasKinds (w : World) (tb : Nat) : Prop := ∃ b1 b2 c b3, (∀ i, i < 35 → w.cell? ⟨tb, i, none⟩ = (kindsV b1 c b3)[i]?) ∧ Boxes w b1 b2 c b3 ∧ tb < w.heap.size
theorem TabAt.hasKinds {w : World} {P : Nat → Prop} {tb : Nat} {s : St} (h : TabAt w P tb s) : HasKinds w tb := by
  obtain ⟨b1, b2, c, b3, h1, h2, h3⟩ := h.boxes_
  exact ⟨b1, b2, c, b3, h1, h2, h3⟩
theorem TabEnd.hasKinds {w : World} {P : Nat → Prop} {tb : Nat} {s : St} (h : TabEnd w P tb s) : HasKinds w tb := by
  obtain ⟨cs, mb, b1, b2, c, b3, vF, vs, hC⟩ := h
  exact ⟨b1, b2, c, b3, fun i hi => (hC.blk.cell i).trans (hC.kinds i hi), hC.boxes, hC.blk.lt⟩
theorem HasKinds.below {w w' : World} {tb : Nat} (h : HasKinds w tb) (hb : Below w.heap.size w w') : HasKinds w' tb := by
  obtain ⟨b1, b2, c, b3, h1, h2, h3⟩ := h
  exact ⟨b1, b2, c, b3, fun i hi => ((bcell hb).1 _ _ h3).trans (h1 i hi), h2.below hb, Nat.lt_of_lt_of_le h3 hb.size⟩
theorem writeF_len (f : Fld) (hf : Ints f) (hl : f.text.size ≤ 10000000) : (writeF f).length ≤ 20000100 := by
  have a1 := itoa_len hf.n1 hf.n2
  have a2 := itoa_len hf.f1 hf.f2
  unfold writeF wFrom
  split
  · rw [hex_len]; have : f.text.data.toList.length = f.text.size := by simp
    omega
  · split
    · split <;> simp <;> omega
    · split
      · simp; omega
      · omega

set_option maxRecDepth 100000 in
set_option maxHeartbeats 2000000 in
theorem line_any (tb K : Nat) (f : Fld) (a : Addr) (S : ByteArray) (w : World) (hH : HasKinds w tb) (hT : Txt w a) (hf : Ints f) (hl : f.text.size ≤ 10000000) (k1 : 1 ≤ K) (k6 : K ≤ 6) (hK : f.kind = K) (hS : bs (lineF f) = S) :
    Calls Tryz.prog 62 #[adr tb, fldV f] w fun e w' => e = .returned (.string S) ∧ Below w.heap.size w w' := by
  obtain ⟨R, hR⟩ : ∃ R, bs (writeF f) = R := ⟨_, rfl⟩
  have sR : R.size ≤ 20000100 := by rw [← hR]; exact writeF_len f hf hl
  have sW : (wordB K).size ≤ 10 := by
    obtain rfl | rfl | rfl | rfl | rfl | rfl : K = 1 ∨ K = 2 ∨ K = 3 ∨ K = 4 ∨ K = 5 ∨ K = 6 := by omega
    all_goals decide
  have HS : Hid (wordB K ++ (⟨#[32]⟩ : ByteArray) ++ R = S) := Lib.hid (by
    rw [← hS, ← hR]
    unfold wordB lineF
    rw [show (⟨#[32]⟩ : ByteArray) = bs [32] from rfl]
    show bs _ ++ bs _ ++ bs _ = _
    rw [bs_append, bs_append, hK]
    simp)
  obtain ⟨b1, b2, c, b3, hcell, hX, htb⟩ := hH
  have hk := kindAt_of hcell K k1 k6
  have HW := Lib.hid (fun w' (hb : Below w.heap.size w w') => write_any K c b2 f a R w' (hT.below hb) ((hX.below hb).k) hf hl k1 k6 hK hR)
  obtain ⟨kd, n, fm, tx⟩ := f
  obtain rfl : kd = (K : Int) := hK
  obtain ⟨fr, hfr⟩ : ∃ x, x = fnR K := ⟨_, rfl⟩
  obtain ⟨fl, hfl⟩ : ∃ x, x = fnL K := ⟨_, rfl⟩
  obtain ⟨cr, hcr⟩ : ∃ x, x = capR K b1 c b3 := ⟨_, rfl⟩
  obtain ⟨wd, hwd⟩ : ∃ x, x = wordB K := ⟨_, rfl⟩
  obtain ⟨fw, hfw⟩ : ∃ x, x = fnW K := ⟨_, rfl⟩
  obtain ⟨cw, hcw⟩ : ∃ x, x = capW K c := ⟨_, rfl⟩
  obtain ⟨fd, hfd⟩ : ∃ x, x = fnD K := ⟨_, rfl⟩
  obtain ⟨x0, x1, x2, x3, x4⟩ := hk
  rw [← hwd] at x0 sW HS
  rw [← hfr, ← hcr] at x1
  rw [← hfl] at x2
  rw [← hfw, ← hcw] at x3
  rw [← hfd] at x4
  rw [← hfw, ← hcw] at HW
  have EW : ∀ (args : Array Value) (w : World), (callFunc fw args).run Tryz.prog w = .ok (.enter fw args) w := by rw [hfw]; exact enW K
  have d2 : 1 ≤ (K : Int) := by omega
  have d3 : (K : Int) ≤ 6 := by omega
  have d4 : (0 : Int) ≤ K := by omega
  have d5 : (K : Int) < 7 := by omega
  clear hT hf hl hR hcell hX hS hfr hfl hcr hwd hfw hcw hfd
  go_enter Tryz.func62, Tryz.ntmps62
  go_wp2_with fail
  go_region
  obtain ⟨w1, hw1⟩ : ∃ w1, w1 = ((w.alloc (.cells #[.int .i64 K, .int .i64 n, .int .i64 fm, .string tx] 56)).alloc (.cells #[.string wd, clo fr cr, clo fl #[], clo fw cw, clo fd #[]] 73)).drew := ⟨_, rfl⟩
  rw [← hw1]
  have e0 : w1.cell? ⟨w.heap.size, 0, none⟩ = some (.int .i64 K) := by rw [hw1]; simp [go_sem]
  have e1 : w1.cell? ⟨w.heap.size, 1, none⟩ = some (.int .i64 n) := by rw [hw1]; simp [go_sem]
  have e2 : w1.cell? ⟨w.heap.size, 2, none⟩ = some (.int .i64 fm) := by rw [hw1]; simp [go_sem]
  have e3 : w1.cell? ⟨w.heap.size, 3, none⟩ = some (.string tx) := by rw [hw1]; simp [go_sem]
  have y0 : w1.cell? ⟨w.heap.size + 1, 0, none⟩ = some (.string wd) := by rw [hw1]; simp [go_sem]
  have y3 : w1.cell? ⟨w.heap.size + 1, 3, none⟩ = some (clo fw cw) := by rw [hw1]; simp [go_sem]
  have HB1 : Hid (Below w.heap.size w w1) := Lib.hid (by rw [hw1]; exact ((bx _).alloc (by simp) _).drew)
  clear hw1 x0 x1 x2 x3 x4
  have g0 := fun d os => cell_regrown e0 d os
  have g1 := fun d os => cell_regrown e1 d os
  have g2 := fun d os => cell_regrown e2 d os
  have g3 := fun d os => cell_regrown e3 d os
  have h0 := fun d os => cell_regrown y0 d os
  have h3 := fun d os => cell_regrown y3 d os
  clear e0 e1 e2 e3 y0 y3
  go_wp2_with fail
  refine wp_region_quiet_below (by kernel_rfl) (by kernel_rfl) ?_
  repeat (first | go_big_quiet_step (exact Calls.regrown_of (HW.out _ (HB1.out.trans ((below_regrown _ _ _).mono HB1.out.size)))) | quiet_step (exact Calls.regrown_of (HW.out _ (HB1.out.trans ((below_regrown _ _ _).mono HB1.out.size)))))
  refine wpQuiet_nil ?_
  intro _ hw'
  obtain ⟨⟨dq, osq⟩, hw''⟩ := hw'
  subst hw''
  go_wp2
  go_ret
  exact ⟨by rw [← HS.out]; rfl, HB1.out.trans ((below_regrown w1 dq osq).mono HB1.out.size)⟩
end Go.Proofs.YtcnokccgdiodlaaGreatDoor
