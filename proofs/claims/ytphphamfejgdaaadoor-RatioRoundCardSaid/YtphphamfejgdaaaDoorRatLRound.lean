/- The law RatioRound: it returns true. Conditions: ints; what the functions of texts read of memory; what is shown of sane. (Written by gen_round.py.) -/
import Derived.Test.YtphphamfejgdaaaDoorRatT
namespace Go.Proofs.YtphphamfejgdaaaDoor
open Go.RowKit

theorem and1023 (a : Int) : 0 ≤ bits .and .i64 a 1023 ∧ bits .and .i64 a 1023 ≤ 1023 := by
  unfold bits
  simp only []
  have h : (BitVec.ofInt IntKind.i64.bits a &&& BitVec.ofInt IntKind.i64.bits 1023).toNat ≤ 1023 := by
    rw [BitVec.toNat_and]
    exact Nat.le_trans Nat.and_le_right (by decide)
  generalize (BitVec.ofInt IntKind.i64.bits a &&& BitVec.ofInt IntKind.i64.bits 1023).toNat = k at h
  have e : IntKind.i64.wrap (k : Int) = (k : Int) := IntWalk.i64_in _ ⟨by omega, by omega⟩
  rw [e]; omega
/-- A number from 1 to 1000, and one below a million: the letters of their reckoning. -/
theorem thousand (a : Int) : ∃ A R K : Int, bits .and .i64 a 1023 = A ∧ A.tmod 1000 = R ∧ 1 + R = K ∧ 0 ≤ A ∧ A ≤ 1023 ∧ 0 ≤ R ∧ R ≤ 999 ∧ 1 ≤ K ∧ K ≤ 1000 := by
  have h := and1023 a
  have h1 : 0 ≤ (bits .and .i64 a 1023).tmod 1000 := Int.tmod_nonneg _ h.1
  have h2 : (bits .and .i64 a 1023).tmod 1000 < 1000 := Int.tmod_lt_of_pos _ (by decide)
  exact ⟨_, _, _, rfl, rfl, rfl, h.1, h.2, h1, by omega, by omega, by omega⟩
theorem million (n : Int) : ∃ N : Int, n.tmod 1000000 = N ∧ -999999 ≤ N ∧ N ≤ 999999 := by
  have h1 := Int.tmod_lt_of_pos n (show (0 : Int) < 1000000 by decide)
  have h2 := Int.lt_tmod_of_pos n (show (0 : Int) < 1000000 by decide)
  exact ⟨_, rfl, by omega, by omega⟩
theorem near_le (p q : Rat) (k : Int) (hk : 1 ≤ k) (h : p ≤ q) : Rt.cmpR (Rat.divInt (Rt.near p k) k) (Rat.divInt (Rt.near q k) k) ≤ 0 :=
  Rt.cmpR_le.2 (Rt.divInt_mono hk (Rt.near_mono hk h))

set_option maxRecDepth 20000 in
set_option maxHeartbeats 4000000 in
theorem round_law (hS : SaneSays) (n m den d : Int) (er : Addr) (w : World) (hT : Txt w er) :
    Calls Tryd.prog 7 #[.int .i64 n, .int .i64 m, .int .i64 den, .int .i64 d] w fun e w' => e = .returned (.bool true) ∧ Below w.heap.size w w' := by
  have HT := Lib.hid hT
  have HS := Lib.hid hS
  have HB0 : Hid (Below w.heap.size w w) := Lib.hid (Below.refl _ _)
  obtain ⟨A1, R1, K, hA1, hR1, hK, a1, a2, r1, r2, k1, k2⟩ := thousand den
  obtain ⟨A2, R2, D, hA2, hR2, hD, a3, a4, r3, r4, d1, d2⟩ := thousand d
  obtain ⟨N, hN, n1, n2⟩ := million n
  obtain ⟨M, hM, m1, m2⟩ := million m
  have HMN : Hid (Rt.mk N K = some (Rat.divInt N K)) := Lib.hid (Rt.mk_small N K k1 (by omega) (by omega))
  have HMM : Hid (Rt.mk M K = some (Rat.divInt M K)) := Lib.hid (Rt.mk_small M K k1 (by omega) (by omega))
  obtain ⟨p, hp⟩ : ∃ p, Rat.divInt N K = p := ⟨_, rfl⟩
  obtain ⟨q, hq⟩ : ∃ q, Rat.divInt M K = q := ⟨_, rfl⟩
  obtain ⟨F, hF⟩ : ∃ F, Rt.near p D = F := ⟨_, rfl⟩
  obtain ⟨E, hE⟩ : ∃ E, Rt.near q D = E := ⟨_, rfl⟩
  have hFb : F.natAbs ≤ 1000000000 := by rw [← hF, ← hp]; exact Rt.near_small N K D k1 d1 d2 n1 n2
  have hEb : E.natAbs ≤ 1000000000 := by rw [← hE, ← hq]; exact Rt.near_small M K D k1 d1 d2 m1 m2
  have HMF : Hid (Rt.mk F D = some (Rat.divInt F D)) := Lib.hid (Rt.mk_small F D d1 (by omega) hFb)
  have HME : Hid (Rt.mk E D = some (Rat.divInt E D)) := Lib.hid (Rt.mk_small E D d1 (by omega) hEb)
  rw [hp] at HMN
  rw [hq] at HMM
  have HF := Lib.hid hF
  have HE := Lib.hid hE
  have hag := Rt.near_again F D d1
  have hbk := Rt.back_mult F D d1
  have hdv := Rt.den_dvd F D d1
  obtain ⟨X, hX⟩ : ∃ X, Rat.divInt F D = X := ⟨_, rfl⟩
  obtain ⟨Y, hY⟩ : ∃ Y, Rat.divInt E D = Y := ⟨_, rfl⟩
  rw [hX] at HMF hag hbk hdv
  rw [hY] at HME
  have HAG := Lib.hid hag
  have HXY : Hid (p ≤ q → Rt.cmpR X Y ≤ 0) := Lib.hid (fun h => by rw [← hX, ← hY, ← hF, ← hE]; exact near_le p q D d1 h)
  have hl := Rt.near_low p D
  have hh := Rt.near_high p D
  rw [hF] at hl hh
  have IP := Is.made HMN.out
  have IQ := Is.made HMM.out
  have IX := Is.made HMF.out
  have IY := Is.made HME.out
  have hxd := Rt.den_ge X
  have bp := IP.bounds
  have bX := IX.bounds
  obtain ⟨ax, hax⟩ : ∃ x, p.num = x := ⟨_, rfl⟩
  obtain ⟨ay, hay⟩ : ∃ x, (p.den : Int) = x := ⟨_, rfl⟩
  obtain ⟨bx, hbx⟩ : ∃ x, q.num = x := ⟨_, rfl⟩
  obtain ⟨b_y, hby⟩ : ∃ x, (q.den : Int) = x := ⟨_, rfl⟩
  obtain ⟨xx, hxx⟩ : ∃ x, X.num = x := ⟨_, rfl⟩
  obtain ⟨xy, hxy⟩ : ∃ x, (X.den : Int) = x := ⟨_, rfl⟩
  obtain ⟨yx, hyx⟩ : ∃ x, Y.num = x := ⟨_, rfl⟩
  obtain ⟨yy, hyy⟩ : ∃ x, (Y.den : Int) = x := ⟨_, rfl⟩
  rw [hax, hay] at hl hh bp
  rw [hax, hay] at IP
  rw [hbx, hby] at IQ
  rw [hxx, hxy] at IX hbk bX
  rw [hyx, hyy] at IY
  rw [hxy] at hdv hxd
  have HIP := Lib.hid IP
  have HIQ := Lib.hid IQ
  have HIX := Lib.hid IX
  have HIY := Lib.hid IY
  have hrem : D.tmod xy = 0 := Int.tmod_eq_zero_of_dvd hdv
  obtain ⟨Q, hQ⟩ : ∃ Q, D.tdiv xy = Q := ⟨_, rfl⟩
  have hQe : D / xy = Q := by rw [← hQ, Int.tdiv_eq_ediv_of_dvd hdv]
  rw [hQe] at hbk
  have q1 : 0 ≤ Q := by rw [← hQe]; exact Int.ediv_nonneg (by omega) (by omega)
  have q2 : Q ≤ 1000 := by rw [← hQe]; exact Int.le_trans (Int.ediv_le_self _ (by omega)) d2
  have j1 := prod_bound (x := F) (y := ay) (by omega) (by omega) (by omega) (by omega)
  have j2 := prod_bound (x := ax) (y := D) (by omega) (by omega) (by omega) (by omega)
  obtain ⟨P1, hP1⟩ : ∃ P, F * ay = P := ⟨_, rfl⟩
  obtain ⟨P2, hP2⟩ : ∃ P, ax * D = P := ⟨_, rfl⟩
  rw [hP1] at j1 hl hh
  rw [hP2] at j2 hl hh
  obtain ⟨S, hS2⟩ : ∃ S, P1 - P2 = S := ⟨_, rfl⟩
  obtain ⟨U, hU⟩ : ∃ U, 2 * S = U := ⟨_, rfl⟩
  obtain ⟨V, hV⟩ : ∃ V, -ay = V := ⟨_, rfl⟩
  have u1 : V < U := by omega
  have u2 : U ≤ ay := by omega
  have p1a : -9223372036854775808 ≤ P1 := by omega
  have p1b : P1 ≤ 9223372036854775807 := by omega
  have p2a : -9223372036854775808 ≤ P2 := by omega
  have p2b : P2 ≤ 9223372036854775807 := by omega
  have sa : -9223372036854775808 ≤ S := by omega
  have sb : S ≤ 9223372036854775807 := by omega
  have ua : -9223372036854775808 ≤ U := by omega
  have ub : U ≤ 9223372036854775807 := by omega
  have va : -9223372036854775808 ≤ V := by omega
  have vb : V ≤ 9223372036854775807 := by omega
  have fa : -9223372036854775808 ≤ F := by omega
  have fb : F ≤ 9223372036854775807 := by omega
  have hxz : ¬ xy = 0 := by omega
  have xp1 : -9223372036854775808 ≤ xy := by omega
  have xp2 : xy ≤ 9223372036854775807 := by omega
  have BP := Lib.hid bp
  have HHB := Lib.hid (And.intro hFb hEb)
  clear hT hS hp hq hF hE hX hY hag hdv hax hay hbx hby hxx hxy hyx hyy IP IQ IX IY hQe j1 j2 hl hh hFb hEb bp bX
  go_enter Tryd.func7, Tryd.ntmps7
  go_wp2_with fail
  refine (HS.out er _ (HT.out.below HB0.out)).mono ?_
  rintro e w1 ⟨rfl, hB⟩
  have HB1 : Hid (Below w.heap.size w w1) := Lib.hid (HB0.out.trans (hB.mono HB0.out.size))
  clear hB
  go_wp2_with fail
  refine (make_any N K ax ay 0 er _ (by omega) (by omega) (by omega) (by omega) (HT.out.below HB1.out).err (by rw [HMN.out]; exact HIP.out.num) (by rw [HMN.out]; exact HIP.out.den) (by rw [HMN.out]; rfl)).mono ?_
  rintro e w2 ⟨rfl, hB⟩
  have HB2 : Hid (Below w.heap.size w w2) := Lib.hid (HB1.out.trans (hB.mono HB1.out.size))
  clear hB HB1
  go_wp2_with fail
  obtain ⟨w2', hwA⟩ : ∃ w2', w2' = w2.alloc (Obj.cells #[Value.int IntKind.i64 ax, Value.int IntKind.i64 ay] 26) := ⟨_, rfl⟩
  rw [← hwA]
  have HB2' : Hid (Below w.heap.size w w2') := Lib.hid (by rw [hwA]; exact HB2.out.alloc HB2.out.size _)
  have bA : Hid (BoxAt w2' w2.heap.size ax ay) := Lib.hid (by rw [hwA]; exact ⟨by simp [go_sem], by simp [go_sem]⟩)
  clear hwA HB2
  refine (make_any M K bx b_y 0 er _ (by omega) (by omega) (by omega) (by omega) (HT.out.below HB2'.out).err (by rw [HMM.out]; exact HIQ.out.num) (by rw [HMM.out]; exact HIQ.out.den) (by rw [HMM.out]; rfl)).mono ?_
  rintro e w3 ⟨rfl, hB⟩
  have HB3 : Hid (Below w.heap.size w w3) := Lib.hid (HB2'.out.trans (hB.mono HB2'.out.size))
  have bA' := Lib.hid (bA.out.below hB)
  clear hB bA HB2'
  have bA := bA'
  clear bA'
  have qA0 := bA.out.c0
  have qA1 := bA.out.c1
  have qAl := World.block_lt_of_cell? (h := qA0)
  go_wp2_with fail
  obtain ⟨w3', hwB⟩ : ∃ w3', w3' = w3.alloc (Obj.cells #[Value.int IntKind.i64 bx, Value.int IntKind.i64 b_y] 26) := ⟨_, rfl⟩
  rw [← hwB]
  have HB3' : Hid (Below w.heap.size w w3') := Lib.hid (by rw [hwB]; exact HB3.out.alloc HB3.out.size _)
  have bA' : Hid (BoxAt w3' w2.heap.size ax ay) := Lib.hid (by rw [hwB]; exact bA.out.alloc _)
  clear bA
  have bA := bA'
  clear bA'
  have bB : Hid (BoxAt w3' w3.heap.size bx b_y) := Lib.hid (by rw [hwB]; exact ⟨by simp [go_sem], by simp [go_sem]⟩)
  clear hwB HB3
  refine (roundF p _ ax ay D xx xy 0 er _ HIP.out d1 (by omega) (HT.out.below HB3'.out).err (by rw [HF.out]; exact HMF.out) HIX.out.parts).mono ?_
  rintro e w4 ⟨rfl, hB⟩
  have HB4 : Hid (Below w.heap.size w w4) := Lib.hid (HB3'.out.trans (hB.mono HB3'.out.size))
  have bA' := Lib.hid (bA.out.below hB)
  have bB' := Lib.hid (bB.out.below hB)
  clear hB bA bB qA0 qA1 qAl HB3'
  have bA := bA'
  clear bA'
  have bB := bB'
  clear bB'
  have qB0 := bB.out.c0
  have qB1 := bB.out.c1
  have qBl := World.block_lt_of_cell? (h := qB0)
  go_wp2_with fail
  obtain ⟨w4', hwX⟩ : ∃ w4', w4' = w4.alloc (Obj.cells #[Value.int IntKind.i64 xx, Value.int IntKind.i64 xy] 26) := ⟨_, rfl⟩
  rw [← hwX]
  have HB4' : Hid (Below w.heap.size w w4') := Lib.hid (by rw [hwX]; exact HB4.out.alloc HB4.out.size _)
  have bA' : Hid (BoxAt w4' w2.heap.size ax ay) := Lib.hid (by rw [hwX]; exact bA.out.alloc _)
  clear bA
  have bA := bA'
  clear bA'
  have bB' : Hid (BoxAt w4' w3.heap.size bx b_y) := Lib.hid (by rw [hwX]; exact bB.out.alloc _)
  clear bB
  have bB := bB'
  clear bB'
  have bX : Hid (BoxAt w4' w4.heap.size xx xy) := Lib.hid (by rw [hwX]; exact ⟨by simp [go_sem], by simp [go_sem]⟩)
  clear hwX HB4
  refine (roundF q _ bx b_y D yx yy 0 er _ HIQ.out d1 (by omega) (HT.out.below HB4'.out).err (by rw [HE.out]; exact HME.out) HIY.out.parts).mono ?_
  rintro e w5 ⟨rfl, hB⟩
  have HB5 : Hid (Below w.heap.size w w5) := Lib.hid (HB4'.out.trans (hB.mono HB4'.out.size))
  have bA' := Lib.hid (bA.out.below hB)
  have bB' := Lib.hid (bB.out.below hB)
  have bX' := Lib.hid (bX.out.below hB)
  clear hB bA bB bX qB0 qB1 qBl HB4'
  have bA := bA'
  clear bA'
  have bB := bB'
  clear bB'
  have bX := bX'
  clear bX'
  have qX0 := bX.out.c0
  have qX1 := bX.out.c1
  have qXl := World.block_lt_of_cell? (h := qX0)
  go_wp2_with fail
  obtain ⟨w5', hwY⟩ : ∃ w5', w5' = w5.alloc (Obj.cells #[Value.int IntKind.i64 yx, Value.int IntKind.i64 yy] 26) := ⟨_, rfl⟩
  rw [← hwY]
  have HB5' : Hid (Below w.heap.size w w5') := Lib.hid (by rw [hwY]; exact HB5.out.alloc HB5.out.size _)
  have bA' : Hid (BoxAt w5' w2.heap.size ax ay) := Lib.hid (by rw [hwY]; exact bA.out.alloc _)
  clear bA
  have bA := bA'
  clear bA'
  have bB' : Hid (BoxAt w5' w3.heap.size bx b_y) := Lib.hid (by rw [hwY]; exact bB.out.alloc _)
  clear bB
  have bB := bB'
  clear bB'
  have bX' : Hid (BoxAt w5' w4.heap.size xx xy) := Lib.hid (by rw [hwY]; exact bX.out.alloc _)
  clear bX
  have bX := bX'
  clear bX'
  have bY : Hid (BoxAt w5' w5.heap.size yx yy) := Lib.hid (by rw [hwY]; exact ⟨by simp [go_sem], by simp [go_sem]⟩)
  clear hwY HB5
  refine (roundF X _ xx xy D xx xy 0 er _ HIX.out d1 (by omega) (HT.out.below HB5'.out).err (by rw [HAG.out]; exact HMF.out) HIX.out.parts).mono ?_
  rintro e w6 ⟨rfl, hB⟩
  have HB6 : Hid (Below w.heap.size w w6) := Lib.hid (HB5'.out.trans (hB.mono HB5'.out.size))
  have bA' := Lib.hid (bA.out.below hB)
  have bB' := Lib.hid (bB.out.below hB)
  have bX' := Lib.hid (bX.out.below hB)
  have bY' := Lib.hid (bY.out.below hB)
  clear hB bA bB bX bY qX0 qX1 qXl HB5'
  have bA := bA'
  clear bA'
  have bB := bB'
  clear bB'
  have bX := bX'
  clear bX'
  have bY := bY'
  clear bY'
  have qX0 := bX.out.c0
  have qX1 := bX.out.c1
  have qXl := World.block_lt_of_cell? (h := qX0)
  go_wp2_with fail
  obtain ⟨w6', hwZ⟩ : ∃ w6', w6' = w6.alloc (Obj.cells #[Value.int IntKind.i64 xx, Value.int IntKind.i64 xy] 26) := ⟨_, rfl⟩
  rw [← hwZ]
  have HB6' : Hid (Below w.heap.size w w6') := Lib.hid (by rw [hwZ]; exact HB6.out.alloc HB6.out.size _)
  have bA' : Hid (BoxAt w6' w2.heap.size ax ay) := Lib.hid (by rw [hwZ]; exact bA.out.alloc _)
  clear bA
  have bA := bA'
  clear bA'
  have bB' : Hid (BoxAt w6' w3.heap.size bx b_y) := Lib.hid (by rw [hwZ]; exact bB.out.alloc _)
  clear bB
  have bB := bB'
  clear bB'
  have bX' : Hid (BoxAt w6' w4.heap.size xx xy) := Lib.hid (by rw [hwZ]; exact bX.out.alloc _)
  clear bX
  have bX := bX'
  clear bX'
  have bY' : Hid (BoxAt w6' w5.heap.size yx yy) := Lib.hid (by rw [hwZ]; exact bY.out.alloc _)
  clear bY
  have bY := bY'
  clear bY'
  have bZ : Hid (BoxAt w6' w6.heap.size xx xy) := Lib.hid (by rw [hwZ]; exact ⟨by simp [go_sem], by simp [go_sem]⟩)
  clear hwZ HB6
  clear qX0 qX1 qXl
  have qX0 := bX.out.c0
  have qX1 := bX.out.c1
  have qXl := World.block_lt_of_cell? (h := qX0)
  go_quiet (fail)
  obtain ⟨w7, hw⟩ : ∃ w7, w7 = w6'.drewN nq := ⟨_, rfl⟩
  rw [← hw]
  have hB : Below w6'.heap.size w6' w7 := by rw [hw]; exact below_drewN (Below.refl _ _) _
  have HB7 : Hid (Below w.heap.size w w7) := Lib.hid (HB6'.out.trans (hB.mono HB6'.out.size))
  have bA' := Lib.hid (bA.out.below hB)
  have bB' := Lib.hid (bB.out.below hB)
  have bX' := Lib.hid (bX.out.below hB)
  have bY' := Lib.hid (bY.out.below hB)
  have bZ' := Lib.hid (bZ.out.below hB)
  clear hB hw bA bB bX bY bZ qX0 qX1 qXl HB6'
  have bA := bA'
  clear bA'
  have bB := bB'
  clear bB'
  have bX := bX'
  clear bX'
  have bY := bY'
  clear bY'
  have bZ := bZ'
  clear bZ'
  have qA0 := bA.out.c0
  have qA1 := bA.out.c1
  have qAl := World.block_lt_of_cell? (h := qA0)
  have qB0 := bB.out.c0
  have qB1 := bB.out.c1
  have qBl := World.block_lt_of_cell? (h := qB0)
  go_wp2_with fail
  obtain ⟨r, hr⟩ : ∃ r, Rt.cmpR p q = r := ⟨_, rfl⟩
  have HR := Lib.hid hr
  clear hr
  clear bA
  clear bB
  clear bZ
  refine (cmpF p q ax ay bx b_y r er _ HIP.out HIQ.out (HT.out.below HB7.out).err HR.out).mono ?_
  rintro e w8 ⟨rfl, hB⟩
  have HB8 : Hid (Below w.heap.size w w8) := Lib.hid (HB7.out.trans (hB.mono HB7.out.size))
  have bX' := Lib.hid (bX.out.below hB)
  have bY' := Lib.hid (bY.out.below hB)
  clear hB bX bY qA0 qA1 qAl qB0 qB1 qBl HB7
  have bX := bX'
  clear bX'
  have bY := bY'
  clear bY'
  by_cases hr : 0 < r
  · go_wp2_with fail
    go_ret
    exact ⟨rfl, HB8.out⟩
  · obtain ⟨s, hs⟩ : ∃ s, Rt.cmpR X Y = s := ⟨_, rfl⟩
    have hs0 : s ≤ 0 := by rw [← hs]; exact HXY.out (Rt.cmpR_le.1 (by rw [HR.out]; omega))
    have HSV := Lib.hid hs
    clear hs
    have qX0 := bX.out.c0
    have qX1 := bX.out.c1
    have qXl := World.block_lt_of_cell? (h := qX0)
    have qY0 := bY.out.c0
    have qY1 := bY.out.c1
    have qYl := World.block_lt_of_cell? (h := qY0)
    go_wp2_with fail
    refine (cmpF X Y xx xy yx yy s er _ HIX.out HIY.out (HT.out.below HB8.out).err HSV.out).mono ?_
    rintro e w9 ⟨rfl, hB⟩
    have HB9 : Hid (Below w.heap.size w w9) := Lib.hid (HB8.out.trans (hB.mono HB8.out.size))
    have bX' := Lib.hid (bX.out.below hB)
    have bY' := Lib.hid (bY.out.below hB)
    clear hB bX bY qX0 qX1 qXl qY0 qY1 qYl HB8
    have bX := bX'
    clear bX'
    have bY := bY'
    clear bY'
    go_wp2_with fail
    go_ret
    exact ⟨rfl, HB9.out⟩
end Go.Proofs.YtphphamfejgdaaaDoor
