/- The iterator blocks yields the blocks of the extended string. Conditions: the parts are readable and together at most 2^40 bytes; the loop's rounds leave the parts alone. -/
import Derived.Test.YtlnlhjkdbpkaiaaDoorDigE
import Derived.Test.YtlnlhjkdbpkaiaaDoorDigRows
import Derived.Shelf.Abstract
import Derived.Shelf.RegionOpen
import Derived.WalkKit
import Derived.OwnWalkIn
import Derived.TacticsInMore
import Derived.LoopNIn
import Derived.LoopIn
import Derived.Sort.BigQuietIn
namespace Go.Proofs.YtlnlhjkdbpkaiaaDoor
open Go.RowKit Go.Shelf
attribute [local go_sem] Oper.semAt_some

abbrev Blk := { l : List UInt8 // l.length = 64 }
def blkEnc (x : Blk) : Array Value := #[.agg (cellsN .u8 (bN x.1))]
/-- All that has come. -/
def flat (pre : List Blk) : List UInt8 := (pre.map (·.1)).flatten
theorem flat_len (pre : List Blk) : (flat pre).length % 64 = 0 := by
  unfold flat
  rw [Ds.flatten_len _ (fun x hx => by obtain ⟨y, _, rfl⟩ := List.mem_map.1 hx; exact y.2)]; omega
theorem flat_snoc (pre : List Blk) (x : Blk) : flat (pre ++ [x]) = flat pre ++ x.1 := by simp [flat]
/-- The first k parts, one after the other. -/
def cat (f : Nat → ByteArray) : Nat → List UInt8
  | 0 => []
  | k + 1 => cat f k ++ (f k).data.toList
theorem cat_le (f : Nat → ByteArray) (n : Nat) : ∀ k, k ≤ n → (cat f k).length ≤ (cat f n).length := by
  induction n with
  | zero => intro k hk; obtain rfl : k = 0 := by omega
            exact Nat.le_refl _
  | succ n ih =>
    intro k hk
    by_cases h : k = n + 1
    · subst h; exact Nat.le_refl _
    · have := ih k (by omega); simp only [cat, List.length_append]; omega
/-- The parts are readable. -/
def PartsAt (Bp pb po n c : Nat) (f : Nat → ByteArray) (W : World) : Prop :=
  W.cell? ⟨Bp, 0, none⟩ = some (.slice (some ⟨pb, po, none⟩) n c) ∧ ∀ k, k < n → W.cell? ⟨pb, po + k, none⟩ = some (.string (f k))
theorem PartsAt.below {Bp pb po n c B : Nat} {f : Nat → ByteArray} {W W' : World} (h : PartsAt Bp pb po n c f W) (hb : Below B W W') (h1 : Bp < B) (h2 : pb < B) : PartsAt Bp pb po n c f W' :=
  ⟨(hb.cell (p := ⟨Bp, 0, none⟩) h1).trans h.1, fun k hk => (hb.cell (p := ⟨pb, po + k, none⟩) h2).trans (h.2 k hk)⟩
theorem PartsAt.spares {Bp pb po n c : Nat} {f : Nat → ByteArray} {may : Nat → Prop} {W W' : World} (h : PartsAt Bp pb po n c f W) (hb : Spares may W W') (h1 : Bp < W.heap.size) (h2 : pb < W.heap.size) (h3 : ¬ may Bp) (h4 : ¬ may pb) : PartsAt Bp pb po n c f W' :=
  ⟨(hb.cell (p := ⟨Bp, 0, none⟩) h1 h3).trans h.1, fun k hk => (hb.cell (p := ⟨pb, po + k, none⟩) h2 h4).trans (h.2 k hk)⟩
/-- The number of bytes of a string in a slot. -/
def strLen : Value → Nat | .string s => s.size | _ => 0

theorem extract_end (s : ByteArray) (a : Nat) : (s.extract a s.size).data.toList = s.data.toList.drop a := by
  rw [ByteArray.data_extract, Array.toList_extract, List.extract_eq_take_drop, List.take_of_length_le]
  simp
/-- The eight bytes of the length, as they come. -/
def beN (z i : Nat) : List Nat := List.replicate (8 - i) 0 ++ (bN (Ds.be8 z)).drop (8 - i)
theorem beN_len (z i : Nat) (h : i ≤ 8) : (beN z i).length = 8 := by
  have : 8 - i ≤ 8 := by omega
  simp [beN, bN, Ds.be8]
theorem noGoto_normal {Q : Exit → Act → World → Prop} {a : Act} {w : World} : Exit.noGoto Q .normal a w = Q .normal a w := rfl
theorem be_step (G : List Nat) (hG : G.length = 56) (z i : Nat) (hi : i < 8) : (G ++ beN z i).set (63 - i) (z / 256 ^ i % 256) = G ++ beN z (i + 1) := by
  rw [List.set_append_right _ _ (by omega), hG]
  congr 1
  obtain rfl | rfl | rfl | rfl | rfl | rfl | rfl | rfl : i = 0 ∨ i = 1 ∨ i = 2 ∨ i = 3 ∨ i = 4 ∨ i = 5 ∨ i = 6 ∨ i = 7 := by omega
  all_goals simp [beN, bN, Ds.be8, List.replicate]
theorem zeros_bN (n : Nat) : bN (List.replicate n 0) = List.replicate n 0 := by simp [bN]
theorem bN_append (a b : List UInt8) : bN (a ++ b) = bN a ++ bN b := by simp [bN]
/-- The bytes behind the last whole block, 128 and zeros. -/
theorem tail_row (buf : List UInt8) (fl : Nat) (hb : buf.length = 64) (hf : fl < 64) : zeroFrom ((bN buf).set fl 128) (fl + 1) = bN (buf.take fl ++ 128 :: List.replicate (63 - fl) 0) := by
  unfold zeroFrom
  rw [List.take_set, List.take_succ_eq_append_getElem (by simp [bN]; omega)]
  rw [List.set_append_right _ _ (by simp [bN]; omega)]
  simp [bN, List.map_take, show min fl buf.length = fl by omega, show 64 - (fl + 1) = 63 - fl by omega]
theorem pad_eq (m : List UInt8) (fl : Nat) (h : m.length % 64 = fl) (_hf : fl < 64) :
    (fl < 56 → Ds.pad m = m ++ (128 :: List.replicate (55 - fl) 0) ++ Ds.be8 (8 * m.length)) ∧
    (¬ fl < 56 → Ds.pad m = m ++ (128 :: List.replicate (63 - fl) 0) ++ List.replicate 56 0 ++ Ds.be8 (8 * m.length)) := by
  unfold Ds.pad
  rw [h]
  refine ⟨fun h1 => ?_, fun h1 => ?_⟩
  · rw [show (119 - fl) % 64 = 55 - fl by omega]; simp
  · rw [show (119 - fl) % 64 = (63 - fl) + 56 by omega, ← List.replicate_append_replicate]; simp
/-- Between two steps of the iterator: its block, the parts, the caller's invariant. -/
def ItAt (J : List Blk → World → Prop) (b Bp pb po n c : Nat) (f : Nat → ByteArray) (pre : List Blk) (buf : List Nat) (W : World) : Prop :=
  J pre W ∧ Row W b 62 .u8 buf ∧ PartsAt Bp pb po n c f W
section
variable {J : List Blk → World → Prop} {b Bp pb po n c : Nat} {f : Nat → ByteArray} {pre : List Blk} {buf : List Nat} {W : World}
theorem ItAt.row (h : ItAt J b Bp pb po n c f pre buf W) (hJ : Stays b J) (h1 : Bp < b) (h2 : pb < b) (buf' : List Nat) : ItAt J b Bp pb po n c f pre buf' (W.setRow b (cellsN .u8 buf')) :=
  ⟨hJ _ _ _ h.1 (below_row _ (Nat.le_refl _)), setRow_heap _ _ _ _ _ _ h.2.1, h.2.2.below (below_row _ (Nat.le_refl _)) h1 h2⟩
theorem ItAt.set (h : ItAt J b Bp pb po n c f pre buf W) (hJ : Stays b J) (h1 : Bp < b) (h2 : pb < b) (j v : Nat) : ItAt J b Bp pb po n c f pre (buf.set j v) (W.setCell ⟨b, j, none⟩ (.int .u8 (v : Int))) := by
  have hb : Below b W (W.setCell ⟨b, j, none⟩ (.int .u8 (v : Int))) := (Below.refl b W).setCell (p := ⟨b, j, none⟩) (Nat.le_refl _) _
  exact ⟨hJ _ _ _ h.1 hb, h.2.1.set j v, h.2.2.below hb h1 h2⟩
theorem ItAt.drewN (h : ItAt J b Bp pb po n c f pre buf W) (hJ : Stays b J) (h1 : Bp < b) (h2 : pb < b) (q : Nat) : ItAt J b Bp pb po n c f pre buf (W.drewN q) := by
  have hb : Below b W (W.drewN q) := ⟨rfl, rfl, rfl, Nat.le_refl _, fun _ _ => rfl⟩
  exact ⟨hJ _ _ _ h.1 hb, h.2.1.drewN q, h.2.2.below hb h1 h2⟩
theorem ItAt.yield (h : ItAt J b Bp pb po n c f pre buf W) {x : Blk} {W' : World} {may : Nat → Prop} {l : Nat} (hj : J (pre ++ [x]) W') (hs : Spares (fun k => may k ∨ k = l) W W') (h1 : Bp < b) (h2 : pb < b) (h3 : ¬ may Bp) (h4 : ¬ may pb) (h5 : ¬ may b) (h6 : Bp ≠ l) (h7 : pb ≠ l) (h8 : b ≠ l) :
    ItAt J b Bp pb po n c f (pre ++ [x]) buf W' := by
  have hlt := h.2.1.lt
  refine ⟨hj, (hs.block b hlt (fun e => ?_)).trans h.2.1, h.2.2.spares hs (by omega) (by omega) (fun e => ?_) (fun e => ?_)⟩
  · exact e.elim h5 h8
  · exact e.elim h3 h6
  · exact e.elim h4 h7
end

set_option maxRecDepth 100000 in
set_option maxHeartbeats 8000000 in
theorem blocks_own (nf : Nat) (hn1 : 1 ≤ nf) (may : Nat → Prop) (Bp pb po n c : Nat) (f : Nat → ByteArray) (w : World)
    (hP : PartsAt Bp pb po n c f w) (hBp : Bp < w.heap.size) (hpb : pb < w.heap.size) (hm1 : ¬ may Bp) (hm2 : ¬ may pb) (hmay : ∀ k, may k → k < w.heap.size) (hlen : (cat f n).length ≤ 1099511627776) (hnm : n ≤ maxLen) :
    SeqOwn Fence.wide nf Tryd.prog 53 #[.pointer (some ⟨Bp, 0, none⟩)] blkEnc may (fun xs => flat xs = Ds.pad (cat f n)) w := fun l J W hW hl1 hl2 hJ hY h0 => by
  have hPW := hP.below hW hBp hpb
  have hsz := hW.size
  unfold maxLen at hnm
  obtain ⟨b, hb⟩ : ∃ b, b = W.heap.size := ⟨_, rfl⟩
  have k1 : Bp < b := by omega
  have k2 : pb < b := by omega
  have k3 : ¬ may b := fun h => by have := hmay b h; omega
  have k4 : Bp ≠ l := by omega
  have k5 : pb ≠ l := by omega
  have k6 : b ≠ l := by omega
  have hJ' := hJ
  rw [← hb] at hJ'
  have HI0 : Hid (ItAt J b Bp pb po n c f [] (List.replicate 64 0) (W.alloc (.cells (cellsN .u8 (List.replicate 64 0)) 62))) := by
    have hba : Below b W (W.alloc (.cells (cellsN .u8 (List.replicate 64 0)) 62)) := (Below.refl b W).alloc (by omega) _
    exact ⟨hJ' _ _ _ h0 hba, Row.new' _ _ _ _ hb rfl, hPW.below hba k1 k2⟩
  have HB := Lib.hid hb
  refine callsIn_of_wp Tryd.func53 rfl trivial ?_ rfl
  simp only [Tryd.ntmps53, List.size_toArray, List.length_cons, List.length_nil, Nat.reduceAdd, Nat.reduceSub, Array.replicate_succ, Array.replicate_zero, List.push_toArray, List.append_toArray, List.nil_append, List.cons_append]
  refine wpIn_scope ?_
  clear hb hPW hP
  gi_wp2
  refine wpIn_label ?_
  rw [← HB.out]
  obtain ⟨W2, hW2⟩ : ∃ W2, W2 = W.alloc (.cells (cellsN .u8 (List.replicate 64 0)) 62) := ⟨_, rfl⟩
  have hlit : cellsN .u8 (List.replicate 64 0) = #[.int .u8 0, .int .u8 0, .int .u8 0, .int .u8 0, .int .u8 0, .int .u8 0, .int .u8 0, .int .u8 0, .int .u8 0, .int .u8 0, .int .u8 0, .int .u8 0, .int .u8 0, .int .u8 0, .int .u8 0, .int .u8 0, .int .u8 0, .int .u8 0, .int .u8 0, .int .u8 0, .int .u8 0, .int .u8 0, .int .u8 0, .int .u8 0, .int .u8 0, .int .u8 0, .int .u8 0, .int .u8 0, .int .u8 0, .int .u8 0, .int .u8 0, .int .u8 0, .int .u8 0, .int .u8 0, .int .u8 0, .int .u8 0, .int .u8 0, .int .u8 0, .int .u8 0, .int .u8 0, .int .u8 0, .int .u8 0, .int .u8 0, .int .u8 0, .int .u8 0, .int .u8 0, .int .u8 0, .int .u8 0, .int .u8 0, .int .u8 0, .int .u8 0, .int .u8 0, .int .u8 0, .int .u8 0, .int .u8 0, .int .u8 0, .int .u8 0, .int .u8 0, .int .u8 0, .int .u8 0, .int .u8 0, .int .u8 0, .int .u8 0, .int .u8 0] := rfl
  rw [← hlit, ← hW2]
  rw [← hW2] at HI0
  have hc0 := HI0.out.2.2.1
  clear hlit hW2
  gi_wp2
  gi_loopw [4, 5, 7, 8, 12] (fun pf pz _ _ pk wr => ∃ (k fl : Nat) (buf : List UInt8) (pre : List Blk), k ≤ n ∧ fl < 64 ∧ buf.length = 64 ∧ pf = .int .i64 fl ∧ pz = .int .u64 (8 * (cat f k).length : Nat) ∧ pk = .int .i64 k ∧ flat pre ++ buf.take fl = cat f k ∧ ItAt J b Bp pb po n c f pre (bN buf) wr) (fun _ _ _ _ pk _ => n - (intOf pk).toNat)
  case atStart => exact ⟨0, 0, List.replicate 64 0, [], by omega, by omega, rfl, rfl, rfl, rfl, rfl, HI0.out⟩
  case round =>
    obtain ⟨k, fl, buf, pre, hk, hfl, hbl, rfl, rfl, rfl, hcat, hI⟩ := hrel
    by_cases hlt : k < n
    · have hc1 := hI.2.2.2 k hlt
      obtain ⟨s, hs⟩ : ∃ s, s = f k := ⟨_, rfl⟩
      rw [← hs] at hc1
      have HCAT := Lib.hid hcat
      have HI := Lib.hid hI
      have HS := Lib.hid hs
      obtain ⟨z, hz⟩ : ∃ z, z = 8 * (cat f k).length := ⟨_, rfl⟩
      have hzl : z + 8 * s.size ≤ 8796093022208 := by
        have h1 := cat_le f n (k + 1) (by omega)
        simp only [cat, List.length_append] at h1
        rw [← hs, ← Lib.size_eq] at h1
        omega
      rw [← hz]
      have HZ := Lib.hid hz
      clear hcat hI hs hz
      have HCS : Hid (cat f (k + 1) = cat f k ++ s.data.toList) := Lib.hid (by rw [HS.out]; rfl)
      gi_wp2
      obtain ⟨wo, rfl⟩ : ∃ wo : World, wo = wr := ⟨_, rfl⟩
      gi_loopw [4, 7, 8] (fun pf pp _ wr => ∃ (fl : Nat) (s : ByteArray) (buf : List UInt8) (pre : List Blk), fl < 64 ∧ s.size ≤ 1099511627776 ∧ buf.length = 64 ∧ pf = .int .i64 fl ∧ pp = .string s ∧ flat pre ++ buf.take fl ++ s.data.toList = cat f (k + 1) ∧ ItAt J b Bp pb po n c f pre (bN buf) wr) (fun _ pp _ _ => strLen pp)
      case atStart => exact ⟨fl, s, buf, pre, hfl, by omega, hbl, rfl, rfl, by rw [HCAT.out, HCS.out], HI.out⟩
      case round =>
        obtain ⟨fl, t, buf, pre, hfl, htl, hbl, rfl, rfl, hcat, hI⟩ := hrel
        obtain ⟨m, hm⟩ : ∃ m, m = min t.size (64 - fl) := ⟨_, rfl⟩
        have hmt : m ≤ t.size := by omega
        have hmf : fl + m ≤ 64 := by omega
        have hsl := fun W => slice64 W b fl hfl
        have hcp := fun ty => copy64 wr b fl buf t ty hI.2.1 hbl (by omega) m hm
        obtain ⟨nb, hnb⟩ : ∃ nb, nb = putAt buf fl m t.data.toList := ⟨_, rfl⟩
        have htm : m ≤ t.data.toList.length := by rw [← Lib.size_eq]; exact hmt
        have hnl : nb.length = 64 := by rw [hnb]; exact putAt_len hbl hmf htm
        have hnt : nb.take (fl + m) = buf.take fl ++ t.data.toList.take m := by rw [hnb]; exact putAt_take hbl hmf htm
        rw [← hnb] at hcp
        have hI2 := hI.row hJ' k1 k2 (bN nb)
        have HCP := Lib.hid hcp
        have HI2 := Lib.hid hI2
        have HM := Lib.hid hm
        have HME : Hid (fl + m < 64 → m = t.size) := Lib.hid (by omega)
        have HMF : Hid (¬ fl + m < 64 → fl + m = 64) := Lib.hid (by omega)
        have HNT := Lib.hid hnt
        have HC := Lib.hid hcat
        clear hcp hI2 hm hnt hcat hI hnb
        by_cases hfull : fl + m < 64
        · have hse : t.extract m t.size = ByteArray.empty := by
            rw [HME.out hfull]; exact ByteArray.extract_same
          have hsum : IntKind.i64.wrap ((fl : Int) + (m : Int)) = (fl : Int) + (m : Int) := IntWalk.i64_in _ (by omega)
          have b1 : (m : Int) ≤ (t.size : Int) := by omega
          gi_wp2_with (refine inCopyRun rfl _ _ 42 9 rfl _ _ rfl rfl HCP.out ?_)
          gi_big_quiet_th (fail)
          gi_wp2
          go_roundw
          case rel => exact ⟨k + 1, fl + m, nb, pre, by omega, hfull, hnl, by go_num, by rw [HCS.out, HZ.out, List.length_append, ← Lib.size_eq]; go_num, by go_num, by
            rw [HNT.out, ← HC.out, List.append_assoc, HME.out hfull, List.take_of_length_le (l := t.data.toList) (by rw [← Lib.size_eq]; exact Nat.le_refl _)], HI2.out.drewN hJ' k1 k2 _⟩
          case measure => simp [intOf]; omega
        · have hsum : IntKind.i64.wrap ((fl : Int) + (m : Int)) = 64 := by have := HMF.out hfull; rw [IntWalk.i64_in _ (by omega)]; omega
          have hsum' : (fl : Int) + (m : Int) = 64 := by have := HMF.out hfull; omega
          have b1 : (m : Int) ≤ (t.size : Int) := by omega
          have HSUM := Lib.hid hsum'
          clear hsum'
          gi_wp2_with (refine inCopyRun rfl _ _ 42 9 rfl _ _ rfl rfl HCP.out ?_)
          gi_big_quiet_th (fail)
          have hI3 := HI2.out.drewN hJ' k1 k2 nq
          obtain ⟨W3, hW3⟩ : ∃ W3, W3 = (wr.setRow b (cellsN .u8 (bN nb))).drewN nq := ⟨_, rfl⟩
          rw [← hW3] at hI3
          rw [← hW3]
          obtain ⟨fn, tmps, assign, body, hy, hR⟩ := hY pre ⟨nb, hnl⟩ W3 hI3.1
          dsimp only [blkEnc] at hy
          have HI3 := Lib.hid hI3
          have HHY := Lib.hid hY
          clear hI3 hW3 hsum
          gi_wp2_with (first | (refine inLoadRow rfl 62 _ rfl b rfl 62 (cellsN .u8 (bN nb)) (0, 0) _ HI3.out.2.1 Tryd.underlying62 rfl (info64br hnl) ?_) | fail)
          refine hR.mono ?_
          rintro e W4 ⟨rfl, hj4, hs4⟩
          have HI4 := Lib.hid (HI3.out.yield hj4 hs4 k1 k2 hm1 hm2 k3 k4 k5 k6)
          clear hj4 hs4 hR hy
          gi_wp2
          go_roundw
          case rel => exact ⟨0, t.extract m t.size, nb, pre ++ [⟨nb, hnl⟩], by omega, by simp; omega, hnl, rfl, rfl, by
            have e1 : nb = buf.take fl ++ t.data.toList.take m := by
              have := HNT.out
              rw [show fl + m = 64 by have := HSUM.out; omega, List.take_of_length_le (by omega)] at this
              exact this
            rw [flat_snoc, List.take_zero, List.append_nil, ← HC.out, extract_end]
            dsimp only
            rw [e1]
            simp only [List.append_assoc, List.take_append_drop], HI4.out⟩
          case measure => simp [strLen]; have := HSUM.out; omega
    · have hkn : k = n := by omega
      subst hkn
      have hz : 8 * (cat f k).length ≤ 8796093022208 := by omega
      obtain ⟨z, hzz⟩ : ∃ z, z = 8 * (cat f k).length := ⟨_, rfl⟩
      rw [← hzz] at hz
      rw [← hzz]
      have hfr := hI.2.1.frozen fl
      have hcl := hI.2.1.cell (j := fl) (by rw [bN_len]; omega)
      have HI := Lib.hid hI
      have HI1 := Lib.hid (hI.set hJ' k1 k2 fl 128)
      have HC := Lib.hid hcat
      have HZ := Lib.hid hzz
      have HHY := Lib.hid hY
      have hml : (cat f k).length % 64 = fl := by
        have h1 := congrArg List.length hcat
        have h2 : (flat pre).length % 64 = 0 := flat_len pre
        rw [List.length_append, List.length_take] at h1; omega
      have HPAD := Lib.hid (pad_eq (cat f k) fl hml hfl)
      clear hI hcat hzz hml hY
      obtain ⟨n1, hn1'⟩ : ∃ n1, n1 = fl + 1 := ⟨_, rfl⟩
      obtain ⟨q, hq⟩ : ∃ q, q = 64 - n1 := ⟨_, rfl⟩
      have hst : ItAt J b Bp pb po k c f pre ((bN buf).set fl 128) (wr.setCell ⟨b, fl, none⟩ (.int .u8 128)) := HI1.out
      have HST := Lib.hid hst
      have HTR := Lib.hid (tail_row buf fl hbl hfl)
      have HL1 : Hid (((bN buf).set fl 128).length = 64) := Lib.hid (by rw [List.length_set, bN_len, hbl])
      clear hst
      by_cases hc56 : fl < 56
      · have hG : (buf.take fl ++ 128 :: List.replicate (55 - fl) 0).length = 56 := by simp; omega
        obtain ⟨G, hGe⟩ : ∃ G, G = buf.take fl ++ 128 :: List.replicate (55 - fl) 0 := ⟨_, rfl⟩
        rw [← hGe] at hG
        have hI6 : ItAt J b Bp pb po k c f pre (bN G ++ beN z 0) ((wr.setCell ⟨b, fl, none⟩ (.int .u8 128)).setRow b (cellsN .u8 (zeroFrom ((bN buf).set fl 128) n1))) := by
          have h := HST.out.row hJ' k1 k2 (zeroFrom ((bN buf).set fl 128) n1)
          have e : zeroFrom ((bN buf).set fl 128) n1 = bN G ++ beN z 0 := by
            rw [hn1', HTR.out, hGe, show beN z 0 = List.replicate 8 0 from rfl, ← zeros_bN, ← bN_append, List.append_assoc, List.cons_append, List.replicate_append_replicate, show 55 - fl + 8 = 63 - fl by omega]
          rw [e] at h ⊢
          exact h
        have HGE : Hid (flat pre ++ (G ++ Ds.be8 z) = Ds.pad (cat f k)) := Lib.hid (by
          rw [(HPAD.out).1 hc56, ← HC.out, hGe, HZ.out, ← HC.out]; simp only [List.append_assoc])
        obtain ⟨pre2, hp2⟩ : ∃ p2, p2 = pre := ⟨_, rfl⟩
        rw [← hp2] at hI6 HGE
        have hsl : ∀ W, (Instr.sliceAt 62 (.pointer (some ⟨b, 0, none⟩)) (some (.int .i64 ((fl : Int) + 1))) none none).run Tryd.prog W = .ok (.slice (some ⟨b, n1, none⟩) q q) W := fun W => by
          have h := slice64 W b n1 (by omega)
          rw [← hq, show ((n1 : Nat) : Int) = (fl : Int) + 1 by omega] at h
          exact h
        have hcr := fun ty => clear64 (wr.setCell ⟨b, fl, none⟩ (.int .u8 128)) b n1 _ ty HST.out.2.1 HL1.out (by omega)
        rw [← hq] at hcr
        have HCR := Lib.hid hcr
        have HN := Lib.hid hn1'
        have HQ := Lib.hid hq
        clear hcr hn1' hq
        have HI5 := Lib.hid hI6
        clear hI6 hGe hp2
        have hno : ¬ (56 : Int) < (fl : Int) + 1 := by omega
        gi_wp2_with (first | (refine inClearRun rfl _ 42 rfl _ rfl HCR.out ?_) | fail)
        have hI6 := HI5.out
        obtain ⟨W6, hW6⟩ : ∃ W6, W6 = (wr.setCell ⟨b, fl, none⟩ (.int .u8 128)).setRow b (cellsN .u8 (zeroFrom ((bN buf).set fl 128) n1)) := ⟨_, rfl⟩
        rw [← hW6]
        rw [← hW6] at hI6
        have HI6 := Lib.hid hI6
        clear hI6 hW6
        gi_wp2
        gi_loopw [9, 52] (fun _ pc wr => ∃ i : Nat, i ≤ 8 ∧ pc = .int .i64 i ∧ ItAt J b Bp pb po k c f pre2 (bN G ++ beN z i) wr) (fun _ pc _ => 8 - (intOf pc).toNat)
        case atStart => exact ⟨0, by omega, rfl, HI6.out⟩
        case round =>
          obtain ⟨i, hi, rfl, hI7⟩ := hrel
          have HI7 := Lib.hid hI7
          have hfr := fun j => hI7.2.1.frozen j
          have hcl := fun (j : Nat) (hj : j < 64) => hI7.2.1.cell (j := j) (by rw [List.length_append, bN_len, beN_len z i hi]; omega)
          have HFR := Lib.hid hfr
          have HCL := Lib.hid hcl
          clear hI7 hfr hcl
          by_cases hi8 : i < 8
          · obtain rfl | rfl | rfl | rfl | rfl | rfl | rfl | rfl : i = 0 ∨ i = 1 ∨ i = 2 ∨ i = 3 ∨ i = 4 ∨ i = 5 ∨ i = 6 ∨ i = 7 := by omega
            · have hf := HFR.out 63
              have hc := HCL.out 63 (by omega)
              gi_wp2
              go_roundw
              case rel => exact ⟨1, by omega, by go_num, by
                have h := HI7.out.set hJ' k1 k2 63 (z / 256 ^ 0 % 256)
                rw [be_step (bN G) (by rw [bN_len]; exact hG) z 0 (by omega)] at h
                rw [show ((z : Int)) % 256 = ((z / 256 ^ 0 % 256 : Nat) : Int) by simp]
                exact h⟩
              case measure => simp [intOf]
            · have hf := HFR.out 62
              have hc := HCL.out 62 (by omega)
              gi_wp2
              go_roundw
              case rel => exact ⟨2, by omega, by go_num, by
                have h := HI7.out.set hJ' k1 k2 62 (z / 256 ^ 1 % 256)
                rw [be_step (bN G) (by rw [bN_len]; exact hG) z 1 (by omega)] at h
                rw [show ((z : Int) / 256) % 256 = ((z / 256 ^ 1 % 256 : Nat) : Int) by simp]
                exact h⟩
              case measure => simp [intOf]
            · have hf := HFR.out 61
              have hc := HCL.out 61 (by omega)
              gi_wp2
              go_roundw
              case rel => exact ⟨3, by omega, by go_num, by
                have h := HI7.out.set hJ' k1 k2 61 (z / 256 ^ 2 % 256)
                rw [be_step (bN G) (by rw [bN_len]; exact hG) z 2 (by omega)] at h
                rw [show ((z : Int) / 65536) % 256 = ((z / 256 ^ 2 % 256 : Nat) : Int) by simp]
                exact h⟩
              case measure => simp [intOf]
            · have hf := HFR.out 60
              have hc := HCL.out 60 (by omega)
              gi_wp2
              go_roundw
              case rel => exact ⟨4, by omega, by go_num, by
                have h := HI7.out.set hJ' k1 k2 60 (z / 256 ^ 3 % 256)
                rw [be_step (bN G) (by rw [bN_len]; exact hG) z 3 (by omega)] at h
                rw [show ((z : Int) / 16777216) % 256 = ((z / 256 ^ 3 % 256 : Nat) : Int) by simp]
                exact h⟩
              case measure => simp [intOf]
            · have hf := HFR.out 59
              have hc := HCL.out 59 (by omega)
              gi_wp2
              go_roundw
              case rel => exact ⟨5, by omega, by go_num, by
                have h := HI7.out.set hJ' k1 k2 59 (z / 256 ^ 4 % 256)
                rw [be_step (bN G) (by rw [bN_len]; exact hG) z 4 (by omega)] at h
                rw [show ((z : Int) / 4294967296) % 256 = ((z / 256 ^ 4 % 256 : Nat) : Int) by simp]
                exact h⟩
              case measure => simp [intOf]
            · have hf := HFR.out 58
              have hc := HCL.out 58 (by omega)
              gi_wp2
              go_roundw
              case rel => exact ⟨6, by omega, by go_num, by
                have h := HI7.out.set hJ' k1 k2 58 (z / 256 ^ 5 % 256)
                rw [be_step (bN G) (by rw [bN_len]; exact hG) z 5 (by omega)] at h
                rw [show ((z : Int) / 1099511627776) = ((z / 256 ^ 5 % 256 : Nat) : Int) by rw [show (256 : Nat) ^ 5 = 1099511627776 from rfl]; omega]
                exact h⟩
              case measure => simp [intOf]
            · have hf := HFR.out 57
              have hc := HCL.out 57 (by omega)
              gi_wp2
              go_roundw
              case rel => exact ⟨7, by omega, by go_num, by
                have h := HI7.out.set hJ' k1 k2 57 (z / 256 ^ 6 % 256)
                rw [be_step (bN G) (by rw [bN_len]; exact hG) z 6 (by omega)] at h
                rw [show ((z : Int) / 281474976710656) = ((z / 256 ^ 6 % 256 : Nat) : Int) by rw [show (256 : Nat) ^ 6 = 281474976710656 from rfl]; omega]
                exact h⟩
              case measure => simp [intOf]
            · have hf := HFR.out 56
              have hc := HCL.out 56 (by omega)
              gi_wp2
              go_roundw
              case rel => exact ⟨8, by omega, by go_num, by
                have h := HI7.out.set hJ' k1 k2 56 (z / 256 ^ 7 % 256)
                rw [be_step (bN G) (by rw [bN_len]; exact hG) z 7 (by omega)] at h
                rw [show ((z : Int) / 72057594037927936) = ((z / 256 ^ 7 % 256 : Nat) : Int) by rw [show (256 : Nat) ^ 7 = 72057594037927936 from rfl]; omega]
                exact h⟩
              case measure => simp [intOf]
          · obtain rfl : i = 8 := by omega
            have HI8 := Lib.hid (show ItAt J b Bp pb po k c f pre2 (bN (G ++ Ds.be8 z)) wr by rw [bN_append]; exact HI7.out)
            have hGl : (G ++ Ds.be8 z).length = 64 := by rw [List.length_append, hG]; rfl
            obtain ⟨fn, tmps, assign, body, hy, hR⟩ := HHY.out pre2 ⟨G ++ Ds.be8 z, hGl⟩ wr HI8.out.1
            dsimp only [blkEnc] at hy
            clear HFR HCL
            gi_wp2_with (first | (refine inLoadRow rfl 62 _ rfl b rfl 62 (cellsN .u8 (bN (G ++ Ds.be8 z))) (0, 0) _ HI8.out.2.1 Tryd.underlying62 rfl (info64br hGl) ?_) | fail)
            refine hR.mono ?_
            rintro e W9 ⟨rfl, hj9, hs9⟩
            have HJ9 := Lib.hid hj9
            clear hR hy hj9 hs9
            gi_wp2
            rw [noGoto_normal]
            go_end0
            exact ⟨⟨_, rfl⟩, pre2 ++ [⟨G ++ Ds.be8 z, hGl⟩], by rw [flat_snoc]; exact HGE.out, HJ9.out⟩
      · have hx1 : (buf.take fl ++ 128 :: List.replicate (63 - fl) 0).length = 64 := by simp; omega
        obtain ⟨x1, hxe⟩ : ∃ x1, x1 = buf.take fl ++ 128 :: List.replicate (63 - fl) 0 := ⟨_, rfl⟩
        rw [← hxe] at hx1
        have HTX : Hid (zeroFrom ((bN buf).set fl 128) n1 = bN x1) := Lib.hid (by rw [hn1', HTR.out, hxe])
        have hG : (List.replicate 56 (0 : UInt8)).length = 56 := by simp
        obtain ⟨G, hGe⟩ : ∃ G, G = List.replicate 56 (0 : UInt8) := ⟨_, rfl⟩
        rw [← hGe] at hG
        have HGG := Lib.hid hGe
        have HGE : Hid (flat (pre ++ [⟨x1, hx1⟩]) ++ (G ++ Ds.be8 z) = Ds.pad (cat f k)) := Lib.hid (by
          rw [(HPAD.out).2 hc56, ← HC.out, flat_snoc, hGe, HZ.out, ← HC.out]; dsimp only; rw [hxe]; simp only [List.append_assoc])
        have hyes : (56 : Int) < (fl : Int) + 1 := by omega
        clear hGe hxe
        by_cases h63 : fl < 63
        · have H5 : Hid (ItAt J b Bp pb po k c f pre (bN x1) ((wr.setCell ⟨b, fl, none⟩ (.int .u8 128)).setRow b (cellsN .u8 (zeroFrom ((bN buf).set fl 128) n1)))) := Lib.hid (by
            have h := HST.out.row hJ' k1 k2 (zeroFrom ((bN buf).set fl 128) n1)
            rw [HTX.out] at h ⊢
            exact h)
          have hsl : ∀ W, (Instr.sliceAt 62 (.pointer (some ⟨b, 0, none⟩)) (some (.int .i64 ((fl : Int) + 1))) none none).run Tryd.prog W = .ok (.slice (some ⟨b, n1, none⟩) q q) W := fun W => by
            have h := slice64 W b n1 (by omega)
            rw [← hq, show ((n1 : Nat) : Int) = (fl : Int) + 1 by omega] at h
            exact h
          have hcr := fun ty => clear64 (wr.setCell ⟨b, fl, none⟩ (.int .u8 128)) b n1 _ ty HST.out.2.1 HL1.out (by omega)
          rw [← hq] at hcr
          have HCR := Lib.hid hcr
          have HN := Lib.hid hn1'
          have HQ := Lib.hid hq
          clear hcr hn1' hq
          obtain ⟨W5, hW5⟩ : ∃ W5, W5 = (wr.setCell ⟨b, fl, none⟩ (.int .u8 128)).setRow b (cellsN .u8 (zeroFrom ((bN buf).set fl 128) n1)) := ⟨_, rfl⟩
          have hI5 : ItAt J b Bp pb po k c f pre (bN x1) W5 := by rw [hW5]; exact H5.out
          obtain ⟨fn, tmps, assign, body, hy, hR⟩ := HHY.out pre ⟨x1, hx1⟩ W5 hI5.1
          dsimp only [blkEnc] at hy
          have HI5 := Lib.hid hI5
          have hsa := fun W => slice64a W b
          have HW5 := Lib.hid hW5
          clear hI5 hW5
          gi_wp2_with (first | (refine inClearRun rfl _ 42 rfl _ rfl HCR.out ?_; rw [← HW5.out]) | (refine inLoadRow rfl 62 _ rfl b rfl 62 (cellsN .u8 (bN x1)) (0, 0) _ HI5.out.2.1 Tryd.underlying62 rfl (info64br hx1) ?_) | fail)
          refine hR.mono ?_
          rintro e W4 ⟨rfl, hj4, hs4⟩
          obtain ⟨pre2, hp2⟩ : ∃ p2, p2 = pre ++ [(⟨x1, hx1⟩ : Blk)] := ⟨_, rfl⟩
          have hI4 := HI5.out.yield hj4 hs4 k1 k2 hm1 hm2 k3 k4 k5 k6
          rw [← hp2] at hI4 HGE
          have hc2 := fun ty => clear64 W4 b 0 _ ty hI4.2.1 (by rw [bN_len]; exact hx1) (by omega)
          have HC2 := Lib.hid hc2
          have HI4 := Lib.hid hI4
          clear hj4 hs4 hR hy hI4 hp2 hc2
          gi_wp2_with (first | (refine inClearRun rfl _ 42 rfl _ rfl HC2.out ?_) | fail)
          have hI6 : ItAt J b Bp pb po k c f pre2 (bN G ++ beN z 0) (W4.setRow b (cellsN .u8 (zeroFrom (bN x1) 0))) := by
            have h := HI4.out.row hJ' k1 k2 (zeroFrom (bN x1) 0)
            have e : zeroFrom (bN x1) 0 = bN G ++ beN z 0 := by
              rw [HGG.out, zeros_bN]; rfl
            rw [e] at h ⊢
            exact h
          obtain ⟨W6, hW6⟩ : ∃ W6, W6 = W4.setRow b (cellsN .u8 (zeroFrom (bN x1) 0)) := ⟨_, rfl⟩
          rw [← hW6]
          rw [← hW6] at hI6
          have HI6 := Lib.hid hI6
          clear hI6 hW6
          gi_wp2
          gi_loopw [9, 52] (fun _ pc wr => ∃ i : Nat, i ≤ 8 ∧ pc = .int .i64 i ∧ ItAt J b Bp pb po k c f pre2 (bN G ++ beN z i) wr) (fun _ pc _ => 8 - (intOf pc).toNat)
          case atStart => exact ⟨0, by omega, rfl, HI6.out⟩
          case round =>
            obtain ⟨i, hi, rfl, hI7⟩ := hrel
            have HI7 := Lib.hid hI7
            have hfr := fun j => hI7.2.1.frozen j
            have hcl := fun (j : Nat) (hj : j < 64) => hI7.2.1.cell (j := j) (by rw [List.length_append, bN_len, beN_len z i hi]; omega)
            have HFR := Lib.hid hfr
            have HCL := Lib.hid hcl
            clear hI7 hfr hcl
            by_cases hi8 : i < 8
            · obtain rfl | rfl | rfl | rfl | rfl | rfl | rfl | rfl : i = 0 ∨ i = 1 ∨ i = 2 ∨ i = 3 ∨ i = 4 ∨ i = 5 ∨ i = 6 ∨ i = 7 := by omega
              · have hf := HFR.out 63
                have hc := HCL.out 63 (by omega)
                gi_wp2
                go_roundw
                case rel => exact ⟨1, by omega, by go_num, by
                  have h := HI7.out.set hJ' k1 k2 63 (z / 256 ^ 0 % 256)
                  rw [be_step (bN G) (by rw [bN_len]; exact hG) z 0 (by omega)] at h
                  rw [show ((z : Int)) % 256 = ((z / 256 ^ 0 % 256 : Nat) : Int) by simp]
                  exact h⟩
                case measure => simp [intOf]
              · have hf := HFR.out 62
                have hc := HCL.out 62 (by omega)
                gi_wp2
                go_roundw
                case rel => exact ⟨2, by omega, by go_num, by
                  have h := HI7.out.set hJ' k1 k2 62 (z / 256 ^ 1 % 256)
                  rw [be_step (bN G) (by rw [bN_len]; exact hG) z 1 (by omega)] at h
                  rw [show ((z : Int) / 256) % 256 = ((z / 256 ^ 1 % 256 : Nat) : Int) by simp]
                  exact h⟩
                case measure => simp [intOf]
              · have hf := HFR.out 61
                have hc := HCL.out 61 (by omega)
                gi_wp2
                go_roundw
                case rel => exact ⟨3, by omega, by go_num, by
                  have h := HI7.out.set hJ' k1 k2 61 (z / 256 ^ 2 % 256)
                  rw [be_step (bN G) (by rw [bN_len]; exact hG) z 2 (by omega)] at h
                  rw [show ((z : Int) / 65536) % 256 = ((z / 256 ^ 2 % 256 : Nat) : Int) by simp]
                  exact h⟩
                case measure => simp [intOf]
              · have hf := HFR.out 60
                have hc := HCL.out 60 (by omega)
                gi_wp2
                go_roundw
                case rel => exact ⟨4, by omega, by go_num, by
                  have h := HI7.out.set hJ' k1 k2 60 (z / 256 ^ 3 % 256)
                  rw [be_step (bN G) (by rw [bN_len]; exact hG) z 3 (by omega)] at h
                  rw [show ((z : Int) / 16777216) % 256 = ((z / 256 ^ 3 % 256 : Nat) : Int) by simp]
                  exact h⟩
                case measure => simp [intOf]
              · have hf := HFR.out 59
                have hc := HCL.out 59 (by omega)
                gi_wp2
                go_roundw
                case rel => exact ⟨5, by omega, by go_num, by
                  have h := HI7.out.set hJ' k1 k2 59 (z / 256 ^ 4 % 256)
                  rw [be_step (bN G) (by rw [bN_len]; exact hG) z 4 (by omega)] at h
                  rw [show ((z : Int) / 4294967296) % 256 = ((z / 256 ^ 4 % 256 : Nat) : Int) by simp]
                  exact h⟩
                case measure => simp [intOf]
              · have hf := HFR.out 58
                have hc := HCL.out 58 (by omega)
                gi_wp2
                go_roundw
                case rel => exact ⟨6, by omega, by go_num, by
                  have h := HI7.out.set hJ' k1 k2 58 (z / 256 ^ 5 % 256)
                  rw [be_step (bN G) (by rw [bN_len]; exact hG) z 5 (by omega)] at h
                  rw [show ((z : Int) / 1099511627776) = ((z / 256 ^ 5 % 256 : Nat) : Int) by rw [show (256 : Nat) ^ 5 = 1099511627776 from rfl]; omega]
                  exact h⟩
                case measure => simp [intOf]
              · have hf := HFR.out 57
                have hc := HCL.out 57 (by omega)
                gi_wp2
                go_roundw
                case rel => exact ⟨7, by omega, by go_num, by
                  have h := HI7.out.set hJ' k1 k2 57 (z / 256 ^ 6 % 256)
                  rw [be_step (bN G) (by rw [bN_len]; exact hG) z 6 (by omega)] at h
                  rw [show ((z : Int) / 281474976710656) = ((z / 256 ^ 6 % 256 : Nat) : Int) by rw [show (256 : Nat) ^ 6 = 281474976710656 from rfl]; omega]
                  exact h⟩
                case measure => simp [intOf]
              · have hf := HFR.out 56
                have hc := HCL.out 56 (by omega)
                gi_wp2
                go_roundw
                case rel => exact ⟨8, by omega, by go_num, by
                  have h := HI7.out.set hJ' k1 k2 56 (z / 256 ^ 7 % 256)
                  rw [be_step (bN G) (by rw [bN_len]; exact hG) z 7 (by omega)] at h
                  rw [show ((z : Int) / 72057594037927936) = ((z / 256 ^ 7 % 256 : Nat) : Int) by rw [show (256 : Nat) ^ 7 = 72057594037927936 from rfl]; omega]
                  exact h⟩
                case measure => simp [intOf]
            · obtain rfl : i = 8 := by omega
              have HI8 := Lib.hid (show ItAt J b Bp pb po k c f pre2 (bN (G ++ Ds.be8 z)) wr by rw [bN_append]; exact HI7.out)
              have hGl : (G ++ Ds.be8 z).length = 64 := by rw [List.length_append, hG]; rfl
              obtain ⟨fn, tmps, assign, body, hy, hR⟩ := HHY.out pre2 ⟨G ++ Ds.be8 z, hGl⟩ wr HI8.out.1
              dsimp only [blkEnc] at hy
              clear HFR HCL
              gi_wp2_with (first | (refine inLoadRow rfl 62 _ rfl b rfl 62 (cellsN .u8 (bN (G ++ Ds.be8 z))) (0, 0) _ HI8.out.2.1 Tryd.underlying62 rfl (info64br hGl) ?_) | fail)
              refine hR.mono ?_
              rintro e W9 ⟨rfl, hj9, hs9⟩
              have HJ9 := Lib.hid hj9
              clear hR hy hj9 hs9
              gi_wp2
              rw [noGoto_normal]
              go_end0
              exact ⟨⟨_, rfl⟩, pre2 ++ [⟨G ++ Ds.be8 z, hGl⟩], by rw [flat_snoc]; exact HGE.out, HJ9.out⟩
        · obtain rfl : fl = 63 := by omega
          have H5 : Hid (ItAt J b Bp pb po k c f pre (bN x1) (wr.setCell ⟨b, 63, none⟩ (.int .u8 128))) := Lib.hid (by
            have h := HST.out
            have e : (bN buf).set 63 128 = bN x1 := by
              rw [← HTX.out, hn1']
              unfold zeroFrom
              rw [List.take_of_length_le (by rw [HL1.out]; omega)]; simp
            rw [e] at h
            exact h)
          have hsl := fun W => slice64e W b
          have hcr := fun W ty => clear64n W (some ⟨b, 0, none⟩) 0 ty
          have HCR := Lib.hid hcr
          clear hcr hn1' hq
          obtain ⟨W5, hW5⟩ : ∃ W5, W5 = wr.setCell ⟨b, 63, none⟩ (.int .u8 128) := ⟨_, rfl⟩
          have hI5 : ItAt J b Bp pb po k c f pre (bN x1) W5 := by rw [hW5]; exact H5.out
          obtain ⟨fn, tmps, assign, body, hy, hR⟩ := HHY.out pre ⟨x1, hx1⟩ W5 hI5.1
          dsimp only [blkEnc] at hy
          have HI5 := Lib.hid hI5
          have hsa := fun W => slice64a W b
          have HW5 := Lib.hid hW5
          clear hI5 hW5
          gi_wp2_with (first | (refine inClearRun rfl _ 42 rfl _ rfl (HCR.out _) ?_; rw [← HW5.out]) | (refine inLoadRow rfl 62 _ rfl b rfl 62 (cellsN .u8 (bN x1)) (0, 0) _ HI5.out.2.1 Tryd.underlying62 rfl (info64br hx1) ?_) | fail)
          refine hR.mono ?_
          rintro e W4 ⟨rfl, hj4, hs4⟩
          obtain ⟨pre2, hp2⟩ : ∃ p2, p2 = pre ++ [(⟨x1, hx1⟩ : Blk)] := ⟨_, rfl⟩
          have hI4 := HI5.out.yield hj4 hs4 k1 k2 hm1 hm2 k3 k4 k5 k6
          rw [← hp2] at hI4 HGE
          have hc2 := fun ty => clear64 W4 b 0 _ ty hI4.2.1 (by rw [bN_len]; exact hx1) (by omega)
          have HC2 := Lib.hid hc2
          have HI4 := Lib.hid hI4
          clear hj4 hs4 hR hy hI4 hp2 hc2
          gi_wp2_with (first | (refine inClearRun rfl _ 42 rfl _ rfl HC2.out ?_) | fail)
          have hI6 : ItAt J b Bp pb po k c f pre2 (bN G ++ beN z 0) (W4.setRow b (cellsN .u8 (zeroFrom (bN x1) 0))) := by
            have h := HI4.out.row hJ' k1 k2 (zeroFrom (bN x1) 0)
            have e : zeroFrom (bN x1) 0 = bN G ++ beN z 0 := by
              rw [HGG.out, zeros_bN]; rfl
            rw [e] at h ⊢
            exact h
          obtain ⟨W6, hW6⟩ : ∃ W6, W6 = W4.setRow b (cellsN .u8 (zeroFrom (bN x1) 0)) := ⟨_, rfl⟩
          rw [← hW6]
          rw [← hW6] at hI6
          have HI6 := Lib.hid hI6
          clear hI6 hW6
          gi_wp2
          gi_loopw [9, 52] (fun _ pc wr => ∃ i : Nat, i ≤ 8 ∧ pc = .int .i64 i ∧ ItAt J b Bp pb po k c f pre2 (bN G ++ beN z i) wr) (fun _ pc _ => 8 - (intOf pc).toNat)
          case atStart => exact ⟨0, by omega, rfl, HI6.out⟩
          case round =>
            obtain ⟨i, hi, rfl, hI7⟩ := hrel
            have HI7 := Lib.hid hI7
            have hfr := fun j => hI7.2.1.frozen j
            have hcl := fun (j : Nat) (hj : j < 64) => hI7.2.1.cell (j := j) (by rw [List.length_append, bN_len, beN_len z i hi]; omega)
            have HFR := Lib.hid hfr
            have HCL := Lib.hid hcl
            clear hI7 hfr hcl
            by_cases hi8 : i < 8
            · obtain rfl | rfl | rfl | rfl | rfl | rfl | rfl | rfl : i = 0 ∨ i = 1 ∨ i = 2 ∨ i = 3 ∨ i = 4 ∨ i = 5 ∨ i = 6 ∨ i = 7 := by omega
              · have hf := HFR.out 63
                have hc := HCL.out 63 (by omega)
                gi_wp2
                go_roundw
                case rel => exact ⟨1, by omega, by go_num, by
                  have h := HI7.out.set hJ' k1 k2 63 (z / 256 ^ 0 % 256)
                  rw [be_step (bN G) (by rw [bN_len]; exact hG) z 0 (by omega)] at h
                  rw [show ((z : Int)) % 256 = ((z / 256 ^ 0 % 256 : Nat) : Int) by simp]
                  exact h⟩
                case measure => simp [intOf]
              · have hf := HFR.out 62
                have hc := HCL.out 62 (by omega)
                gi_wp2
                go_roundw
                case rel => exact ⟨2, by omega, by go_num, by
                  have h := HI7.out.set hJ' k1 k2 62 (z / 256 ^ 1 % 256)
                  rw [be_step (bN G) (by rw [bN_len]; exact hG) z 1 (by omega)] at h
                  rw [show ((z : Int) / 256) % 256 = ((z / 256 ^ 1 % 256 : Nat) : Int) by simp]
                  exact h⟩
                case measure => simp [intOf]
              · have hf := HFR.out 61
                have hc := HCL.out 61 (by omega)
                gi_wp2
                go_roundw
                case rel => exact ⟨3, by omega, by go_num, by
                  have h := HI7.out.set hJ' k1 k2 61 (z / 256 ^ 2 % 256)
                  rw [be_step (bN G) (by rw [bN_len]; exact hG) z 2 (by omega)] at h
                  rw [show ((z : Int) / 65536) % 256 = ((z / 256 ^ 2 % 256 : Nat) : Int) by simp]
                  exact h⟩
                case measure => simp [intOf]
              · have hf := HFR.out 60
                have hc := HCL.out 60 (by omega)
                gi_wp2
                go_roundw
                case rel => exact ⟨4, by omega, by go_num, by
                  have h := HI7.out.set hJ' k1 k2 60 (z / 256 ^ 3 % 256)
                  rw [be_step (bN G) (by rw [bN_len]; exact hG) z 3 (by omega)] at h
                  rw [show ((z : Int) / 16777216) % 256 = ((z / 256 ^ 3 % 256 : Nat) : Int) by simp]
                  exact h⟩
                case measure => simp [intOf]
              · have hf := HFR.out 59
                have hc := HCL.out 59 (by omega)
                gi_wp2
                go_roundw
                case rel => exact ⟨5, by omega, by go_num, by
                  have h := HI7.out.set hJ' k1 k2 59 (z / 256 ^ 4 % 256)
                  rw [be_step (bN G) (by rw [bN_len]; exact hG) z 4 (by omega)] at h
                  rw [show ((z : Int) / 4294967296) % 256 = ((z / 256 ^ 4 % 256 : Nat) : Int) by simp]
                  exact h⟩
                case measure => simp [intOf]
              · have hf := HFR.out 58
                have hc := HCL.out 58 (by omega)
                gi_wp2
                go_roundw
                case rel => exact ⟨6, by omega, by go_num, by
                  have h := HI7.out.set hJ' k1 k2 58 (z / 256 ^ 5 % 256)
                  rw [be_step (bN G) (by rw [bN_len]; exact hG) z 5 (by omega)] at h
                  rw [show ((z : Int) / 1099511627776) = ((z / 256 ^ 5 % 256 : Nat) : Int) by rw [show (256 : Nat) ^ 5 = 1099511627776 from rfl]; omega]
                  exact h⟩
                case measure => simp [intOf]
              · have hf := HFR.out 57
                have hc := HCL.out 57 (by omega)
                gi_wp2
                go_roundw
                case rel => exact ⟨7, by omega, by go_num, by
                  have h := HI7.out.set hJ' k1 k2 57 (z / 256 ^ 6 % 256)
                  rw [be_step (bN G) (by rw [bN_len]; exact hG) z 6 (by omega)] at h
                  rw [show ((z : Int) / 281474976710656) = ((z / 256 ^ 6 % 256 : Nat) : Int) by rw [show (256 : Nat) ^ 6 = 281474976710656 from rfl]; omega]
                  exact h⟩
                case measure => simp [intOf]
              · have hf := HFR.out 56
                have hc := HCL.out 56 (by omega)
                gi_wp2
                go_roundw
                case rel => exact ⟨8, by omega, by go_num, by
                  have h := HI7.out.set hJ' k1 k2 56 (z / 256 ^ 7 % 256)
                  rw [be_step (bN G) (by rw [bN_len]; exact hG) z 7 (by omega)] at h
                  rw [show ((z : Int) / 72057594037927936) = ((z / 256 ^ 7 % 256 : Nat) : Int) by rw [show (256 : Nat) ^ 7 = 72057594037927936 from rfl]; omega]
                  exact h⟩
                case measure => simp [intOf]
            · obtain rfl : i = 8 := by omega
              have HI8 := Lib.hid (show ItAt J b Bp pb po k c f pre2 (bN (G ++ Ds.be8 z)) wr by rw [bN_append]; exact HI7.out)
              have hGl : (G ++ Ds.be8 z).length = 64 := by rw [List.length_append, hG]; rfl
              obtain ⟨fn, tmps, assign, body, hy, hR⟩ := HHY.out pre2 ⟨G ++ Ds.be8 z, hGl⟩ wr HI8.out.1
              dsimp only [blkEnc] at hy
              clear HFR HCL
              gi_wp2_with (first | (refine inLoadRow rfl 62 _ rfl b rfl 62 (cellsN .u8 (bN (G ++ Ds.be8 z))) (0, 0) _ HI8.out.2.1 Tryd.underlying62 rfl (info64br hGl) ?_) | fail)
              refine hR.mono ?_
              rintro e W9 ⟨rfl, hj9, hs9⟩
              have HJ9 := Lib.hid hj9
              clear hR hy hj9 hs9
              gi_wp2
              rw [noGoto_normal]
              go_end0
              exact ⟨⟨_, rfl⟩, pre2 ++ [⟨G ++ Ds.be8 z, hGl⟩], by rw [flat_snoc]; exact HGE.out, HJ9.out⟩
end Go.Proofs.YtlnlhjkdbpkaiaaDoor
