/- Texts of fields and formats. Conditions: texts of limited length; numbers that are ints; what the functions of texts read of memory. -/
import Derived.Test.YtcnokccgdiodlaaGreatDoorFmtO
namespace Go.Proofs.YtcnokccgdiodlaaGreatDoor
open Go.RowKit Fx

theorem strCells_eq (s : ByteArray) : Lib.strCells s = Lib.byteCells s.data.toList := by
  simp [Lib.strCells, Lib.byteCells]
theorem digits_get (n : Nat) (h : n < 16) (h2 : n < (⟨#[48, 49, 50, 51, 52, 53, 54, 55, 56, 57, 97, 98, 99, 100, 101, 102]⟩ : ByteArray).size) : ((⟨#[48, 49, 50, 51, 52, 53, 54, 55, 56, 57, 97, 98, 99, 100, 101, 102]⟩ : ByteArray)[n]) = hexD n := by
  match n, h, h2 with
  | 0, _, _ => rfl
  | 1, _, _ => rfl
  | 2, _, _ => rfl
  | 3, _, _ => rfl
  | 4, _, _ => rfl
  | 5, _, _ => rfl
  | 6, _, _ => rfl
  | 7, _, _ => rfl
  | 8, _, _ => rfl
  | 9, _, _ => rfl
  | 10, _, _ => rfl
  | 11, _, _ => rfl
  | 12, _, _ => rfl
  | 13, _, _ => rfl
  | 14, _, _ => rfl
  | 15, _, _ => rfl
  | k + 16, h, _ => omega
theorem hex_take (s : ByteArray) (k : Nat) (h : k < s.size) : hex (s.data.toList.take (k + 1)) = hex (s.data.toList.take k) ++ [hexD ((s[k]).toNat / 16), hexD ((s[k]).toNat % 16)] := by
  have e : s.data.toList.take (k + 1) = s.data.toList.take k ++ [s[k]] := by
    rw [List.take_succ_eq_append_getElem (by simpa using h)]; rfl
  rw [e]; unfold hex; simp
theorem hex_len (l : List UInt8) : (hex l).length = 2 * l.length := by
  unfold hex
  induction l with
  | nil => rfl
  | cons a l ih => rw [List.flatMap_cons, List.length_append, ih]; simp; omega
set_option maxRecDepth 100000 in
set_option maxHeartbeats 1000000 in
theorem hex_any (s : ByteArray) (w : World) (hs : s.size ≤ 10000000) :
    Calls Tryz.prog 83 #[.string s] w fun e w' => e = .returned (.string ⟨(hex s.data.toList).toArray⟩) ∧ Below w.heap.size w w' := by
  go_enter Tryz.func83, Tryz.ntmps83
  go_wp2_with fail
  obtain ⟨W, hW⟩ : ∃ W, W = w.alloc (.cells #[.pointer none, .slice none 0 0] 99) := ⟨_, rfl⟩
  rw [← hW]
  have h0 : Hid (IsB w.heap.size w.heap.size (Lib.byteCells []) W ∧ Below w.heap.size w W) := Lib.hid (by
    rw [hW]
    exact ⟨.inl ⟨Nat.le_refl _, .slice none 0 0, heap_alloc_new _ _, World.ownsRow_nil _ _ _ _, by simp [Value.ownBlock]⟩, bx _⟩)
  clear hW
  go_loopw [7] (fun i wr => ∃ k : Nat, k ≤ s.size ∧ i = .int .i64 k ∧ Hid (IsB w.heap.size w.heap.size (Lib.byteCells (hex (s.data.toList.take k))) wr ∧ Below w.heap.size w wr)) (fun i _ => s.size - (intOf i).toNat)
  case atStart => exact ⟨0, Nat.zero_le _, rfl, h0⟩
  case round =>
    obtain ⟨k, hk, rfl, HI⟩ := hrel
    by_cases hlt : k < s.size
    · have hc : (s[k]).toNat < 256 := (s[k]).toNat_lt
      have hlen : (Lib.byteCells (hex (s.data.toList.take k))).length ≤ 20000000 := by rw [Lib.byteCells_length, hex_len, List.length_take]; omega
      have HT := Lib.hid (hex_take s k hlt)
      go_wp2_with fail
      refine (wByte_any w.heap.size w.heap.size _ _ wr HI.out.1 (by omega) HI.out.2.size).mono ?_
      rintro e w1 ⟨rfl, h1, hb1⟩
      have H1 := Lib.hid (And.intro h1 (HI.out.2.trans hb1))
      clear h1 hb1
      go_wp2_with fail
      refine (wByte_any w.heap.size w.heap.size _ _ w1 H1.out.1 (by simp; omega) H1.out.2.size).mono ?_
      rintro e w2 ⟨rfl, h2, hb2⟩
      have H2 : Hid (IsB w.heap.size w.heap.size (Lib.byteCells (hex (s.data.toList.take (k + 1)))) w2 ∧ Below w.heap.size w w2) := Lib.hid (by
        refine ⟨?_, H1.out.2.trans hb2⟩
        rw [HT.out]
        have e : Lib.byteCells (hex (s.data.toList.take k) ++ [hexD ((s[k]).toNat / 16), hexD ((s[k]).toNat % 16)]) = Lib.byteCells (hex (s.data.toList.take k)) ++ [.int .u8 (hexD ((s[k]).toNat / 16)).toNat] ++ [.int .u8 (hexD ((s[k]).toNat % 16)).toNat] := by simp [Lib.byteCells]
        rw [e]
        rw [digits_get _ (by omega), digits_get _ (by omega)] at h2
        exact h2)
      clear h2 hb2 H1 HT HI hlen
      go_wp2_with fail
      go_roundw
      case rel => exact ⟨k + 1, by omega, by go_num, H2⟩
      case measure => simp [intOf]; omega
    · obtain rfl : k = s.size := by omega
      have HE : Hid (IsB w.heap.size w.heap.size (Lib.byteCells (hex s.data.toList)) wr ∧ Below w.heap.size w wr) := Lib.hid (by
        have e : s.data.toList.take s.size = s.data.toList := List.take_of_length_le (by simp)
        have := HI.out
        rwa [e] at this)
      clear HI
      go_wp2_with fail
      refine (bString_any w.heap.size w.heap.size _ wr HE.out.1 HE.out.2.size).mono ?_
      rintro e w1 ⟨rfl, hb⟩
      have HB := Lib.hid (HE.out.2.trans hb)
      clear hb HE
      go_wp2_with fail
      go_ret
      exact ⟨rfl, HB.out⟩

/-- The bytes of a list as a string. -/
abbrev bs (l : List UInt8) : ByteArray := ⟨l.toArray⟩
theorem bs_append (a b : List UInt8) : bs a ++ bs b = bs (a ++ b) := by
  apply ByteArray.ext
  simp
theorem bs_list (s : ByteArray) : bs s.data.toList = s := by cases s; simp
theorem dec_len : ∀ (k u : Nat), 1 ≤ k → u < 10 ^ k → (Lib.decDigits u).length ≤ k
  | 0, _, h, _ => by omega
  | k + 1, u, _, hu => by
    by_cases h : u < 10
    · rw [dec_small h]; simp
    · rw [dec_big h, List.length_append]
      have hk : 1 ≤ k := by
        rcases Nat.eq_zero_or_pos k with h0 | h0
        · subst h0; simp at hu; omega
        · exact h0
      have := dec_len k (u / 10) hk (by rw [Nat.pow_succ] at hu; omega)
      simp; omega
theorem itoa_len {n : Int} (n1 : -9223372036854775808 ≤ n) (n2 : n ≤ 9223372036854775807) : (Lib.itoa n).length ≤ 20 := by
  unfold Lib.itoa
  split
  · have := dec_len 19 n.natAbs (by decide) (by omega)
    simp; omega
  · have := dec_len 19 n.toNat (by decide) (by omega)
    omega
theorem itoa_size {n : Int} {I : ByteArray} (n1 : -9223372036854775808 ≤ n) (n2 : n ≤ 9223372036854775807) (h : bs (Lib.itoa n) = I) : I.size ≤ 20 := by
  rw [← h]; exact itoa_len n1 n2
theorem heading_any (id : Int) (S : ByteArray) (a : Addr) (w : World) (n1 : -9223372036854775808 ≤ id) (n2 : id ≤ 9223372036854775807) (hT : Txt w a) (hS : bs (heading id) = S) :
    Calls Tryz.prog 61 #[.int .i64 id] w fun e w' => e = .returned (.string S) ∧ Below w.heap.size w w' := by
  obtain ⟨I, hI⟩ : ∃ I, bs (Lib.itoa id) = I := ⟨_, rfl⟩
  have HC := Lib.hid (itoa_any id I a w n1 n2 hT hI)
  have HS : Hid ((⟨#[102, 111, 114, 109, 97, 116, 32]⟩ : ByteArray) ++ I = S) := Lib.hid (by
    rw [← hS, ← hI]
    exact (bs_append [102, 111, 114, 109, 97, 116, 32] (Lib.itoa id)).trans (by unfold heading wFormat; rfl))
  have hsz := itoa_size n1 n2 hI
  clear hS hI hT n1 n2
  go_enter Tryz.func61, Tryz.ntmps61
  go_wp2_with fail
  refine HC.out.mono ?_
  rintro e w1 ⟨rfl, hb⟩
  have HB := Lib.hid hb
  clear hb
  go_wp2_with fail
  go_ret
  exact ⟨by rw [HS.out]; rfl, HB.out⟩

/-! the words behind the first one -/
theorem wLit_any (f : Fld) (w : World) (hs : f.text.size ≤ 10000000) :
    Calls Tryz.prog 82 #[fldV f] w fun e w' => e = .returned (.string (bs (hex f.text.data.toList))) ∧ Below w.heap.size w w' := by
  have HC := Lib.hid (hex_any f.text (w.alloc (.cells #[.int .i64 f.kind, .int .i64 f.n, .int .i64 f.frm, .string f.text] 56)) hs)
  go_enter Tryz.func82, Tryz.ntmps82
  go_wp2_with fail
  refine HC.out.mono ?_
  rintro e w1 ⟨rfl, hb⟩
  have HB : Hid (Below w.heap.size w w1) := Lib.hid ((bx _).trans (hb.mono (by simp)))
  clear hb
  go_wp2_with fail
  go_ret
  exact ⟨rfl, HB.out⟩
theorem wNum_any (f : Fld) (a : Addr) (w : World) (hf : Ints f) (hT : Txt w a) :
    Calls Tryz.prog 105 #[fldV f] w fun e w' => e = .returned (.string (bs (Lib.itoa f.n))) ∧ Below w.heap.size w w' := by
  have HC := Lib.hid (itoa_any f.n _ a (w.alloc (.cells #[.int .i64 f.kind, .int .i64 f.n, .int .i64 f.frm, .string f.text] 56)) hf.n1 hf.n2 (hT.below (bx _)) rfl)
  go_enter Tryz.func105, Tryz.ntmps105
  go_wp2_with fail
  refine HC.out.mono ?_
  rintro e w1 ⟨rfl, hb⟩
  have HB : Hid (Below w.heap.size w w1) := Lib.hid ((bx _).trans (hb.mono (by simp)))
  clear hb
  go_wp2_with fail
  go_ret
  exact ⟨rfl, HB.out⟩
set_option maxHeartbeats 1000000 in
theorem wCounted_any (f : Fld) (c b2 : Nat) (a : Addr) (w : World) (hf : Ints f) (hT : Txt w a) (hk : w.heap[c]? = some (.cells (sizedV ⟨#[98, 121, 116, 101, 115]⟩ b2) 73 (0, 0))) (S : ByteArray)
    (hS : bs (if f.frm = -1 then Lib.itoa f.n else wFrom ++ 32 :: Lib.itoa f.frm) = S) :
    Calls Tryz.prog 109 #[fldV f, adr c] w fun e w' => e = .returned (.string S) ∧ Below w.heap.size w w' := by
  have c3 : w.cell? ⟨c, 3, none⟩ = some (clo 105 #[]) := cell_of_row _ _ _ _ _ _ hk
  have hcl := lt_of_heap hk
  by_cases h1 : f.frm = -1
  · have d1 : ((f.frm : Int) == -1) = true := by simpa using h1
    rw [if_pos h1] at hS
    have HC := Lib.hid (wNum_any f a (w.alloc (.cells #[.int .i64 f.kind, .int .i64 f.n, .int .i64 f.frm, .string f.text] 56)) hf (hT.below (bx _)))
    have HS := Lib.hid hS
    clear hS h1 hT hk
    go_enter Tryz.func109, Tryz.ntmps109
    go_wp2_with fail
    refine HC.out.mono ?_
    rintro e w1 ⟨rfl, hb⟩
    rw [HS.out]
    have HB : Hid (Below w.heap.size w w1) := Lib.hid ((bx _).trans (hb.mono (by simp)))
    clear hb
    go_wp2_with fail
    go_ret
    exact ⟨rfl, HB.out⟩
  · have d1 : ((f.frm : Int) == -1) = false := by simpa using h1
    rw [if_neg h1] at hS
    obtain ⟨I, hI⟩ : ∃ I, bs (Lib.itoa f.frm) = I := ⟨_, rfl⟩
    have HC := Lib.hid (itoa_any f.frm I a (w.alloc (.cells #[.int .i64 f.kind, .int .i64 f.n, .int .i64 f.frm, .string f.text] 56)) hf.f1 hf.f2 (hT.below (bx _)) hI)
    have HS : Hid ((⟨#[102, 114, 111, 109, 32]⟩ : ByteArray) ++ I = S) := Lib.hid (by
      rw [← hS, ← hI]
      exact (bs_append [102, 114, 111, 109, 32] (Lib.itoa f.frm)).trans (by unfold wFrom; rfl))
    have hsz := itoa_size hf.f1 hf.f2 hI
    clear hS h1 hT hI hk
    go_enter Tryz.func109, Tryz.ntmps109
    go_wp2_with fail
    refine HC.out.mono ?_
    rintro e w1 ⟨rfl, hb⟩
    have HB : Hid (Below w.heap.size w w1) := Lib.hid ((bx _).trans (hb.mono (by simp)))
    clear hb
    go_wp2_with fail
    go_ret
    exact ⟨by rw [HS.out]; rfl, HB.out⟩
set_option maxHeartbeats 1000000 in
theorem wNested_any (f : Fld) (a : Addr) (w : World) (hf : Ints f) (hT : Txt w a) (S : ByteArray) (hS : bs (Lib.itoa f.n ++ 32 :: (wFrom ++ 32 :: Lib.itoa f.frm)) = S) :
    Calls Tryz.prog 90 #[fldV f] w fun e w' => e = .returned (.string S) ∧ Below w.heap.size w w' := by
  obtain ⟨I, hI⟩ : ∃ I, bs (Lib.itoa f.n) = I := ⟨_, rfl⟩
  obtain ⟨J, hJ⟩ : ∃ J, bs (Lib.itoa f.frm) = J := ⟨_, rfl⟩
  have s1 := itoa_size hf.n1 hf.n2 hI
  have s2 := itoa_size hf.f1 hf.f2 hJ
  have HS : Hid (I ++ (⟨#[32, 102, 114, 111, 109, 32]⟩ : ByteArray) ++ J = S) := Lib.hid (by
    rw [← hS, ← hI, ← hJ]
    rw [show (⟨#[32, 102, 114, 111, 109, 32]⟩ : ByteArray) = bs [32, 102, 114, 111, 109, 32] from rfl, bs_append, bs_append]
    unfold wFrom; simp)
  have HF := Lib.hid (And.intro hf (And.intro hI hJ))
  have HT := Lib.hid hT
  clear hf hI hJ hS hT
  go_enter Tryz.func90, Tryz.ntmps90
  go_wp2_with fail
  obtain ⟨w0, hw0⟩ : ∃ w0, w0 = w.alloc (.cells #[.int .i64 f.kind, .int .i64 f.n, .int .i64 f.frm, .string f.text] 56) := ⟨_, rfl⟩
  rw [← hw0]
  have k1 : w0.cell? ⟨w.heap.size, 1, none⟩ = some (.int .i64 f.n) := by rw [hw0]; simp [go_sem]
  have k2 : w0.cell? ⟨w.heap.size, 2, none⟩ = some (.int .i64 f.frm) := by rw [hw0]; simp [go_sem]
  have HT0 : Hid (Txt w0 a) := Lib.hid (by rw [hw0]; exact HT.out.below (bx _))
  have HB0 : Hid (Below w.heap.size w w0) := Lib.hid (by rw [hw0]; exact bx _)
  clear hw0 HT
  have g1 := fun d os => cell_regrown k1 d os
  have g2 := fun d os => cell_regrown k2 d os
  clear k1 k2
  have HC : Hid (∀ (n : Int) (X : ByteArray) d os, (n = f.n ∧ X = I) ∨ (n = f.frm ∧ X = J) → Calls Tryz.prog 78 #[.int .i64 n] (Sort.grow (redrawn w0 d) os) fun e w' => e = .returned (.string X) ∧ Below (Sort.grow (redrawn w0 d) os).heap.size (Sort.grow (redrawn w0 d) os) w') := Lib.hid (fun n X d os h => by
    rcases h with ⟨rfl, rfl⟩ | ⟨rfl, rfl⟩
    · exact itoa_any _ _ a _ HF.out.1.n1 HF.out.1.n2 (HT0.out.below (below_regrown _ _ _)) HF.out.2.1
    · exact itoa_any _ _ a _ HF.out.1.f1 HF.out.1.f2 (HT0.out.below (below_regrown _ _ _)) HF.out.2.2)
  refine wp_region_quiet_below (by kernel_rfl) (by kernel_rfl) ?_
  repeat (first | go_big_quiet_step (first | (go_at_call 78; exact Calls.regrown_of (HC.out _ _ _ _ (.inl ⟨rfl, rfl⟩))) | (go_at_call 78; exact Calls.regrown_of (HC.out _ _ _ _ (.inr ⟨rfl, rfl⟩)))) | quiet_step (first | (go_at_call 78; exact Calls.regrown_of (HC.out _ _ _ _ (.inl ⟨rfl, rfl⟩))) | (go_at_call 78; exact Calls.regrown_of (HC.out _ _ _ _ (.inr ⟨rfl, rfl⟩)))))
  refine wpQuiet_nil ?_
  intro _ hw'
  obtain ⟨⟨dq, osq⟩, hw''⟩ := hw'
  subst hw''
  go_wp2
  go_ret
  exact ⟨by rw [← HS.out]; rfl, HB0.out.trans ((below_regrown w0 dq osq).mono HB0.out.size)⟩

/-- What the functions of the kinds write. -/
theorem write_any (K c b2 : Nat) (f : Fld) (a : Addr) (S : ByteArray) (w : World) (hT : Txt w a) (hk : w.heap[c]? = some (.cells (sizedV ⟨#[98, 121, 116, 101, 115]⟩ b2) 73 (0, 0))) (hf : Ints f) (hl : f.text.size ≤ 10000000) (h1 : 1 ≤ K) (h6 : K ≤ 6) (hK : f.kind = K) (hS : bs (writeF f) = S) :
    Calls Tryz.prog (fnW K) (#[fldV f] ++ capW K c) w fun e w' => e = .returned (.string S) ∧ Below w.heap.size w w' := by
  subst hS
  unfold writeF
  obtain rfl | rfl | rfl | rfl | rfl | rfl : K = 1 ∨ K = 2 ∨ K = 3 ∨ K = 4 ∨ K = 5 ∨ K = 6 := by omega
  · rw [if_pos (by omega)]
    exact wLit_any f w hl
  · rw [if_neg (by omega), if_neg (by omega), if_neg (by omega)]
    exact wNum_any f a w hf hT
  · rw [if_neg (by omega), if_pos (by omega)]
    exact wCounted_any f c b2 a w hf hT hk _ rfl
  · rw [if_neg (by omega), if_neg (by omega), if_pos (by omega)]
    exact wNested_any f a w hf hT _ rfl
  · rw [if_neg (by omega), if_neg (by omega), if_pos (by omega)]
    exact wNested_any f a w hf hT _ rfl
  · rw [if_neg (by omega), if_neg (by omega), if_neg (by omega)]
    exact wNum_any f a w hf hT
theorem enW (K : Nat) : Enters (fnW K) := by
  unfold fnW
  repeat' split
  · exact enters_of Tryz.func82 (by kernel_rfl) (by kernel_rfl)
  · exact enters_of Tryz.func109 (by kernel_rfl) (by kernel_rfl)
  · exact enters_of Tryz.func90 (by kernel_rfl) (by kernel_rfl)
  · exact enters_of Tryz.func105 (by kernel_rfl) (by kernel_rfl)
end Go.Proofs.YtcnokccgdiodlaaGreatDoor
