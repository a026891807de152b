/- fromHexadecimal. Conditions: a string of limited length; what the functions of texts read of memory. -/
import Derived.Test.YtcnokccgdiodlaaGreatDoorFmtT
import Derived.Shelf.Strconv.ToError
namespace Go.Proofs.YtcnokccgdiodlaaGreatDoor
open Go.RowKit Go.Shelf Fx

shelf_lay LaysC.n245 Nm 245 at Tryz as laysToE
theorem toErr_any (fn s : ByteArray) (base bits : Int) (a : Addr) (w : World) (hs : s.size ≤ 100000000) (hT : Txt w a) :
    Calls Tryz.prog 117 #[.string fn, .string s, .int .i64 base, .int .i64 bits, .iface 132 (.int .i64 2)] w fun e w' =>
      (∃ N, e = .returned (.iface 135 (.pointer (some ⟨N, 0, none⟩)))) ∧ Below w.heap.size w w' := by
  obtain ⟨te, pe, hv⟩ := hT.syn
  have h := Any.strconv_toError_syntax laysToE fn s base bits (.iface te pe) w (by omega) hv (.inr ⟨te, pe, rfl⟩)
  refine Calls.mono h ?_
  rintro e w' ⟨N, rfl, -, -, hb⟩
  exact ⟨⟨N, rfl⟩, hb⟩
/-- What the public reading of digits ends in. -/
def OutP (R : Option Nat) (e : Ending) : Prop :=
  match R with
  | some n => e = .returned (.tuple #[.int .u64 n, .nilIface])
  | none => ∃ N, e = .returned (.tuple #[.int .u64 (0), .iface 135 (.pointer (some ⟨N, 0, none⟩))])
theorem pub16_any (t : ByteArray) (R : Option Nat) (a : Addr) (w : World) (hsz : t.size = 2) (hT : Txt w a) (hR : hexAcc t.data.toList 0 = R) :
    Calls Tryz.prog 102 #[.string t, .int .i64 16, .int .i64 8] w fun e w' =>
      OutP R e ∧ Below w.heap.size w w' := by
  have HC := Lib.hid (pu16_any t R w hsz hR)
  have HT := Lib.hid hT
  clear hT hR
  cases R with
  | some n =>
    go_enter Tryz.func102, Tryz.ntmps102
    go_wp2_with fail
    refine HC.out.mono ?_
    rintro e w1 ⟨rfl, hw⟩
    have HB : Hid (Below w.heap.size w w1) := Lib.hid (by rw [hw]; exact Lib.bytesWorld_below _ _ _)
    clear hw
    unfold outU
    go_wp2_with fail
    go_ret2
    exact ⟨rfl, HB.out⟩
  | none =>
    go_enter Tryz.func102, Tryz.ntmps102
    go_wp2_with fail
    refine HC.out.mono ?_
    rintro e w1 ⟨rfl, hw⟩
    have HB : Hid (Below w.heap.size w w1) := Lib.hid (by rw [hw]; exact Lib.bytesWorld_below _ _ _)
    clear hw
    unfold outU
    go_wp2_with fail
    refine (toErr_any _ t 16 8 a w1 (by omega) (HT.out.below HB.out)).mono ?_
    rintro e w2 ⟨⟨N, rfl⟩, hb⟩
    have HB2 := Lib.hid (HB.out.trans (hb.mono HB.out.size))
    clear hb
    go_wp2_with fail
    go_ret2
    exact ⟨⟨N, rfl⟩, HB2.out⟩
theorem hexAcc_two (a b : UInt8) (t : List UInt8) : unhexO (a :: b :: t) = match hexAcc [a, b] 0 with
    | some n => (unhexO t).map fun l => UInt8.ofNat n :: l
    | none => none := by
  rw [unhexO]
  simp only [hexAcc]
  cases h1 : hexV a with
  | none => rfl
  | some x =>
    cases h2 : hexV b with
    | none => rfl
    | some y => simp
theorem hexV_lt {c : UInt8} {n : Nat} (h : hexV c = some n) : n < 16 := by
  unfold hexV at h
  split at h
  · cases h; omega
  · split at h
    · cases h; omega
    · split at h
      · cases h; omega
      · cases h
theorem hexAcc_lt {a b : UInt8} {n : Nat} (h : hexAcc [a, b] 0 = some n) : n < 256 := by
  simp only [hexAcc] at h
  cases h1 : hexV a with
  | none => rw [h1] at h; cases h
  | some x =>
    cases h2 : hexV b with
    | none => rw [h1, h2] at h; cases h
    | some y =>
      rw [h1, h2] at h
      have := hexV_lt h1
      have := hexV_lt h2
      cases h; omega
theorem unhex_odd : ∀ {l : List UInt8}, l.length % 2 = 1 → unhexO l = none
  | [], h => by simp at h
  | [_], _ => rfl
  | a :: b :: t, h => by
    rw [hexAcc_two, unhex_odd (l := t) (by simp at h; omega)]
    split <;> rfl
theorem two_at (s : ByteArray) (k : Nat) (h : 2 * k + 2 ≤ s.size) : ∃ (x y : UInt8) (T : ByteArray), s.data.toList.drop (2 * k) = x :: y :: s.data.toList.drop (2 * (k + 1)) ∧ T.size = 2 ∧ T.data.toList = [x, y] ∧
    ∀ W, (Instr.slice 9 (.string s) (some (.int .i64 (2 * (k : Int)))) (some (.int .i64 (2 * (k : Int) + 2))) none).run Tryz.prog W = .ok (.string T) W := by
  have hl : s.data.toList.length = s.size := by simp
  have e : (s.extract (2 * k) (2 * k + 2)).data.toList = (s.data.toList.drop (2 * k)).take 2 := by
    rw [ByteArray.data_extract, Array.toList_extract, List.extract_eq_take_drop]
    congr 1
    omega
  have h1 : s.data.toList.drop (2 * k) = s.data.toList[2 * k] :: s.data.toList.drop (2 * k + 1) := List.drop_eq_getElem_cons (by omega)
  have h2 : s.data.toList.drop (2 * k + 1) = s.data.toList[2 * k + 1] :: s.data.toList.drop (2 * k + 2) := List.drop_eq_getElem_cons (by omega)
  rw [h2] at h1
  refine ⟨_, _, s.extract (2 * k) (2 * k + 2), h1, ?_, ?_, fun W => ?_⟩
  · rw [ByteArray.size_extract]; omega
  · rw [e, h1]; rfl
  · rw [run_slice_string (P := Tryz.prog) W _ s .i64 .i64 _ _ Tryz.underlying9 (by omega) (by omega) (by omega)]
    congr 2
set_option maxRecDepth 100000 in
set_option maxHeartbeats 1000000 in
theorem unhex_any (s : ByteArray) (R : Option (List UInt8)) (a : Addr) (w : World) (hs : s.size ≤ 10000000) (hT : Txt w a) (hR : unhexO s.data.toList = R) :
    Calls Tryz.prog 85 #[.string s] w fun e w' => e = outS a R ∧ Below w.heap.size w w' := by
  have HT := Lib.hid hT
  have HE := Lib.hid hT.err
  clear hT
  by_cases hodd : s.size % 2 = 1
  · have hn : R = none := by rw [← hR]; exact unhex_odd (by simpa using hodd)
    subst hn
    have d1 : ((s.size : Int) % 2 == 0) = false := by rw [beq_eq_false_iff_ne]; omega
    clear hR
    go_enter Tryz.func85, Tryz.ntmps85
    go_wp2_with fail
    refine (require_any false a _ HE.out).mono ?_
    rintro e w2 ⟨rfl, rfl⟩
    unfold ends
    go_wp2_with fail
    exact ⟨rfl, rfl, Below.refl _ _⟩
  · have hev : ∃ n, s.size = 2 * n := ⟨s.size / 2, by omega⟩
    obtain ⟨n, hn⟩ := hev
    have d1 : ((s.size : Int) % 2 == 0) = true := by rw [beq_iff_eq]; omega
    have HR := Lib.hid hR
    clear hR
    go_enter Tryz.func85, Tryz.ntmps85
    go_wp2_with fail
    refine (require_any true a _ HE.out).mono ?_
    rintro e w2 ⟨rfl, rfl⟩
    unfold ends
    go_wp2_with fail
    obtain ⟨W, hW⟩ : ∃ W, W = w.alloc (.cells #[.pointer none, .slice none 0 0] 99) := ⟨_, rfl⟩
    rw [← hW]
    have h0 : Hid (IsB w.heap.size w.heap.size (Lib.byteCells []) W ∧ Below w.heap.size w W ∧ (unhexO (s.data.toList.drop (2 * 0))).map (fun l => [] ++ l) = R ∧ ([] : List UInt8).length = 0) := Lib.hid (by
      rw [hW]
      exact ⟨.inl ⟨Nat.le_refl _, .slice none 0 0, heap_alloc_new _ _, World.ownsRow_nil _ _ _ _, by simp [Value.ownBlock]⟩, bx _, by simp [HR.out], rfl⟩)
    clear hW HR
    go_loopw [4] (fun i wr => ∃ (k : Nat) (out : List UInt8), k ≤ n ∧ i = .int .i64 (2 * k) ∧ Hid (IsB w.heap.size w.heap.size (Lib.byteCells out) wr ∧ Below w.heap.size w wr ∧ (unhexO (s.data.toList.drop (2 * k))).map (fun l => out ++ l) = R ∧ out.length = k)) (fun i _ => s.size - (intOf i).toNat)
    case atStart => exact ⟨0, [], Nat.zero_le _, rfl, h0⟩
    case round =>
      obtain ⟨k, out, hk, rfl, HI⟩ := hrel
      by_cases hlt : k < n
      · obtain ⟨x, y, T, hdr, hTs, hTl, hsl⟩ := two_at s k (by omega)
        have hlen := HI.out.2.2.2
        obtain ⟨Q, hQ⟩ : ∃ Q, hexAcc [x, y] 0 = Q := ⟨_, rfl⟩
        have hrest := HI.out.2.2.1
        rw [hdr, hexAcc_two, hQ] at hrest
        have HP := Lib.hid (pub16_any T Q a wr hTs (HT.out.below HI.out.2.1) (by rw [hTl]; exact hQ))
        have HB := Lib.hid (And.intro HI.out.1 (And.intro HI.out.2.1 hlen))
        have HE1 := Lib.hid (HE.out.below HI.out.2.1)
        clear HI hdr hTl hlen
        cases Q with
        | none =>
          have HR : Hid (none = R) := Lib.hid hrest
          clear hrest hQ
          go_wp2_with fail
          refine HP.out.mono ?_
          rintro e w1 ⟨⟨N, rfl⟩, hb⟩
          have HB1 := Lib.hid (And.intro hb (HB.out.2.1.trans (hb.mono HB.out.2.1.size)))
          clear hb
          go_wp2_with fail
          refine (require_any false a _ (HE1.out.below HB1.out.1)).mono ?_
          rintro e w2 ⟨rfl, rfl⟩
          unfold ends
          go_wp2_with fail
          exact ⟨rfl, by rw [← HR.out]; rfl, HB1.out.2⟩
        | some v =>
          have hv := hexAcc_lt hQ
          have HR : Hid (((unhexO (s.data.toList.drop (2 * (k + 1)))).map (fun l => UInt8.ofNat v :: l)).map (fun l => out ++ l) = R) := Lib.hid hrest
          clear hrest hQ
          go_wp2_with fail
          refine HP.out.mono ?_
          rintro e w1 ⟨rfl, hb⟩
          have HB1 := Lib.hid (And.intro hb (And.intro (HB.out.1.keep hb) (HB.out.2.1.trans (hb.mono HB.out.2.1.size))))
          clear hb
          go_wp2_with fail
          refine (require_any true a _ (HE1.out.below HB1.out.1)).mono ?_
          rintro e w2 ⟨rfl, rfl⟩
          unfold ends
          go_wp2_with fail
          refine (wByte_any w.heap.size w.heap.size _ _ w1 HB1.out.2.1 (by rw [Lib.byteCells_length]; have := HB.out.2.2; omega) HB1.out.2.2.size).mono ?_
          rintro e w3 ⟨rfl, hI, hb3⟩
          have HI : Hid (IsB w.heap.size w.heap.size (Lib.byteCells (out ++ [UInt8.ofNat v])) w3 ∧ Below w.heap.size w w3 ∧ (unhexO (s.data.toList.drop (2 * (k + 1)))).map (fun l => (out ++ [UInt8.ofNat v]) ++ l) = R ∧ (out ++ [UInt8.ofNat v]).length = k + 1) := Lib.hid (by
            refine ⟨?_, HB1.out.2.2.trans hb3, ?_, by simp [HB.out.2.2]⟩
            · rw [byteCells_append]
              have e : Lib.byteCells [UInt8.ofNat v] = [.int .u8 v] := by
                simp [Lib.byteCells]; omega
              rw [e]
              exact hI
            · rw [← HR.out, Option.map_map]
              congr 1
              funext l
              simp)
          clear hI hb3 HB HB1
          go_wp2_with fail
          go_roundw
          case rel => exact ⟨k + 1, out ++ [UInt8.ofNat v], by omega, by go_num, HI⟩
          case measure => simp [intOf]; omega
      · obtain rfl : k = n := by omega
        have HF : Hid (some out = R) := Lib.hid (by
          have h := HI.out.2.2.1
          rw [List.drop_eq_nil_of_le (by simp; omega)] at h
          simpa [unhexO] using h)
        have HB := Lib.hid (And.intro HI.out.1 HI.out.2.1)
        clear HI
        go_wp2_with fail
        refine (bString_any w.heap.size w.heap.size _ wr HB.out.1 HB.out.2.size).mono ?_
        rintro e w1 ⟨rfl, hb⟩
        have HB1 := Lib.hid (HB.out.2.trans hb)
        clear hb HB
        go_wp2_with fail
        go_ret
        exact ⟨by rw [← HF.out]; rfl, HB1.out⟩
end Go.Proofs.YtcnokccgdiodlaaGreatDoor
