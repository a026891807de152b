/- The law's examples: what Parse, Print, Find, Least, Valid and Same say of them. Conditions: what the functions of texts read of memory. -/
import Derived.Test.YtcnokccgdiodlaaGreatDoorLawText
import Derived.Test.YtcnokccgdiodlaaGreatDoorFmtZa
import Derived.Test.YtcnokccgdiodlaaGreatDoorFmtZc
import Derived.Test.YtcnokccgdiodlaaGreatDoorFmtZe
namespace Go.Proofs.YtcnokccgdiodlaaGreatDoor
open Go.RowKit Go.Shelf Fx Go.Sort

namespace Fx
open Go.Lib (itoa)
def lineI : Item → List UInt8
  | .head id => heading id
  | .fld f => lineF f
def goodI : Item → Prop
  | .head id => id.natAbs ≤ 1000000000
  | .fld f => CG f
def applyL : St → List Item → Option St
  | s, [] => some s
  | s, x :: t => (applyO s x).bind fun s1 => applyL s1 t
theorem readO_item {s : St} {x : Item} (h : goodI x) : readO s (lineI x) = applyO s x := by
  cases x with
  | head id => exact readO_head h
  | fld f => exact readO_line h
theorem reads_items : ∀ {l : List Item} {s : St}, (∀ x ∈ l, goodI x) → reads s (l.map lineI) = applyL s l
  | [], s, _ => rfl
  | x :: t, s, h => by
    rw [List.map_cons, reads, readO_item (h x (by simp)), applyL]
    cases applyO s x with
    | none => rfl
    | some s1 => exact reads_items fun y hy => h y (List.mem_cons_of_mem _ hy)
theorem lineI_no10 (x : Item) : ∀ y ∈ lineI x, y ≠ (10 : UInt8) := by
  cases x with
  | head id => exact heading_no10 id
  | fld f => exact lineF_no10 f
theorem items_bad {l : List Item} {x : Item} {s1 : St} {t : List UInt8} (hl : ∀ y ∈ l, goodI y) (hx : goodI x) (h1 : applyL st0 l = some s1) (h2 : applyO s1 x = none) (ht : put (l.map lineI ++ [lineI x]) = t) : parseO t = .bad (l.length + 1) := by
  have h := parse_more (r := []) (ps := l.map lineI) (p := lineI x) (s1 := s1) (fun q hq => by
    rcases List.mem_append.1 hq with hq | hq
    · obtain ⟨y, _, rfl⟩ := List.mem_map.1 hq
      exact lineI_no10 y
    · simp only [List.mem_singleton] at hq
      subst hq
      exact lineI_no10 x) (by rw [reads_items hl]; exact h1) (by rw [readO_item hx]; exact h2)
  rw [List.append_nil, ht, List.length_map] at h
  exact h

def t4d : ByteArray := ⟨#[77, 90]⟩
def fLit : Fld := ⟨1, 0, -1, t4d⟩
def fNum (n : Int) : Fld := ⟨2, n, -1, eb⟩
def fBy (q : Int) : Fld := ⟨3, 0, q, eb⟩
def fIn (n : Int) : Fld := ⟨5, n, 0, eb⟩
def fCh : Fld := ⟨6, 1, -1, eb⟩
def F2 : Fm := ⟨2, [fLit, fNum 2, fBy 1]⟩
def F7 : Fm := ⟨7, [fNum 1, fIn 2, fCh]⟩
theorem cgLit : CG fLit := ⟨.inl ⟨rfl, rfl, rfl⟩, by decide, by decide, by decide, by decide⟩
theorem cgNum (n : Int) (h : n.natAbs ≤ 1000) : CG (fNum n) := ⟨.inr (.inl ⟨.inl rfl, rfl, rfl⟩), by simp [fNum], by simp [fNum], by show n.natAbs ≤ _; omega, by simp [fNum]⟩
theorem cgBy (q : Int) (h : q.natAbs ≤ 1000) : CG (fBy q) := ⟨.inr (.inr (.inl ⟨rfl, rfl, .inr rfl⟩)), by simp [fBy], by simp [fBy], by simp [fBy], by show q.natAbs ≤ _; omega⟩
theorem cgIn (n : Int) (h : n.natAbs ≤ 1000) : CG (fIn n) := ⟨.inr (.inr (.inr ⟨.inr rfl, rfl⟩)), by simp [fIn], by simp [fIn], by show n.natAbs ≤ _; omega, by simp [fIn]⟩
theorem d0 : itoa 0 = [48] := by rw [itoa_pos (by decide)]; exact dec_small (by decide)
theorem d1 : itoa 1 = [49] := by rw [itoa_pos (by decide)]; exact dec_small (by decide)
theorem d2 : itoa 2 = [50] := by rw [itoa_pos (by decide)]; exact dec_small (by decide)
theorem d7 : itoa 7 = [55] := by rw [itoa_pos (by decide)]; exact dec_small (by decide)
def lHead2 : List UInt8 := [102, 111, 114, 109, 97, 116, 32, 50]
def lHead7 : List UInt8 := [102, 111, 114, 109, 97, 116, 32, 55]
def lLit : List UInt8 := [108, 105, 116, 101, 114, 97, 108, 32, 52, 100, 53, 97]
def lNum2 : List UInt8 := [110, 117, 109, 98, 101, 114, 32, 50]
def lNum1 : List UInt8 := [110, 117, 109, 98, 101, 114, 32, 49]
def lBy1 : List UInt8 := [98, 121, 116, 101, 115, 32, 102, 114, 111, 109, 32, 49]
def lBy0 : List UInt8 := [98, 121, 116, 101, 115, 32, 102, 114, 111, 109, 32, 48]
def lIn2 : List UInt8 := [105, 110, 115, 105, 100, 101, 32, 50, 32, 102, 114, 111, 109, 32, 48]
def lIn7 : List UInt8 := [105, 110, 115, 105, 100, 101, 32, 55, 32, 102, 114, 111, 109, 32, 48]
def lCh : List UInt8 := [99, 104, 101, 99, 107, 32, 49]
theorem eHead2 : heading 2 = lHead2 := by unfold heading; rw [d2]; rfl
theorem eHead7 : heading 7 = lHead7 := by unfold heading; rw [d7]; rfl
theorem eLit : lineF fLit = lLit := by rfl
theorem eNum2 : lineF (fNum 2) = lNum2 := by show wordK 2 ++ 32 :: itoa 2 = _; rw [d2]; rfl
theorem eNum1 : lineF (fNum 1) = lNum1 := by show wordK 2 ++ 32 :: itoa 1 = _; rw [d1]; rfl
theorem eBy1 : lineF (fBy 1) = lBy1 := by show wordK 3 ++ 32 :: (wFrom ++ 32 :: itoa 1) = _; rw [d1]; rfl
theorem eBy0 : lineF (fBy 0) = lBy0 := by show wordK 3 ++ 32 :: (wFrom ++ 32 :: itoa 0) = _; rw [d0]; rfl
theorem eIn2 : lineF (fIn 2) = lIn2 := by show wordK 5 ++ 32 :: (itoa 2 ++ 32 :: (wFrom ++ 32 :: itoa 0)) = _; rw [d0, d2]; rfl
theorem eIn7 : lineF (fIn 7) = lIn7 := by show wordK 5 ++ 32 :: (itoa 7 ++ 32 :: (wFrom ++ 32 :: itoa 0)) = _; rw [d0, d7]; rfl
theorem eCh : lineF fCh = lCh := by show wordK 6 ++ 32 :: itoa 1 = _; rw [d1]; rfl
def exA : List UInt8 := [102, 111, 114, 109, 97, 116, 32, 50, 10, 108, 105, 116, 101, 114, 97, 108, 32, 52, 100, 53, 97, 10, 110, 117, 109, 98, 101, 114, 32, 50, 10, 98, 121, 116, 101, 115, 32, 102, 114, 111, 109, 32, 49, 10]
def exM : List UInt8 := [102, 111, 114, 109, 97, 116, 32, 50, 10, 108, 105, 116, 101, 114, 97, 108, 32, 52, 100, 53, 97, 10, 110, 117, 109, 98, 101, 114, 32, 50, 10, 98, 121, 116, 101, 115, 32, 102, 114, 111, 109, 32, 49, 10, 102, 111, 114, 109, 97, 116, 32, 55, 10, 110, 117, 109, 98, 101, 114, 32, 49, 10, 105, 110, 115, 105, 100, 101, 32, 50, 32, 102, 114, 111, 109, 32, 48, 10, 99, 104, 101, 99, 107, 32, 49, 10]
def exB : List UInt8 := [102, 111, 114, 109, 97, 116, 32, 50, 10, 108, 105, 116, 101, 114, 97, 108, 32, 52, 100, 53, 97, 10, 110, 117, 109, 98, 101, 114, 32, 50, 10, 98, 121, 116, 101, 115, 32, 102, 114, 111, 109, 32, 49, 10, 102, 111, 114, 109, 97, 116, 32, 55, 10, 110, 117, 109, 98, 101, 114, 32, 49, 10, 105, 110, 115, 105, 100, 101, 32, 55, 32, 102, 114, 111, 109, 32, 48, 10]
def exD : List UInt8 := [102, 111, 114, 109, 97, 116, 32, 50, 10, 110, 117, 109, 98, 101, 114, 32, 49, 10, 98, 121, 116, 101, 115, 32, 102, 114, 111, 109, 32, 48, 10, 98, 121, 116, 101, 115, 32, 102, 114, 111, 109, 32, 48, 10]
def exK : List UInt8 := [102, 111, 114, 109, 97, 116, 32, 50]
theorem text_A : text [F2] = exA := by
  rw [← put_lines]
  show put [heading 2, lineF fLit, lineF (fNum 2), lineF (fBy 1)] = _
  rw [eHead2, eLit, eNum2, eBy1]; rfl
theorem text_M : text [F2, F7] = exM := by
  rw [← put_lines]
  show put [heading 2, lineF fLit, lineF (fNum 2), lineF (fBy 1), heading 7, lineF (fNum 1), lineF (fIn 2), lineF fCh] = _
  rw [eHead2, eLit, eNum2, eBy1, eHead7, eNum1, eIn2, eCh]; rfl
theorem vd_A : vd [F2] = true := by decide
theorem vd_M : vd [F2, F7] = true := by decide
theorem vd_Z : vd [zm] = false := by decide
theorem parse_A : ∃ s, parseO exA = .ok s ∧ s.d = [F2] := by rw [← text_A]; exact parse_text (vd_iff.1 vd_A)
theorem parse_M : ∃ s, parseO exM = .ok s ∧ s.d = [F2, F7] := by rw [← text_M]; exact parse_text (vd_iff.1 vd_M)
theorem parse_B : parseO exB = .bad 7 := by
  refine items_bad (l := [.head 2, .fld fLit, .fld (fNum 2), .fld (fBy 1), .head 7, .fld (fNum 1)]) (x := .fld (fIn 7)) (s1 := ⟨[F2], ⟨7, [fNum 1]⟩⟩) ?_ (cgIn 7 (by decide)) (by rfl) (by rfl) ?_
  · intro y hy
    simp only [List.mem_cons, List.not_mem_nil, or_false] at hy
    rcases hy with rfl | rfl | rfl | rfl | rfl | rfl
    · show (2 : Int).natAbs ≤ _; decide
    · exact cgLit
    · exact cgNum 2 (by decide)
    · exact cgBy 1 (by decide)
    · show (7 : Int).natAbs ≤ _; decide
    · exact cgNum 1 (by decide)
  · show put [heading 2, lineF fLit, lineF (fNum 2), lineF (fBy 1), heading 7, lineF (fNum 1), lineF (fIn 7)] = _
    rw [eHead2, eLit, eNum2, eBy1, eHead7, eNum1, eIn7]; rfl
theorem parse_D : parseO exD = .bad 4 := by
  refine items_bad (l := [.head 2, .fld (fNum 1), .fld (fBy 0)]) (x := .fld (fBy 0)) (s1 := ⟨[], ⟨2, [fNum 1, fBy 0]⟩⟩) ?_ (cgBy 0 (by decide)) (by rfl) (by rfl) ?_
  · intro y hy
    simp only [List.mem_cons, List.not_mem_nil, or_false] at hy
    rcases hy with rfl | rfl | rfl
    · show (2 : Int).natAbs ≤ _; decide
    · exact cgNum 1 (by decide)
    · exact cgBy 0 (by decide)
  · show put [heading 2, lineF (fNum 1), lineF (fBy 0), lineF (fBy 0)] = _
    rw [eHead2, eNum1, eBy0]; rfl
theorem parse_E : parseO [] = .ok st0 := rfl
theorem parse_K : parseO exK = .bad 1 := by rfl
theorem least_2 : least [F2, F7] 2 = 4 := by decide
theorem least_7 : least [F2, F7] 7 = 6 := by decide
theorem find_7 : findO [F2, F7] 7 = some F7 := by rfl
theorem find_8 : findO [F2, F7] 8 = none := by rfl
end Fx

theorem FmsAt.below {w w' : World} {v : Value} {l : List Fm} (h : FmsAt (· < w.heap.size) w v l) (hb : Below w.heap.size w w') : FmsAt (· < w'.heap.size) w' v l :=
  (h.kept (Kept.of_below hb fun _ h => h)).mono fun _ hg => Nat.lt_of_lt_of_le hg hb.size
theorem ints_F2 : IntsL [F2] := fun i hi => by
  have : i = 0 := by simp at hi; omega
  subst this
  exact ⟨by decide, fun k hk => by
    have hk3 : k < 3 := hk
    obtain rfl | rfl | rfl : k = 0 ∨ k = 1 ∨ k = 2 := by omega
    all_goals exact ⟨by decide, by decide, by decide, by decide, by decide, by decide, by decide⟩⟩
theorem ints_M : IntsL [F2, F7] := fun i hi => by
  have h2 : i < 2 := hi
  obtain rfl | rfl : i = 0 ∨ i = 1 := by omega
  · exact ints_F2 0 (by decide)
  · exact ⟨by decide, fun k hk => by
      have hk3 : k < 3 := hk
      obtain rfl | rfl | rfl : k = 0 ∨ k = 1 ∨ k = 2 := by omega
      all_goals exact ⟨by decide, by decide, by decide, by decide, by decide, by decide, by decide⟩⟩
theorem ints_Z : IntsL [zm] := fun i hi => by
  have : i = 0 := by simp at hi; omega
  subst this
  exact ⟨by decide, fun k hk => by simp [zm] at hk⟩
theorem parseA_any (er : Addr) (w : World) (hT : Txt w er) : Calls Tryz.prog 26 #[.string (bs exA)] w fun e w' => (∃ b c, e = .returned (.tuple #[.slice (some b) 1 c, .int .i64 0, .int .i64 0]) ∧ FmsAt (· < w'.heap.size) w' (.slice (some b) 1 c) [F2]) ∧ Below w.heap.size w w' := by
  obtain ⟨s, h1, h2⟩ := parse_A
  have h := Parse_any exA er w hT (by decide)
  rw [h1] at h
  exact h.mono fun e w' ⟨⟨v, he, hv⟩, hb⟩ => ⟨by
    rw [h2] at hv
    obtain ⟨a, c, rfl, _⟩ := hv.slice_
    obtain ⟨b, off, rfl, _⟩ := hv.at_ (by decide)
    exact ⟨_, _, he, hv⟩, hb⟩
theorem parseM_any (er : Addr) (w : World) (hT : Txt w er) : Calls Tryz.prog 26 #[.string (bs exM)] w fun e w' => (∃ b off c, e = .returned (.tuple #[.slice (some ⟨b, off, none⟩) 2 c, .int .i64 0, .int .i64 0]) ∧ FmsAt (· < w'.heap.size) w' (.slice (some ⟨b, off, none⟩) 2 c) [F2, F7] ∧ 2 ≤ c ∧ c ≤ 9223372036854775807) ∧ Below w.heap.size w w' := by
  obtain ⟨s, h1, h2⟩ := parse_M
  have h := Parse_any exM er w hT (by decide)
  rw [h1] at h
  exact h.mono fun e w' ⟨⟨v, he, hv⟩, hb⟩ => ⟨by
    rw [h2] at hv
    obtain ⟨a, c, rfl, _⟩ := hv.slice_
    obtain ⟨b, off, rfl, _, _, _, k1, k2, _⟩ := hv.at_ (by decide)
    exact ⟨_, _, _, he, hv, k1, by unfold maxLen at k2; omega⟩, hb⟩
theorem parseB_any (er : Addr) (w : World) (hT : Txt w er) : Calls Tryz.prog 26 #[.string (bs exB)] w fun e w' => e = .returned (.tuple #[.slice none 0 0, .int .i64 7, .int .i64 40]) ∧ Below w.heap.size w w' := by
  have h := Parse_any exB er w hT (by decide)
  rw [parse_B] at h
  exact h
theorem parseD_any (er : Addr) (w : World) (hT : Txt w er) : Calls Tryz.prog 26 #[.string (bs exD)] w fun e w' => e = .returned (.tuple #[.slice none 0 0, .int .i64 4, .int .i64 40]) ∧ Below w.heap.size w w' := by
  have h := Parse_any exD er w hT (by decide)
  rw [parse_D] at h
  exact h
theorem parseE_any (er : Addr) (w : World) (hT : Txt w er) : Calls Tryz.prog 26 #[.string (bs [])] w fun e w' => (∃ a c, e = .returned (.tuple #[.slice a 0 c, .int .i64 0, .int .i64 0])) ∧ Below w.heap.size w w' := by
  have h := Parse_any [] er w hT (by decide)
  rw [parse_E] at h
  exact h.mono fun e w' ⟨⟨v, he, hv⟩, hb⟩ => ⟨by
    obtain ⟨a, c, rfl, _⟩ := hv.slice_
    exact ⟨_, _, he⟩, hb⟩
theorem parseK_any (er : Addr) (w : World) (hT : Txt w er) : Calls Tryz.prog 26 #[.string (bs exK)] w fun e w' => e = .returned (.tuple #[.slice none 0 0, .int .i64 1, .int .i64 40]) ∧ Below w.heap.size w w' := by
  have h := Parse_any exK er w hT (by decide)
  rw [parse_K] at h
  exact h
theorem find7_any (v : Value) (w : World) (hV : FmsAt (· < w.heap.size) w v [F2, F7]) : Calls Tryz.prog 16 #[v, .int .i64 7] w fun e w' => (∃ a n c, e = .returned (.tuple #[.agg #[.int .i64 7, .slice a n c], .bool true])) ∧ Below w.heap.size w w' := by
  have h := Find_any v [F2, F7] 7 w hV (fun f hf => by
    simp only [List.mem_cons, List.not_mem_nil, or_false] at hf
    rcases hf with rfl | rfl
    · exact ⟨by decide, fun i hi => by
        have hk3 : i < 3 := hi
        obtain rfl | rfl | rfl : i = 0 ∨ i = 1 ∨ i = 2 := by omega
        all_goals decide⟩
    · exact ⟨by decide, fun i hi => by
        have hk3 : i < 3 := hi
        obtain rfl | rfl | rfl : i = 0 ∨ i = 1 ∨ i = 2 := by omega
        all_goals decide⟩)
  rw [find_7] at h
  exact h.mono fun e w' ⟨⟨v, he, hv⟩, hb⟩ => ⟨by
    obtain ⟨a, c, rfl, _⟩ := hv.slice_
    exact ⟨_, _, _, he⟩, hb⟩
theorem find8_any (v : Value) (w : World) (hV : FmsAt (· < w.heap.size) w v [F2, F7]) : Calls Tryz.prog 16 #[v, .int .i64 8] w fun e w' => e = .returned (.tuple #[.agg #[.int .i64 0, .slice none 0 0], .bool false]) ∧ Below w.heap.size w w' := by
  have h := Find_any v [F2, F7] 8 w hV (fun f hf => by
    simp only [List.mem_cons, List.not_mem_nil, or_false] at hf
    rcases hf with rfl | rfl
    · exact ⟨by decide, fun i hi => by
        have hk3 : i < 3 := hi
        obtain rfl | rfl | rfl : i = 0 ∨ i = 1 ∨ i = 2 := by omega
        all_goals decide⟩
    · exact ⟨by decide, fun i hi => by
        have hk3 : i < 3 := hi
        obtain rfl | rfl | rfl : i = 0 ∨ i = 1 ∨ i = 2 := by omega
        all_goals decide⟩)
  rw [find_8] at h
  exact h
theorem zms_at (w : World) : FmsAt (· < (w.alloc (.cells #[.int .i64 0, .slice none 0 0] 34)).heap.size) (w.alloc (.cells #[.int .i64 0, .slice none 0 0] 34)) (.slice (some ⟨w.heap.size, 0, none⟩) 1 1) [zm] := by
  have hh := heap_alloc_new w (.cells #[.int .i64 0, .slice none 0 0] 34)
  refine .inr ⟨w.heap.size, 0, 1, rfl, by decide, by decide, by unfold maxLen; omega, by simp, by simp, fun i hi => ?_⟩
  have : i = 0 := by simp at hi; omega
  subst this
  exact ⟨.slice none 0 0, cell_of_row _ _ _ _ _ _ hh, cell_of_row _ _ _ _ _ _ hh, .inl ⟨none, 0, rfl, rfl⟩, fun g hg => by simp [Value.ownBlock] at hg⟩
end Go.Proofs.YtcnokccgdiodlaaGreatDoor
