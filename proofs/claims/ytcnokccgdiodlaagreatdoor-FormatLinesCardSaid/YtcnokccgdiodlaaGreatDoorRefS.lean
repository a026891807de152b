/- The reference's splitting of a text, and its text of a table. Conditions: the text has at most ten million bytes; the table is one that can be read, with few formats and short texts. -/
import Derived.Test.YtcnokccgdiodlaaGreatDoorRefP
namespace Go.Proofs.YtcnokccgdiodlaaGreatDoor
open Go.RowKit Go.Shelf Fx Go.Sort

theorem infoStr : (Tryz.prog.info? 9).map (fun i => (i.zero, i.size, i.bytes)) = some (some (.string ⟨#[]⟩), 1, 16) := by kernel_rfl
abbrev OwnS (w : World) (B : Nat) (v : Value) (ss : List ByteArray) : Prop := w.ownsRow B 9 1 v ss.length (ss.map fun s => Value.string s)
theorem OwnS.at_ {w : World} {B : Nat} {v : Value} {ss : List ByteArray} (h : OwnS w B v ss) : ∃ a c, v = .slice a ss.length c ∧ (ss.length = 0 ∨ ∃ b, a = some ⟨b, 0, none⟩ ∧ B ≤ b ∧ b < w.heap.size ∧ ss.length ≤ c ∧ c ≤ maxLen ∧ ∀ j, j < ss.length → w.cell? ⟨b, j, none⟩ = some (.string (ss.getD j ⟨#[]⟩))) := by
  rcases h.2 with ⟨rfl, h0⟩ | ⟨g, cap, cur, rfl, hg, hh, hl, hm, hs, ht⟩
  · exact ⟨none, 0, by rw [h0], .inl h0⟩
  · refine ⟨_, cap, rfl, .inr ⟨g, rfl, hg, lt_of_heap hh, hl, hm, fun j hj => ?_⟩⟩
    rw [cell_of_row w g j cur _ (0, 0) hh]
    have e : cur[j]? = (cur.toList.take (ss.length * 1))[j]? := by
      rw [List.getElem?_take, if_pos (by omega)]; simp
    rw [e, ht]
    simp [List.getD, List.getElem?_eq_getElem hj]
theorem run_append_str (w : World) (B : Nat) (ty : TypeId) (v : Value) (n : Nat) (xs : List Value) (hown : w.ownsRow B 9 1 v n xs) (hB : B ≤ w.heap.size) (hn : n ≤ 100000000) (g : Nat) (x : ByteArray) (hg : w.heap[g]? = some (.cells #[.string x] 9 (0, 0))) :
    ∃ v' w', (Builtin.append_ #[45, 45] ty #[v, .slice (some ⟨g, 0, none⟩) 1 1]).run Tryz.prog w = .ok v' w' ∧ Grew w w' B 9 1 v v' (n + 1) (xs ++ [.string x]) := by
  obtain ⟨i0, hi, hz0, hz1, hz2⟩ := info_parts infoStr
  obtain ⟨v', w', h1, h2, h3, _, h5⟩ := run_append_own_at (P := Tryz.prog) w B 45 ty 9 i0 _ 1 16 Tryz.underlying45 hi hz0 hz1 hz2 rfl (by decide) v n xs hown ⟨g, 0, none⟩ 1 1 [.string x] rfl
    (fun j y hy => by
      have hadd : (⟨g, 0, none⟩ : Addr).add j = ⟨g, j, none⟩ := by unfold Addr.add; split <;> simp_all
      rw [hadd, cell_of_row w g j _ _ _ hg]; simpa using hy)
    (fun y hy => by simp at hy; subst hy; rfl) (by unfold maxLen; omega) (by omega) hB
  exact ⟨v', w', h1, h2, h3, h5⟩
theorem wpList_append_str {ops : Array Oper} {rest : List Oper} {o : Oper} {a : Act} {w : World} {Q : Exit → Act → World → Prop}
    (hg : o.guard = none) (s x : Operand) (hop : o.op = Op.call { callee := Callee.builtin Builtin.append, args := #[s, x], argTypes := #[45, 45] })
    (B : Nat) (v : Value) (n : Nat) (xs : List Value) (hs : a.eval s = v) (hown : w.ownsRow B 9 1 v n xs) (hB : B ≤ w.heap.size) (hn : n ≤ 100000000) (g : Nat) (y : ByteArray) (hx : a.eval x = .slice (some ⟨g, 0, none⟩) 1 1)
    (hb : w.heap[g]? = some (.cells #[.string y] 9 (0, 0)))
    (hK : ∀ v' w', Grew w w' B 9 1 v v' (n + 1) (xs ++ [.string y]) → wpList Tryz.prog ops Q rest (a.put o.dst v') w') : wpList Tryz.prog ops Q (o :: rest) a w :=
  wpList_plain hg fun _ hK' => by
    obtain ⟨v', w', hr, h2⟩ := run_append_str w B o.type v n xs hown hB hn g y hb
    unfold Oper.wp
    simp [execOp, hop, resolve, invoke, builtin, hs, hx, hr, Result.andThen]
    exact hK' _ _ (hK _ _ h2)
/-- What stands while a text is split. -/
def SpAt (c : UInt8) (l : List UInt8) (done : List ByteArray) (b k : Nat) : Prop :=
  (k ≤ l.length ∧ b ≤ k ∧ sp c l = done.map (·.data.toList) ++ sp c (l.drop b) ∧ ∀ x ∈ (l.drop b).take (k - b), x ≠ c) ∨ (k = l.length + 1 ∧ b = k ∧ sp c l = done.map (·.data.toList))
theorem SpAt.next {c : UInt8} {l : List UInt8} {done : List ByteArray} {b k : Nat} (h : SpAt c l done b k) (hk : k < l.length) (hc : l[k] ≠ c) : SpAt c l done b (k + 1) := by
  rcases h with ⟨_, h2, h3, h4⟩ | ⟨h1, _⟩
  · refine .inl ⟨hk, by omega, h3, fun x hx => ?_⟩
    rw [show k + 1 - b = (k - b) + 1 by omega, List.take_succ_eq_append_getElem (by simp; omega)] at hx
    rcases List.mem_append.1 hx with hx | hx
    · exact h4 x hx
    · simp only [List.mem_singleton, List.getElem_drop] at hx
      rw [hx]
      intro e
      exact hc (by rw [← e]; congr 1; omega)
  · omega
theorem SpAt.cut {c : UInt8} {l : List UInt8} {done : List ByteArray} {b k : Nat} {s : ByteArray} (h : SpAt c l done b k) (hk : k ≤ l.length) (hc : k = l.length ∨ ∃ h : k < l.length, l[k] = c) (hs : s.data.toList = (l.drop b).take (k - b)) : SpAt c l (done ++ [s]) (k + 1) (k + 1) := by
  rcases h with ⟨_, h2, h3, h4⟩ | ⟨h1, _⟩
  · rcases hc with rfl | ⟨hlt, hc⟩
    · refine .inr ⟨rfl, rfl, ?_⟩
      have e : (l.drop b).take (l.length - b) = l.drop b := List.take_of_length_le (by simp)
      rw [e] at h4 hs
      rw [h3, sp_nowhere h4]; simp [hs]
    · refine .inl ⟨hlt, Nat.le_refl _, ?_, by simp⟩
      have e : l.drop b = (l.drop b).take (k - b) ++ c :: l.drop (k + 1) := by
        rw [← hc]
        conv => lhs; rw [← List.take_append_drop (k - b) (l.drop b)]
        rw [List.drop_drop, show b + (k - b) = k by omega, List.drop_eq_getElem_cons hlt]
      rw [h3, e, sp_here h4]
      simp [hs]
  · omega
set_option maxRecDepth 100000 in
set_option maxHeartbeats 2000000 in
theorem rSplit_any (s : ByteArray) (c : UInt8) (w : World) (hs : s.size ≤ 10000000) :
    Calls Tryz.prog 28 #[.string s, .int .u8 c.toNat] w fun e w' => (∃ (v : Value) (ss : List ByteArray), e = .returned v ∧ OwnS w' w.heap.size v ss ∧ ss.map (·.data.toList) = sp c s.data.toList) ∧ Below w.heap.size w w' := by
  have hsl : s.data.toList.length = s.size := by simp
  go_enter Tryz.func28, Tryz.ntmps28
  go_wp2_with fail
  go_loopw [5, 6, 7] (fun v b i wr => ∃ (k bb : Nat) (done : List ByteArray), k ≤ s.size + 1 ∧ i = .int .i64 k ∧ b = .int .i64 bb ∧ done.length ≤ k ∧ Hid (Below w.heap.size w wr ∧ OwnS wr w.heap.size v done ∧ SpAt c s.data.toList done bb k)) (fun _ _ i _ => s.size + 1 - (intOf i).toNat)
  case atStart => exact ⟨0, 0, [], by omega, rfl, rfl, by simp, Lib.hid ⟨Below.refl _ _, World.ownsRow_nil _ _ _ _, .inl ⟨Nat.zero_le _, Nat.le_refl _, rfl, by simp⟩⟩⟩
  case round =>
    obtain ⟨k, bb, done, hk, rfl, rfl, hdl, HI⟩ := hrel
    obtain ⟨wq, rfl⟩ : ∃ wq, wq = wr := ⟨_, rfl⟩
    by_cases hle : k ≤ s.size
    · have hbk : bb ≤ k := by rcases HI.out.2.2 with h | h <;> omega
      have HG : Hid (∀ (hc : k = s.size ∨ ∃ h : k < s.data.toList.length, s.data.toList[k] = c) (v1 : Value) (wA : World), Grew (wq.alloc (.cells #[.string (s.extract bb k)] 9)) wA w.heap.size 9 1 u5 v1 (done.length + 1) ((done.map fun s => Value.string s) ++ [.string (s.extract bb k)]) → Hid (Below w.heap.size w wA ∧ OwnS wA w.heap.size v1 (done ++ [s.extract bb k]) ∧ SpAt c s.data.toList (done ++ [s.extract bb k]) (k + 1) (k + 1))) := Lib.hid fun hc v1 wA hG => Lib.hid ⟨(HI.out.1.trans ((bx _).mono HI.out.1.size)).grown hG.grown (by have := HI.out.1.size; simp; omega) (fun g hg => own_ge HI.out.2.1 hg), by
          have h := hG.own
          unfold OwnS
          rw [List.length_append, List.map_append]
          exact h, HI.out.2.2.cut (by omega) (hc.imp (fun h => h.trans hsl.symm) id) (by rw [ByteArray.data_extract, Array.toList_extract, List.extract_eq_take_drop])⟩
      have HA : Hid ((wq.alloc (.cells #[.string (s.extract bb k)] 9)).ownsRow w.heap.size 9 1 u5 done.length (done.map fun s => Value.string s) ∧ w.heap.size ≤ (wq.alloc (.cells #[.string (s.extract bb k)] 9)).heap.size) := Lib.hid ⟨ownsRow_below HI.out.2.1 (bx _), by have := HI.out.1.size; simp; omega⟩
      have hd1 : done.length ≤ 100000000 := by omega
      have hcut : (0 : Int) ≤ (bb : Int) ∧ (bb : Int) ≤ (k : Int) ∧ (k : Int) ≤ s.size := by omega
      by_cases hlt : k < s.size
      · have hc256 : (s[k]).toNat < 256 := (s[k]).toNat_lt
        by_cases hc : (s[k]).toNat = c.toNat
        · have HG2 := HG.out (.inr ⟨by omega, UInt8.toNat_inj.1 hc⟩)
          have hci : (((s[k]).toNat : Int) == (c.toNat : Int)) = true := by rw [beq_iff_eq]; omega
          have hcj : ((k : Int) == (s.size : Int)) = false := by rw [beq_eq_false_iff_ne]; omega
          go_wp2_with (at_builtin; refine wpList_append_str rfl (.tmp 25) (.tmp 30) rfl w.heap.size u5 done.length (done.map fun s => Value.string s) rfl HA.out.1 HA.out.2 hd1 wq.heap.size (s.extract bb k) rfl (heap_alloc_new _ _) ?_; intro v1 wA hG; have HE := HG2 v1 wA hG; clear hG)
          exact ⟨⟨k + 1, k + 1, _, by omega, by go_num, by go_num, by rw [List.length_append]; exact Nat.succ_le_succ hdl, HE⟩, by simp [intOf]; omega⟩
        · have hci : ¬ ((s[k]).toNat : Int) = c.toNat := by omega
          have HN : Hid (SpAt c s.data.toList done bb (k + 1)) := Lib.hid (HI.out.2.2.next (by omega) fun e => hc (by rw [← e]; rfl))
          have HNO : Hid (¬ (((k : Int) == (s.size : Int)) = true ∨ (((s[k]).toNat : Int) == (c.toNat : Int)) = true)) := Lib.hid (by simp only [beq_iff_eq]; omega)
          clear hc HG
          go_wp2_with (at_builtin; exfalso; exact HNO.out (by assumption))
          exact ⟨⟨k + 1, bb, done, by omega, by go_num, rfl, by omega, Lib.hid ⟨HI.out.1, HI.out.2.1, HN.out⟩⟩, by simp [intOf]; omega⟩
      · obtain rfl : k = s.size := by omega
        have HG2 := HG.out (.inl rfl)
        go_wp2_with (at_builtin; refine wpList_append_str rfl (.tmp 25) (.tmp 30) rfl w.heap.size u5 done.length (done.map fun s => Value.string s) rfl HA.out.1 HA.out.2 hd1 wq.heap.size (s.extract bb s.size) rfl (heap_alloc_new _ _) ?_; intro v1 wA hG; have HE := HG2 v1 wA hG; clear hG)
        exact ⟨⟨s.size + 1, s.size + 1, _, by omega, by go_num, by go_num, by rw [List.length_append]; exact Nat.succ_le_succ hdl, HE⟩, by simp [intOf]⟩
    · obtain rfl : k = s.size + 1 := by omega
      have HF : Hid (done.map (·.data.toList) = sp c s.data.toList) := Lib.hid (by
        rcases HI.out.2.2 with h | h
        · omega
        · exact h.2.2.symm)
      go_wp2_with fail
      go_ret
      exact ⟨⟨_, done, rfl, HI.out.2.1, HF.out⟩, HI.out.1⟩
set_option maxRecDepth 100000 in
set_option maxHeartbeats 4000000 in
theorem rPrint_ok (v : Value) (l : List Fm) (w : World) (hV : FmsAt (· < w.heap.size) w v l) (hI : IntsL l) (hv : vd l = true) :
    Calls Tryz.prog 25 #[v] w fun e w' => e = .returned (.tuple #[.string (bs (text l)), .int .i64 0]) ∧ Below w.heap.size w w' := by
  have hok := vd_iff.1 hv
  have HVA := Lib.hid (rValid_any v l true w hV hI (by have := hok.few; omega) hv)
  obtain ⟨a, c, rfl, hcap⟩ := hV.slice_
  obtain ⟨n, hn⟩ : ∃ n, n = l.length := ⟨_, rfl⟩
  have hn60 : n ≤ 60 := by have := hok.few; omega
  rw [← hn] at HVA hV hcap ⊢
  have HV := Lib.hid hV
  have HN := Lib.hid hn
  have HO := Lib.hid hok
  have HNI := Lib.hid hok.nice
  clear hV hn hI hv hok
  go_enter Tryz.func25, Tryz.ntmps25
  go_wp2_with fail
  refine HVA.out.mono ?_
  rintro e w1 ⟨rfl, hB1⟩
  have HB1 := Lib.hid hB1
  clear hB1
  go_wp2_with fail
  go_loopw [5, 6] (fun o i wr => ∃ (k : Nat) (O : ByteArray), k ≤ n ∧ i = .int .i64 k ∧ o = .string O ∧ Hid (O = bs (text (l.take k)) ∧ Below w.heap.size w wr)) (fun _ i _ => n - (intOf i).toNat)
  case atStart => exact ⟨0, _, Nat.zero_le _, rfl, rfl, Lib.hid ⟨rfl, HB1.out⟩⟩
  case round =>
    obtain ⟨k, O, hk, rfl, rfl, HI⟩ := hrel
    obtain ⟨wo, rfl⟩ : ∃ wo : World, wo = wr := ⟨_, rfl⟩
    by_cases hlt : k < n
    · have hkl : k < l.length := by have := HN.out; omega
      obtain ⟨b, off, hab, -, -, -, -, -, hfm⟩ := HV.out.at_ (by omega)
      subst hab
      obtain ⟨u, hu0⟩ := hfm k hkl
      obtain ⟨f, hf⟩ : ∃ f, f = l.getD k zm := ⟨_, rfl⟩
      rw [← hf] at hu0
      have hbw : b < w.heap.size := World.block_lt_of_cell? (h := hu0.c0)
      have hu := hu0.kept (Kept.of_below HI.out.2 fun _ h => h) hbw
      obtain ⟨ua, uc, rfl, hucl⟩ := hu.fs.slice_
      obtain ⟨m, hm⟩ : ∃ m, m = f.fs.length := ⟨_, rfl⟩
      rw [← hm] at hu hucl
      have q0 := hu.c0
      have q1 := hu.c1
      have lb := World.block_lt_of_cell? (h := q0)
      have he := HO.out.each k hkl
      rw [← hf] at he
      obtain ⟨ID, hID⟩ : ∃ ID : Nat, f.id = ID := ⟨f.id.toNat, by have := he.lo; omega⟩
      have hid : 1 ≤ ID ∧ ID ≤ 1000000 := by have := he.lo; have := he.hi; omega
      rw [hID] at q0
      have hm16 : m ≤ 16 := by rw [hm]; exact he.few
      have HFS := Lib.hid (And.intro hu.fs hu.own)
      have HF := Lib.hid (And.intro hf (And.intro hm hID))
      have HFL : Hid (∀ j, j < f.fs.length → Ints (f.fs.getD j zf) ∧ (f.fs.getD j zf).text.size ≤ 16 ∧ (1 ≤ (f.fs.getD j zf).kind ∧ (f.fs.getD j zf).kind ≤ 6) ∧ (0 ≤ (f.fs.getD j zf).n ∧ (f.fs.getD j zf).n ≤ 1000000000) ∧ (-1 ≤ (f.fs.getD j zf).frm ∧ (f.fs.getD j zf).frm ≤ 1000000000) ∧ ((f.fs.getD j zf).kind = 4 ∨ (f.fs.getD j zf).kind = 5 → 0 ≤ (f.fs.getD j zf).frm)) := Lib.hid fun j hj => by
        have hr := he.each j hj
        have hs := (HO.out.take k).small
        have hl16 : (f.fs.take j).length ≤ 16 := by rw [List.length_take]; have := he.few; omega
        obtain ⟨a0, a1, a2, a3, a4, a5, a6, a7⟩ := right_canon hs hl16 hr
        refine ⟨⟨by omega, by omega, by omega, by omega, by omega, by omega, by omega⟩, a7, ⟨a1, a2⟩, ⟨a3, by omega⟩, ⟨a5, by omega⟩, fun h45 => ?_⟩
        unfold right at hr
        have hc : counts (f.fs.take j) (f.fs.getD j zf).frm = true := by
          rcases h45 with h | h <;> rw [h] at hr <;> simp [nests] at hr <;> first | exact hr.2.2 | exact hr.2.1.2.2 | exact hr.1.2.2 | skip
        exact (counts_of hc).1
      have hOs : O.size ≤ 120000 := by
        rw [HI.out.1]
        have h := text_len HNI.out k (by omega)
        show (text (l.take k)).length ≤ _
        omega
      have HD := Lib.hid (rDigits_any ID wo (by omega))
      obtain ⟨DG, hDG⟩ : ∃ D, D = bs (Lib.decDigits ID) := ⟨_, rfl⟩
      rw [← hDG] at HD
      have hDs : DG.size ≤ 19 := by rw [hDG]; exact dec_len 19 ID (by decide) (by omega)
      have HO1 : Hid (((O ++ (⟨#[102, 111, 114, 109, 97, 116, 32]⟩ : ByteArray)) ++ DG) ++ (⟨#[10]⟩ : ByteArray) = bs (text (l.take k) ++ (heading f.id ++ [10]) ++ textF (f.fs.take 0))) := Lib.hid (by
        have e0 : textF (f.fs.take 0) = [] := by simp [textF]
        have e1 : heading f.id = [102, 111, 114, 109, 97, 116, 32] ++ Lib.decDigits ID := by rw [hID]; unfold heading; rw [itoa_pos (by omega)]; rfl
        rw [e0, List.append_nil, e1, HI.out.1, hDG, ← List.append_assoc, ← List.append_assoc, ← bs_append, ← bs_append, ← bs_append])
      have HBO := Lib.hid HI.out.2
      have HTL : Hid ((text (l.take k)).length ≤ 120000 ∧ (heading f.id).length ≤ 27) := Lib.hid ⟨by have h := text_len HNI.out k (by omega); omega, heading_len (by omega) (by omega)⟩
      clear hf hm hID hDG hu0 hu hfm he HI
      go_wp2_with fail
      refine HD.out.mono ?_
      rintro e w2 ⟨rfl, hB2⟩
      have HB2 := Lib.hid (HBO.out.trans (hB2.mono HBO.out.size))
      clear hB2
      have FM2 : Hid (∀ V, Below w.heap.size w V → V.cell? ⟨b, off + k * 2 + 1, none⟩ = some (.slice ua m uc) ∧ b < V.heap.size) := Lib.hid fun V hV => ⟨(hV.cell (p := ⟨b, off + k * 2 + 1, none⟩) hbw).trans ((HBO.out.cell (p := ⟨b, off + k * 2 + 1, none⟩) hbw).symm.trans q1), Nat.lt_of_lt_of_le hbw hV.size⟩
      have hc2 : off + k * 2 + 1 = off + k * 2 + 1 := rfl
      clear q0 q1 lb
      go_wp2_with fail
      go_loopw [5, 7] (fun o i wr => ∃ (j : Nat) (Z : ByteArray), j ≤ m ∧ i = .int .i64 j ∧ o = .string Z ∧ Hid (Z = bs (text (l.take k) ++ (heading f.id ++ [10]) ++ textF (f.fs.take j)) ∧ Below w.heap.size w wr)) (fun _ i _ => m - (intOf i).toNat)
      case atStart => exact ⟨0, _, Nat.zero_le _, rfl, rfl, Lib.hid ⟨HO1.out, HB2.out⟩⟩
      case round =>
        obtain ⟨j, Z, hj, rfl, rfl, HJ⟩ := hrel
        obtain ⟨wq, rfl⟩ : ∃ wq : World, wq = wr := ⟨_, rfl⟩
        obtain ⟨q1, lb⟩ := FM2.out wq HJ.out.2
        by_cases hjm : j < m
        · have hjl : j < f.fs.length := by have := HF.out.2.1; omega
          obtain ⟨fb, fo, hua, -, -, m1, m2, hfl⟩ := HFS.out.1.at_ (by omega)
          subst hua
          have hPf : fb < w.heap.size := HFS.out.2 fb rfl
          obtain ⟨⟨gk, gn, gf, gt⟩, hg⟩ : ∃ g, g = f.fs.getD j zf := ⟨_, rfl⟩
          have hgN := HFL.out j hjl
          rw [← hg] at hgN
          have hgA := (hfl j hjl).of_block (w' := wq) (by rw [HJ.out.2.block fb hPf, HBO.out.block fb hPf])
          rw [← hg] at hgA
          obtain ⟨g0, g1, g2, g3⟩ := hgA
          have lgb := World.block_lt_of_cell? (h := g0)
          obtain ⟨LN, hLN⟩ : ∃ LN, bs (lineF ⟨gk, gn, gf, gt⟩) = LN := ⟨_, rfl⟩
          have sLN : LN.size ≤ 80 := by rw [← hLN]; exact lineF_len hgN.1 hgN.2.1
          have HLI := Lib.hid (rLine_any gk gn gf gt wq hgN.2.2.1 hgN.2.2.2.1 hgN.2.2.2.2.1 (Nat.le_trans hgN.2.1 (by decide)) hgN.2.2.2.2.2)
          rw [hLN] at HLI
          have hZs : Z.size ≤ 130000 := by
            rw [HJ.out.1]
            have tfl : (textF (f.fs.take j)).length ≤ 81 * j := textF_len (fun i hi => ⟨(HFL.out i hi).1, (HFL.out i hi).2.1⟩) j (by omega)
            have := HTL.out
            show (text (l.take k) ++ (heading f.id ++ [10]) ++ textF (f.fs.take j)).length ≤ _
            simp only [List.length_append, List.length_cons, List.length_nil]
            omega
          have HX : Hid ((Z ++ LN) ++ (⟨#[10]⟩ : ByteArray) = bs (text (l.take k) ++ (heading f.id ++ [10]) ++ textF (f.fs.take (j + 1)))) := Lib.hid (by
            have e0 : textF (f.fs.take (j + 1)) = textF (f.fs.take j) ++ (lineF ⟨gk, gn, gf, gt⟩ ++ [10]) := by
              rw [take_succ_getD _ zf j hjl, ← hg]; simp [textF]
            rw [HJ.out.1, ← hLN, e0]
            generalize text (l.take k) ++ (heading f.id ++ [10]) = A
            generalize textF (f.fs.take j) = T
            generalize lineF ⟨gk, gn, gf, gt⟩ = L
            show (bs (A ++ T) ++ bs L) ++ bs [10] = _
            rw [bs_append (A ++ T) L, bs_append (A ++ T ++ L) [10]]
            simp only [List.append_assoc])
          have HBJ := Lib.hid HJ.out.2
          unfold maxLen at m2
          clear hfl hg hgN hLN HJ
          go_wp2_with fail
          refine HLI.out.mono ?_
          rintro e w3 ⟨rfl, hb3⟩
          have HB3 := Lib.hid (HBJ.out.trans (hb3.mono HBJ.out.size))
          clear hb3
          go_wp2_with fail
          exact ⟨⟨j + 1, _, by omega, by go_num, rfl, Lib.hid ⟨HX.out, HB3.out⟩⟩, by simp [intOf]; omega⟩
        · obtain rfl : j = m := by omega
          have HZ : Hid (Z = bs (text (l.take (k + 1)))) := Lib.hid (by
            have e0 : text (l.take (k + 1)) = text (l.take k) ++ (heading f.id ++ [10]) ++ textF f.fs := by
              rw [take_succ_getD _ zm k hkl, ← HF.out.1]; simp [text, textM]
            rw [HJ.out.1, e0, HF.out.2.1, List.take_length])
          have HBJ := Lib.hid HJ.out.2
          clear HJ
          go_wp2_with fail
          exact ⟨⟨k + 1, _, by omega, by go_num, rfl, Lib.hid ⟨HZ.out, HBJ.out⟩⟩, by simp [intOf]; omega⟩
    · obtain rfl : k = n := by omega
      have HE : Hid (O = bs (text l)) := Lib.hid (by rw [HI.out.1, HN.out, List.take_length])
      go_wp2_with fail
      go_ret2
      exact ⟨by rw [HE.out]; rfl, HI.out.2⟩
set_option maxHeartbeats 1000000 in
theorem rPrint_any (v : Value) (l : List Fm) (S : ByteArray) (z : Int) (w : World) (hV : FmsAt (· < w.heap.size) w v l) (hI : IntsL l) (hl : l.length ≤ 1000) (hS : printT l = S) (hz : printE l = z) :
    Calls Tryz.prog 25 #[v] w fun e w' => e = .returned (.tuple #[.string S, .int .i64 z]) ∧ Below w.heap.size w w' := by
  unfold printT at hS
  unfold printE at hz
  cases hv : vd l with
  | true =>
    rw [hv] at hS hz
    simp only [if_true] at hS hz
    subst hS; subst hz
    exact rPrint_ok v l w hV hI hv
  | false =>
    rw [hv] at hS hz
    simp only [Bool.false_eq_true, if_false] at hS hz
    subst hS; subst hz
    have HVA := Lib.hid (rValid_any v l false w hV hI hl hv)
    clear hV hI hv
    go_enter Tryz.func25, Tryz.ntmps25
    go_wp2_with fail
    refine HVA.out.mono ?_
    rintro e w1 ⟨rfl, hB⟩
    have HB1 := Lib.hid hB
    clear hB
    go_wp2_with fail
    go_ret2
    exact ⟨rfl, HB1.out⟩
end Go.Proofs.YtcnokccgdiodlaaGreatDoor
