/- siblings and Proof return the proof of an entry in new memory. Conditions: the list is readable, has at most 1000 strings of at most 1000 bytes each. -/
import Derived.Test.YtlnlhjkdbpkaiaaDoorDigL
import Derived.Deep.RegionLaw
import Derived.Laws.AppendOwn
import Derived.Laws.OwnMore
import Derived.Deep.Onto
namespace Go.Proofs.YtlnlhjkdbpkaiaaDoor
open Go.RowKit

/-- The strings lie in a row of the call's own. -/
def OwnL (W : World) (base : Nat) (v : Value) (l : List ByteArray) : Prop := W.ownsRow base 9 1 v l.length (l.map Value.string)
theorem OwnL.nil (W : World) (base : Nat) : OwnL W base (.slice none 0 0) [] := World.ownsRow_nil W base _ _
theorem OwnL.mono {W : World} {base base' : Nat} {v : Value} {l : List ByteArray} (h : OwnL W base v l) (hb : base' ≤ base) : OwnL W base' v l := World.ownsRow.mono h hb
theorem OwnL.alloc {W : World} {base : Nat} {v : Value} {l : List ByteArray} (h : OwnL W base v l) (o : Obj) : OwnL (W.alloc o) base v l := World.ownsRow.alloc h o
theorem OwnL.drew {W : World} {base : Nat} {v : Value} {l : List ByteArray} (h : OwnL W base v l) : OwnL W.drew base v l := h
theorem OwnL.below {W W' : World} {base : Nat} {v : Value} {l : List ByteArray} (h : OwnL W base v l) (hb : Below W.heap.size W W') : OwnL W' base v l := by
  obtain ⟨h1, h2 | ⟨g, cap, cur, e1, e2, e3, e4⟩⟩ := h
  · exact ⟨h1, .inl h2⟩
  · exact ⟨h1, .inr ⟨g, cap, cur, e1, e2, (hb.block g (Array.getElem?_eq_some_iff.1 e3).1).trans e3, e4⟩⟩
theorem OwnL.list {W : World} {base : Nat} {v : Value} {l : List ByteArray} (h : OwnL W base v l) (hs : Short l) : ListAt W v l := by
  refine ⟨hs, ?_⟩
  obtain ⟨h1, ⟨rfl, h2⟩ | ⟨g, cap, cur, rfl, e2, e3, e4, e5, e6, e7⟩⟩ := h
  · exact .inl ⟨none, 0, rfl, List.length_eq_zero_iff.1 h2⟩
  · by_cases hl : l.length = 0
    · refine .inl ⟨some ⟨g, 0, none⟩, cap, by rw [hl], List.length_eq_zero_iff.1 hl⟩
    · refine .inr ⟨g, 0, cap, rfl, by omega, e4, by unfold maxLen at e5; omega, fun j hj => ?_, (Array.getElem?_eq_some_iff.1 e3).1⟩
      rw [cell_of_row W g (0 + j) cur _ _ e3, Nat.zero_add]
      have : cur.toList[j]? = (l.map Value.string)[j]? := by
        rw [← e7, List.getElem?_take, if_pos (by omega)]
      rw [← Array.getElem?_toList, this]
      simp [List.getD, hj]

theorem infoStr : (Tryd.prog.info? 9).map (fun i => (i.zero, i.size, i.bytes)) = some (some (.string ⟨#[]⟩), 1, 16) := by kernel_rfl
/-- One string is appended to a list of the call's own, as a step of a region. -/
theorem step_append_str {ops : Array Oper} {o : Oper} {a : Act} {w : World} {K : Act → World → Prop} {Q : Exit → Act → World → Prop} {E : Prop}
    (hg : o.guard = none) (s x : Operand) (hop : o.op = Op.call { callee := Callee.builtin Builtin.append, args := #[s, x], argTypes := #[26, 26] })
    (base : Nat) (v : Value) (l : List ByteArray) (hs : a.eval s = v) (hown : OwnL w base v l) (b c : Nat) (t : ByteArray) (hx : a.eval x = .slice (some ⟨b, 0, none⟩) 1 c) (hc : w.cell? ⟨b, 0, none⟩ = some (.string t)) (hl : l.length ≤ 1000) (hb : base ≤ w.heap.size)
    (hK : ∀ v' w', OwnL w' base v' (l ++ [t]) → Below base w w' → K (a.put o.dst v') w') :
    if Region.wanted o (yielded ops a.tmps) = true then Oper.wp Tryd.prog o a w K Q else E := by
  have hw : Region.wanted o (yielded ops a.tmps) = true := by simp [Region.wanted, hg]
  rw [if_pos hw]
  obtain ⟨i0, hi, hz0, hz1, hz2⟩ := info_parts infoStr
  obtain ⟨v', w', hrun, r1, r2, _⟩ := run_append_own (P := Tryd.prog) w base 26 o.type 9 i0 (.string ⟨#[]⟩) 1 16 Tryd.underlying26 hi hz0 hz1 hz2 rfl (by decide) v l.length _ hown ⟨b, 0, none⟩ 1 c [.string t] rfl
    (fun j u hu => by
      cases j with
      | zero => simp at hu; subst hu; simpa [Addr.add] using hc
      | succ j => simp at hu)
    (fun u hu => by simp at hu; subst hu; rfl) (by unfold maxLen; omega) (by omega) hb
  unfold Oper.wp
  simp [execOp, hop, resolve, invoke, builtin, hs, hx, hrun, Result.andThen]
  refine hK v' w' ?_ ((Below.refl base w).grown r2 hb (fun k e => (World.ownsRow.lt hown k e).1))
  unfold OwnL
  rw [List.length_append, List.map_append]
  exact r1
theorem below_alloc {w W : World} (h : Below w.heap.size w W) (o : Obj) : Below w.heap.size w (W.alloc o) := h.alloc h.size o
abbrev sibsB (l : List ByteArray) (i : Nat) : List ByteArray := Dt.sibs shaB l i
theorem sibs_le (l : List ByteArray) (i : Nat) : (sibsB l i).length ≤ l.length := by
  have h1 := Dt.sibs_bin shaB l i
  have h2 := Dt.bin_le l.length
  unfold sibsB; omega

set_option maxRecDepth 100000 in
set_option maxHeartbeats 4000000 in
theorem sibs_step (n : Nat) (ih : ∀ m, m < n → ∀ (l : List ByteArray) (i b off cap : Nat) (w : World), l.length = m → 1 ≤ m → m ≤ 1000 → i < m → m ≤ cap → cap ≤ 9223372036854775807 → StrsAt w b off l → b < w.heap.size → Short l → Tabs w →
      Calls Tryd.prog 40 #[.slice (some ⟨b, off, none⟩) m cap, .int .i64 i] w fun e w' => ∃ v, e = .returned v ∧ OwnL w' w.heap.size v (sibsB l i) ∧ Below w.heap.size w w')
    (l : List ByteArray) (i b off cap : Nat) (w : World) (hn : l.length = n) (h1 : 1 ≤ n) (hmax : n ≤ 1000) (hi : i < n) (hcap : n ≤ cap) (hcm : cap ≤ 9223372036854775807) (hS : StrsAt w b off l) (hb : b < w.heap.size) (hsh : Short l) (hT : Tabs w) :
    Calls Tryd.prog 40 #[.slice (some ⟨b, off, none⟩) n cap, .int .i64 i] w fun e w' => ∃ v, e = .returned v ∧ OwnL w' w.heap.size v (sibsB l i) ∧ Below w.heap.size w w' := by
  have HT := Lib.hid hT
  by_cases hone : n = 1
  · subst hone
    have HV : Hid (sibsB l i = []) := Lib.hid (Dt.sibs_one shaB (by omega) i)
    clear hT hS ih hsh hn
    go_enter Tryd.func40, Tryd.ntmps40
    go_wp2_with fail
    go_ret
    exact ⟨_, rfl, by rw [HV.out]; exact OwnL.nil _ _, Below.refl _ _⟩
  · obtain ⟨k, hk⟩ : ∃ k, k = Dt.lk n := ⟨_, rfl⟩
    have hk1 : 1 ≤ k := by rw [hk]; exact Dt.lk_pos n
    have hk2 : k < n := by rw [hk]; exact Dt.lk_lt (by omega)
    have hsp : Calls Tryd.prog 44 #[.int .i64 n] w fun e w' => e = .returned (.int .i64 (k : Nat)) ∧ w = w' := by rw [hk]; exact split_any n w (by omega) (by omega)
    have HSP := Lib.hid hsp
    have q1 : ((n : Int) == 1) = false := by simp; omega
    have q2 : (k : Int) ≤ (cap : Int) := by omega
    have q3 : (k : Int) ≤ (n : Int) := by omega
    have q4 : ¬ cap = k := by omega
    have q5 : 0 ≤ (k : Int) := by omega
    have own : ∀ W W' : World, Below w.heap.size w W → ∀ v l, OwnL W' W.heap.size v l → OwnL W' w.heap.size v l := fun W W' hW v l h => h.mono hW.size
    by_cases hik : i < k
    · have HV : Hid (sibsB l i = sibsB (l.take k) i ++ [rootB (l.drop k)]) := Lib.hid (by unfold sibsB rootB; rw [Dt.sibs_left shaB (by omega) (by rw [hn, ← hk]; exact hik), hn, hk])
      have hle := sibs_le (l.take k) i
      have hle' : (sibsB (l.take k) i).length ≤ 1000 := by simp at hle; omega
      have HREC : Hid (∀ W, Below w.heap.size w W → Calls Tryd.prog 40 #[.slice (some ⟨b, off, none⟩) k cap, .int .i64 i] W fun e w' => ∃ v, e = .returned v ∧ OwnL w' w.heap.size v (sibsB (l.take k) i) ∧ Below w.heap.size w w') := Lib.hid (fun W hW =>
        (ih k hk2 (l.take k) i b off cap W (by simp; omega) hk1 (by omega) hik (by omega) hcm ((hS.below hW hb).take k) (Nat.lt_of_lt_of_le hb hW.size) (hsh.take k) (hT.below hW)).mono fun e w' ⟨v, h1, h2, h3⟩ => ⟨v, h1, own W w' hW v _ h2, hW.trans (h3.mono hW.size)⟩)
      have HROOT : Hid (∀ W v5, Below w.heap.size w W → OwnL W w.heap.size v5 (sibsB (l.take k) i) → Calls Tryd.prog 26 #[.slice (some ⟨b, off + k, none⟩) (n - k) (cap - k)] W fun e w' => e = .returned (.string (rootB (l.drop k))) ∧ OwnL w' w.heap.size v5 (sibsB (l.take k) i) ∧ Below w.heap.size w w') := Lib.hid (fun W v5 hW ho =>
        (root_some (n - k) (l.drop k) b (off + k) (cap - k) W (by simp; omega) (by omega) (by omega) (by omega) ((hS.below hW hb).drop k) (Nat.lt_of_lt_of_le hb hW.size) (hsh.drop k) (hT.below hW)).mono fun e w' ⟨h1, h2⟩ => ⟨h1, ho.below h2, hW.trans (h2.mono hW.size)⟩)
      obtain ⟨rt, hrt⟩ : ∃ r, r = rootB (l.drop k) := ⟨_, rfl⟩
      obtain ⟨sb, hsb⟩ : ∃ r, r = sibsB (l.take k) i := ⟨_, rfl⟩
      rw [← hrt, ← hsb] at HROOT HV
      rw [← hsb] at HREC hle'
      clear hk hT hS ih hsh hsp hn hone own hle hrt hsb
      go_enter Tryd.func40, Tryd.ntmps40
      go_wp2_with fail
      refine HSP.out.mono ?_
      rintro e w' ⟨rfl, rfl⟩
      go_wp2_with fail
      go_region_held3 (fun w' => Below w.heap.size w w') (first | exact Below.refl _ _ | exact (Below.refl _ _).drew | assumption | exact below_alloc (by assumption) _) ((first | (refine step_append_str rfl (.tmp 19) (.tmp 24) rfl w.heap.size _ sb rfl ?_ _ _ rt rfl ?_ hle' ?_ ?_; exact OwnL.alloc (by assumption) _; go_simp; exact (below_alloc (by assumption) _).size; intro v7 w7 ho7 hg7; have hb7 : Below w.heap.size w w7 := (below_alloc (by assumption) _).trans hg7; clear hg7) | (go_at_call 40; refine (HREC.out _ (by first | exact Below.refl _ _ | exact (Below.refl _ _).drew | assumption)).mono ?_; rintro e w5 ⟨v5, rfl, ho5, hb5⟩) | (go_at_call 26; refine (HROOT.out _ _ (by assumption) (by assumption)).mono ?_; rintro e w6 ⟨rfl, ho6, hb6⟩)))
      all_goals
        go_wp2_with fail
        go_ret
        exact ⟨_, rfl, by rw [HV.out]; assumption, by assumption⟩
    · have HV : Hid (sibsB l i = sibsB (l.drop k) (i - k) ++ [rootB (l.take k)]) := Lib.hid (by unfold sibsB rootB; rw [Dt.sibs_right shaB (by omega) (by rw [hn, ← hk]; exact hik), hn, hk])
      have hle := sibs_le (l.drop k) (i - k)
      have hle' : (sibsB (l.drop k) (i - k)).length ≤ 1000 := by simp at hle; omega
      have HREC : Hid (∀ W, Below w.heap.size w W → Calls Tryd.prog 40 #[.slice (some ⟨b, off + k, none⟩) (n - k) (cap - k), .int .i64 ((i : Int) - k)] W fun e w' => ∃ v, e = .returned v ∧ OwnL w' w.heap.size v (sibsB (l.drop k) (i - k)) ∧ Below w.heap.size w w') := Lib.hid (fun W hW => by
        rw [show ((i : Int) - k) = ((i - k : Nat) : Int) by omega]
        exact (ih (n - k) (by omega) (l.drop k) (i - k) b (off + k) (cap - k) W (by simp; omega) (by omega) (by omega) (by omega) (by omega) (by omega) ((hS.below hW hb).drop k) (Nat.lt_of_lt_of_le hb hW.size) (hsh.drop k) (hT.below hW)).mono fun e w' ⟨v, h1, h2, h3⟩ => ⟨v, h1, own W w' hW v _ h2, hW.trans (h3.mono hW.size)⟩)
      have HROOT : Hid (∀ W v5, Below w.heap.size w W → OwnL W w.heap.size v5 (sibsB (l.drop k) (i - k)) → Calls Tryd.prog 26 #[.slice (some ⟨b, off, none⟩) k cap] W fun e w' => e = .returned (.string (rootB (l.take k))) ∧ OwnL w' w.heap.size v5 (sibsB (l.drop k) (i - k)) ∧ Below w.heap.size w w') := Lib.hid (fun W v5 hW ho =>
        (root_some k (l.take k) b off cap W (by simp; omega) (by omega) (by omega) (by omega) ((hS.below hW hb).take k) (Nat.lt_of_lt_of_le hb hW.size) (hsh.take k) (hT.below hW)).mono fun e w' ⟨h1, h2⟩ => ⟨h1, ho.below h2, hW.trans (h2.mono hW.size)⟩)
      obtain ⟨rt, hrt⟩ : ∃ r, r = rootB (l.take k) := ⟨_, rfl⟩
      obtain ⟨sb, hsb⟩ : ∃ r, r = sibsB (l.drop k) (i - k) := ⟨_, rfl⟩
      rw [← hrt, ← hsb] at HROOT HV
      rw [← hsb] at HREC hle'
      have q6 : IntKind.i64.wrap ((i : Int) - k) = (i : Int) - k := IntWalk.i64_in _ (by omega)
      clear hk hT hS ih hsh hsp hn hone own hle hrt hsb
      go_enter Tryd.func40, Tryd.ntmps40
      go_wp2_with fail
      refine HSP.out.mono ?_
      rintro e w' ⟨rfl, rfl⟩
      go_wp2_with fail
      go_region_held3 (fun w' => Below w.heap.size w w') (first | exact Below.refl _ _ | exact (Below.refl _ _).drew | assumption | exact below_alloc (by assumption) _) ((first | (refine step_append_str rfl (.tmp 32) (.tmp 37) rfl w.heap.size _ sb rfl ?_ _ _ rt rfl ?_ hle' ?_ ?_; exact OwnL.alloc (by assumption) _; go_simp; exact (below_alloc (by assumption) _).size; intro v7 w7 ho7 hg7; have hb7 : Below w.heap.size w w7 := (below_alloc (by assumption) _).trans hg7; clear hg7) | (go_at_call 40; refine (HREC.out _ (by first | exact Below.refl _ _ | exact (Below.refl _ _).drew | assumption)).mono ?_; rintro e w5 ⟨v5, rfl, ho5, hb5⟩) | (go_at_call 26; refine (HROOT.out _ _ (by assumption) (by assumption)).mono ?_; rintro e w6 ⟨rfl, ho6, hb6⟩)))
      all_goals
        go_wp2_with fail
        go_ret
        exact ⟨_, rfl, by rw [HV.out]; assumption, by assumption⟩

theorem sibs_some (n : Nat) : ∀ (l : List ByteArray) (i b off cap : Nat) (w : World), l.length = n → 1 ≤ n → n ≤ 1000 → i < n → n ≤ cap → cap ≤ 9223372036854775807 → StrsAt w b off l → b < w.heap.size → Short l → Tabs w →
    Calls Tryd.prog 40 #[.slice (some ⟨b, off, none⟩) n cap, .int .i64 i] w fun e w' => ∃ v, e = .returned v ∧ OwnL w' w.heap.size v (sibsB l i) ∧ Below w.heap.size w w' := by
  induction n using Nat.strongRecOn with
  | _ n ih => exact fun l i b off cap w h1 h2 h3 h4 h5 h6 h7 h8 h9 h10 => sibs_step n (fun m hm l i b off cap w h1 h2 h3 h4 h5 h6 h7 h8 h9 h10 => ih m hm l i b off cap w h1 h2 h3 h4 h5 h6 h7 h8 h9 h10) l i b off cap w h1 h2 h3 h4 h5 h6 h7 h8 h9 h10
theorem sibs_short (l : List ByteArray) (i : Nat) : Short (sibsB l i) := fun x hx => by
  have := Dt.sibs_digs shaB shaB_size l.length l i rfl x hx
  omega

set_option maxHeartbeats 1000000 in
theorem Proof_yes (v : Value) (l : List ByteArray) (i : Nat) (w : World) (hL : ListAt w v l) (hmax : l.length ≤ 1000) (hi : i < l.length) (hT : Tabs w) :
    Calls Tryd.prog 21 #[v, .int .i64 i] w fun e w' => ∃ u, e = .returned (.tuple #[u, .int .i64 0]) ∧ OwnL w' w.heap.size u (sibsB l i) ∧ Below w.heap.size w w' := by
  obtain ⟨hs, ⟨a, c, rfl, rfl⟩ | ⟨b, off, cap, rfl, h1, h2, h3, h4, h5⟩⟩ := hL
  · simp at hi
  · have h := sibs_some l.length l i b off cap w rfl h1 hmax hi h2 h3 h4 h5 hs hT
    obtain ⟨n, hn⟩ : ∃ n, n = l.length := ⟨_, rfl⟩
    rw [← hn] at h hi hmax ⊢
    have H := Lib.hid h
    have hi' : (i : Int) < (n : Int) := by omega
    clear h hn h1 h2 h3 h4 h5 hs hT
    go_enter Tryd.func21, Tryd.ntmps21
    go_wp2_with fail
    refine H.out.mono ?_
    rintro e w' ⟨u, rfl, ho, hb⟩
    go_wp2_with fail
    go_ret2
    exact ⟨u, rfl, ho, hb⟩
set_option maxHeartbeats 1000000 in
theorem Proof_no (v : Value) (l : List ByteArray) (i : Int) (w : World) (hL : ListAt w v l) (hi : ¬ (0 ≤ i ∧ i < l.length)) :
    Calls Tryd.prog 21 #[v, .int .i64 i] w fun e w' => e = .returned (.tuple #[.slice none 0 0, .int .i64 2]) ∧ w = w' := by
  have hv : ∃ a c, v = .slice a l.length c := by
    obtain ⟨_, ⟨a, c, rfl, rfl⟩ | ⟨b, off, cap, rfl, _⟩⟩ := hL
    · exact ⟨_, _, rfl⟩
    · exact ⟨_, _, rfl⟩
  obtain ⟨a, c, rfl⟩ := hv
  clear hL
  by_cases h0 : i < 0
  · clear hi
    go_enter Tryd.func21, Tryd.ntmps21
    go_wp2_with fail
    go_ret2
    exact ⟨rfl, rfl⟩
  · have h1 : (l.length : Int) ≤ i := by omega
    clear hi
    go_enter Tryd.func21, Tryd.ntmps21
    go_wp2_with fail
    go_ret2
    exact ⟨rfl, rfl⟩
end Go.Proofs.YtlnlhjkdbpkaiaaDoor
