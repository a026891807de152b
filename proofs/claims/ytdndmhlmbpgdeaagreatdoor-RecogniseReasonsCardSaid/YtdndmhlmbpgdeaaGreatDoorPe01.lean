/- Writing and reading are inverse: bytes in places, which bytes a written value keeps. Plain facts. No condition of its own. A stream that is written is recognised: plain facts. No condition of its own. -/
import Derived.Test.YtdndmhlmbpgdeaaGreatDoorPb10
import Derived.Test.YtdndmhlmbpgdeaaGreatDoorPb14
namespace Go.Proofs.YtdndmhlmbpgdeaaGreatDoor
section RtA
open Go.RowKit Fx Rec
namespace Rt

/-- The bytes in a place. -/
def seg (S : List UInt8) (a n : Nat) : List UInt8 := (S.drop a).take n
theorem seg_get (S : List UInt8) (a n i : Nat) : (seg S a n)[i]? = if i < n then S[a + i]? else none := by
  unfold seg
  rw [List.getElem?_take, List.getElem?_drop]
theorem seg_ext {S T : List UInt8} {a b n : Nat} (h : ∀ i, i < n → S[a + i]? = T[b + i]?) : seg S a n = seg T b n := by
  apply List.ext_getElem?
  intro i
  rw [seg_get, seg_get]
  split
  · exact h i (by assumption)
  · rfl
theorem seg_all (b : List UInt8) : seg b 0 b.length = b := by simp [seg]
theorem seg_len {S : List UInt8} {a n : Nat} (h : a + n ≤ S.length) : (seg S a n).length = n := by
  unfold seg
  rw [List.length_take, List.length_drop]
  omega
theorem ext_seg (s : ByteArray) (a n : Nat) : s.extract a (a + n) = bytesOf (seg s.data.toList a n) := by
  apply ByteArray.ext
  rw [ByteArray.data_extract]
  apply Array.ext'
  simp only [Array.toList_extract, List.extract, Nat.add_sub_cancel_left]
  rfl
theorem bytes_list (l : List UInt8) : (bytesOf l).data.toList = l := rfl
theorem list_bytes (v : ByteArray) : bytesOf v.data.toList = v := rfl
theorem size_list (v : ByteArray) : v.data.toList.length = v.size := rfl
theorem num_seg (s : ByteArray) (a n : Nat) : num (s.extract a (a + n)) = numL (seg s.data.toList a n) := by rw [ext_seg]; rfl
/-- A place holds the bytes of a string. -/
theorem ext_of {s v : ByteArray} {a : Nat} (h : ∀ i, i < v.size → s.data.toList[a + i]? = v.data.toList[i]?) : s.extract a (a + v.size) = v := by
  rw [ext_seg, seg_ext (T := v.data.toList) (b := 0) (fun i hi => by rw [Nat.zero_add]; exact h i hi), ← size_list, seg_all, list_bytes]
theorem patch_out {st b : List UInt8} {a i : Nat} (h : a + b.length ≤ st.length) (ho : i < a ∨ a + b.length ≤ i) : (patch st a b)[i]? = st[i]? := by
  unfold patch
  rcases ho with ho | ho
  · rw [List.getElem?_append_left (by rw [List.length_take]; omega), List.getElem?_take, if_pos ho]
  · rw [List.getElem?_append_right (by rw [List.length_take]; omega), List.length_take, List.getElem?_append_right (by omega), List.getElem?_drop]
    congr 1
    omega
theorem patch_in {st b : List UInt8} {a j : Nat} (h : a + b.length ≤ st.length) (hj : j < b.length) : (patch st a b)[a + j]? = b[j]? := by
  unfold patch
  rw [List.getElem?_append_right (by rw [List.length_take]; omega), List.length_take, List.getElem?_append_left (by omega)]
  congr 1
  omega
theorem num_nbytes : ∀ (w : Nat) (n : Int), 0 ≤ n → n < 256 ^ w → numL (nbytes w n) = n
  | 0, n, h0, h1 => by
    have : n < 1 := by simpa using h1
    show (0 : Int) = n
    omega
  | w + 1, n, h0, h1 => by
    have h2 : n / 256 < 256 ^ w := Int.ediv_lt_of_lt_mul (by decide) (by rw [← Int.pow_succ]; exact h1)
    rw [nbytes, numL_snoc, num_nbytes w (n / 256) (by omega) h2]
    have e : ((UInt8.ofNat (n % 256).toNat).toNat : Int) = n % 256 := by
      rw [UInt8.toNat_ofNat']
      omega
    rw [e]
    omega
theorem nbytes_num : ∀ (w : Nat) (l : List UInt8), l.length = w → nbytes w (numL l) = l
  | 0, l, h => by
    rw [List.eq_nil_of_length_eq_zero h]; rfl
  | w + 1, l, h => by
    rcases List.eq_nil_or_concat l with rfl | ⟨t, b, rfl⟩
    · simp at h
    · have ht : t.length = w := by simpa using h
      have hb := UInt8.toNat_lt b
      have h0 := (numL_bound t).1
      rw [List.concat_eq_append, nbytes, numL_snoc, show (256 * numL t + (b.toNat : Int)) / 256 = numL t by omega, show ((256 * numL t + (b.toNat : Int)) % 256).toNat = b.toNat by omega, nbytes_num w t ht]
      congr 1
      simp
/-! checksums -/
abbrev Ck := Nat × Nat × Nat
def chk (S : List UInt8) (c : Ck) : Prop := seg S c.2.1 c.2.2 = nbytes c.2.2 ((sumOf S c.2.1 - sumOf S c.1) % 256 ^ c.2.2)
def InC (cs : List Ck) (i : Nat) : Prop := ∃ c, c ∈ cs ∧ c.2.1 ≤ i ∧ i < c.2.1 + c.2.2
/-- A stream holds what a writer has written from lo on, and its checksums. -/
structure Fits (S : List UInt8) (lo : Nat) (σ : Ws) : Prop where
  st : ∀ i, lo ≤ i → i < σ.st.length → ¬ InC σ.checks i → S[i]? = σ.st[i]?
  ck : ∀ c, c ∈ σ.checks → lo ≤ c.2.1 → chk S c
/-! fields that are right -/
structure Good (L : List Fm) (N : Nat) (fs : List Fld) : Prop where
  few : fs.length ≤ 16
  ok : ∀ k, k < fs.length → FOkW L N fs k (fs.getD k zf)
  neg : ∀ k, k < fs.length → (fs.getD k zf).kind = 1 ∨ (fs.getD k zf).kind = 2 ∨ (fs.getD k zf).kind = 6 → (fs.getD k zf).frm = -1
  uniq : ∀ j k, j < k → k < fs.length → 0 ≤ (fs.getD k zf).frm → (fs.getD j zf).frm ≠ (fs.getD k zf).frm
  at4 : ∀ k, k < fs.length → (fs.getD k zf).kind = 4 → ∃ q : Nat, (fs.getD k zf).frm = q ∧ q < k ∧ (fs.getD q zf).kind = 2
theorem mem_getD {fs : List Fld} {f : Fld} (h : f ∈ fs) : ∃ j, j < fs.length ∧ fs.getD j zf = f := by
  obtain ⟨j, hj, rfl⟩ := List.getElem_of_mem h
  exact ⟨j, hj, by rw [List.getD_eq_getElem?_getD, List.getElem?_eq_getElem hj]; rfl⟩
theorem getD_mem {fs : List Fld} {k : Nat} (h : k < fs.length) : fs.getD k zf ∈ fs := by
  rw [List.getD_eq_getElem?_getD, List.getElem?_eq_getElem h]; exact List.getElem_mem h
theorem not_before {fs : List Fld} {j k : Nat} {q : Int} (hjk : j < k) (hk : k < fs.length) (h : counts (fs.take k) q = true) : (fs.getD j zf).frm ≠ q := by
  obtain ⟨_, _, _, c4⟩ := counts_of h
  refine c4 _ ?_
  rw [List.getD_eq_getElem?_getD, List.getElem?_eq_getElem (by omega)]
  exact List.mem_take_iff_getElem.2 ⟨j, by omega, rfl⟩
theorem good_of {L : List Fm} (h : Ok L) {i n : Nat} (hi : i < L.length) (hin : i ≤ n) : Good L n (L.getD i zm).fs := by
  have hfm := h.each i hi
  have cnt : ∀ k, k < (L.getD i zm).fs.length → 0 ≤ ((L.getD i zm).fs.getD k zf).frm → counts ((L.getD i zm).fs.take k) ((L.getD i zm).fs.getD k zf).frm = true := fun k hk h0 => by
    have hr := hfm.each k hk
    unfold right at hr
    split at hr
    · have := (literal_of hr).2.1; omega
    · split at hr
      · have := (sized_of hr).1; omega
      · split at hr
        · rw [Bool.or_eq_true] at hr
          rcases hr with hr | hr
          · have := (sized_of hr).1; omega
          · exact (counted_of hr).2.2
        · split at hr
          · exact (nests_of hr).2.2
          · split at hr
            · rw [Bool.and_eq_true] at hr
              exact (nests_of hr.1).2.2
            · split at hr
              · have := (sized_of hr).1; omega
              · cases hr
  refine ⟨hfm.few, fun k hk => fokw_of h hi hin hk, fun k hk hkd => ?_, fun j k hjk hk h0 => ?_, fun k hk h4 => ?_⟩
  · have hr := hfm.each k hk
    unfold right at hr
    rcases hkd with h1 | h1 | h1
    · rw [if_pos h1] at hr; exact (literal_of hr).2.1
    · rw [if_neg (by omega), if_pos h1] at hr; exact (sized_of hr).1
    · rw [if_neg (by omega), if_neg (by omega), if_neg (by omega), if_neg (by omega), if_neg (by omega), if_pos h1] at hr; exact (sized_of hr).1
  · exact not_before hjk hk (cnt k hk h0)
  · obtain ⟨⟨q, hq, _⟩, _⟩ := (fok_of h hi hin hk).k4 (.inl h4)
    obtain ⟨_, c2, c3, _⟩ := counts_of (cnt k hk (by omega))
    rw [List.length_take] at c2
    rw [List.getD_eq_getElem?_getD, List.getElem?_take, if_pos (by omega), ← List.getD_eq_getElem?_getD, hq] at c3
    exact ⟨q, hq, by omega, c3⟩
theorem Good.only {L : List Fm} {N : Nat} {fs : List Fld} (h : Good L N fs) {j k : Nat} (hj : j < fs.length) (hk : k < fs.length) (h0 : 0 ≤ (fs.getD k zf).frm) (e : (fs.getD j zf).frm = (fs.getD k zf).frm) : j = k := by
  apply Classical.byContradiction
  intro hne
  rcases Nat.lt_or_ge j k with h1 | h1
  · exact h.uniq j k h1 hk h0 e
  · exact h.uniq k j (by omega) hj (by omega) e.symm
/-- The number of a list is given. -/
theorem Good.list {L : List Fm} {N : Nat} {fs : List Fld} (h : Good L N fs) {k q : Nat} (hk : k < fs.length) (h4 : (fs.getD k zf).kind = 4) (hq : (fs.getD k zf).frm = (q : Int)) : waits fs q = false := by
  apply Classical.byContradiction
  intro hw
  have hw : waits fs q = true := by simpa using hw
  unfold waits at hw
  rw [List.any_eq_true] at hw
  obtain ⟨f, hf, h2⟩ := hw
  obtain ⟨j, hj, rfl⟩ := mem_getD hf
  simp only [Bool.and_eq_true, decide_eq_true_eq, Bool.not_eq_true', decide_eq_false_iff_not] at h2
  have := h.only hj hk (by omega) (by omega)
  subst this
  exact h2.2 h4
theorem Good.waits_fromF {L : List Fm} {N : Nat} {fs : List Fld} (h : Good L N fs) (k : Nat) : fs.any (fromF k) = waits fs k := by
  unfold waits
  rw [Bool.eq_iff_iff, List.any_eq_true, List.any_eq_true]
  constructor
  · rintro ⟨f, hf, h2⟩
    refine ⟨f, hf, ?_⟩
    simp only [fromF, Bool.and_eq_true, Bool.or_eq_true, decide_eq_true_eq, Bool.not_eq_true', decide_eq_false_iff_not] at h2 ⊢
    omega
  · rintro ⟨f, hf, h2⟩
    refine ⟨f, hf, ?_⟩
    obtain ⟨j, hj, rfl⟩ := mem_getD hf
    simp only [fromF, Bool.and_eq_true, Bool.or_eq_true, decide_eq_true_eq, Bool.not_eq_true', decide_eq_false_iff_not] at h2 ⊢
    have n1 := h.neg j hj
    have o := (h.ok j hj).ok
    have := o.lo
    have := o.hi
    omega
/-- Which fields are given. -/
theorem Good.given {L : List Fm} {N : Nat} {fs : List Fld} (h : Good L N fs) (k : Nat) : givenB fs k = if (fs.getD k zf).kind = 3 then true else if (fs.getD k zf).kind = 2 then !waits fs k else false := by
  unfold givenB
  rw [h.waits_fromF]
/-! what a step of a writer keeps -/
def uses (f : Fld) : Prop := 0 ≤ f.frm ∧ f.kind ≠ 4
def inR (h : Nat × Nat) (i : Nat) : Prop := h.1 ≤ i ∧ i < h.1 + h.2
def box (d : Dr) (f : Fld) : Nat × Nat := d.lens.getD f.frm.toNat (0, 0)
def Pend (d : Dr) (t : List Fld) (i : Nat) : Prop := ∃ f, f ∈ t ∧ uses f ∧ inR (box d f) i
def Later (σ σ' : Ws) : Prop := ∃ x, σ'.checks = σ.checks ++ x ∧ (∀ c, c ∈ x → σ.st.length ≤ c.2.1 ∧ c.2.1 + c.2.2 ≤ σ'.st.length) ∧ x.Pairwise fun a b => a.2.1 + a.2.2 ≤ b.2.1
structure Keeps (σ σ' : Ws) : Prop where
  st : ∀ i, i < σ.st.length → σ'.st[i]? = σ.st[i]?
  ck : Later σ σ'
  len : σ.st.length ≤ σ'.st.length
  top : σ.st.length ≤ 65536 → σ'.st.length ≤ 65536
theorem Later.nil {σ σ' : Ws} (h : σ'.checks = σ.checks) : Later σ σ' := ⟨[], by rw [h, List.append_nil], fun _ h => absurd h (List.not_mem_nil), .nil⟩
theorem Later.refl (σ : Ws) : Later σ σ := .nil rfl
theorem Later.same {a b c : Ws} (h : Later a b) (hc : c.checks = b.checks) (hl : c.st.length = b.st.length) : Later a c := by
  obtain ⟨x, e, h1, h2⟩ := h
  exact ⟨x, by rw [hc, e], fun y hy => by rw [hl]; exact h1 y hy, h2⟩
theorem Later.trans {a b c : Ws} (h : Later a b) (g : Later b c) (hl : a.st.length ≤ b.st.length) (hm : b.st.length ≤ c.st.length) : Later a c := by
  obtain ⟨x, e1, h1, o1⟩ := h
  obtain ⟨y, e2, h2, o2⟩ := g
  refine ⟨x ++ y, by rw [e2, e1, List.append_assoc], fun z hz => ?_, List.pairwise_append.2 ⟨o1, o2, fun p hp q hq => Nat.le_trans (h1 p hp).2 (h2 q hq).1⟩⟩
  rcases List.mem_append.1 hz with hz | hz
  · exact ⟨(h1 z hz).1, Nat.le_trans (h1 z hz).2 hm⟩
  · exact ⟨Nat.le_trans hl (h2 z hz).1, (h2 z hz).2⟩
theorem Later.out {a b : Ws} (h : Later a b) {i : Nat} (hi : i < a.st.length) (hc : ¬ InC a.checks i) : ¬ InC b.checks i := by
  obtain ⟨x, e, h1, -⟩ := h
  rintro ⟨c, hm, h2, h3⟩
  rw [e] at hm
  rcases List.mem_append.1 hm with hm | hm
  · exact hc ⟨c, hm, h2, h3⟩
  · have := (h1 c hm).1; omega
theorem Later.sub {a b : Ws} (h : Later a b) {c : Ck} (hc : c ∈ a.checks) : c ∈ b.checks := by
  obtain ⟨x, e, -⟩ := h
  rw [e]
  exact List.mem_append_left _ hc
theorem Keeps.refl (σ : Ws) : Keeps σ σ := ⟨fun _ _ => rfl, .refl _, Nat.le_refl _, id⟩
theorem Keeps.trans {a b c : Ws} (h : Keeps a b) (g : Keeps b c) : Keeps a c :=
  ⟨fun i hi => (g.st i (Nat.lt_of_lt_of_le hi h.len)).trans (h.st i hi), h.ck.trans g.ck h.len g.len, Nat.le_trans h.len g.len, fun x => g.top (h.top x)⟩
abbrev KeepsS (sub : WSub) (id : Int) : Prop := ∀ σ σ', sub id σ = some σ' → Tame σ → Tame σ' ∧ Keeps σ σ'
theorem KeepsS.grows {sub : WSub} {id : Int} (h : KeepsS sub id) : Grows sub id := fun σ σ' e ht => ⟨(h σ σ' e ht).2.len, (h σ σ' e ht).1⟩
theorem wreps_keeps {sub : WSub} {id : Int} (h : KeepsS sub id) : ∀ n σ σ', wreps sub id n σ = some σ' → Tame σ → Tame σ' ∧ Keeps σ σ'
  | 0, σ, σ', e, ht => by
    rw [wreps] at e
    cases e
    exact ⟨ht, .refl _⟩
  | n + 1, σ, σ', e, ht => by
    rw [wreps, Option.bind_eq_some_iff] at e
    obtain ⟨σ1, e1, e2⟩ := e
    have h1 := h _ _ e1 ht
    have h2 := wreps_keeps h n σ1 σ' e2 h1.1
    exact ⟨h2.1, h1.2.trans h2.2⟩
theorem fill_eq {σ σ1 : Ws} {h : Nat × Nat} {n : Int} (e : fill σ h n = some σ1) : n < 256 ^ h.2 ∧ σ1 = { σ with st := patch σ.st h.1 (nbytes h.2 n) } := by
  unfold fill at e
  split at e
  · cases e
    exact ⟨by assumption, rfl⟩
  · cases e
structure StK (fs : List Fld) (k : Nat) (f : Fld) (d : Dr) (σ : Ws) (p : Rec.Left) : Prop where
  st : ∀ i, i < σ.st.length → ¬ (uses f ∧ inR (box d f) i) → p.2.2.st[i]? = σ.st[i]?
  ck : Later σ p.2.2
  box_ : p.2.1 = (0, 0) ∨ (f.kind = 2 ∧ waits fs k = true ∧ p.2.1 = (σ.st.length, f.n.toNat))
  top : σ.st.length ≤ 65536 → p.2.2.st.length ≤ 65536
theorem nextW_eq {σ σ0 : Ws} {x : ByteArray} (e : nextW σ = some (x, σ0)) : σ0 = { σ with vals := σ0.vals } ∧ σ.vals = x :: σ0.vals := by
  unfold nextW at e
  split at e
  · cases e
  · rename_i v t hv
    cases e
    exact ⟨rfl, hv⟩
theorem app_keep {a b : List UInt8} {i : Nat} (h : i < a.length) : (a ++ b)[i]? = a[i]? := List.getElem?_append_left h
theorem wkind_keep {L : List Fm} {N : Nat} {sub : WSub} {fs : List Fld} {start k : Nat} {f : Fld} {d : Dr} {σ : Ws} {p : Rec.Left} (hf : FOkW L N fs k f) (hl : d.lens.length = k) (hsub : f.kind = 4 ∨ f.kind = 5 → KeepsS sub f.n)
    (h : WIn fs start d σ) (e : wkind sub fs start k f d σ = some p) : StK fs k f d σ p := by
  unfold wkind at e
  split at e
  · rw [wtext, Option.map_eq_some_iff] at e
    obtain ⟨σ1, e1, rfl⟩ := e
    obtain ⟨rfl, h65⟩ := addW_st e1
    exact ⟨fun i hi _ => app_keep hi, .nil rfl, .inl rfl, fun _ => by show (σ.st ++ _).length ≤ 65536; rw [List.length_append]; first | exact h65 | (rw [n1] at h65; exact h65)⟩
  · split at e
    · rename_i h2
      split at e
      · rename_i hw
        rw [wwait, Option.map_eq_some_iff] at e
        obtain ⟨σ1, e1, rfl⟩ := e
        obtain ⟨rfl, h65⟩ := addW_st e1
        exact ⟨fun i hi _ => app_keep hi, .nil rfl, .inr ⟨h2, hw, rfl⟩, fun _ => by show (σ.st ++ _).length ≤ 65536; rw [List.length_append]; exact h65⟩
      · rw [wgiven, Option.bind_eq_some_iff] at e
        obtain ⟨⟨x, σ0⟩, e0, e⟩ := e
        simp only at e
        split at e
        · rw [Option.map_eq_some_iff] at e
          obtain ⟨σ1, e1, rfl⟩ := e
          obtain ⟨rfl, h65⟩ := addW_st e1
          obtain ⟨n1, n2⟩ := nextW_eq e0
          rw [n1]
          exact ⟨fun i hi _ => app_keep hi, .nil rfl, .inl rfl, fun _ => by show (σ.st ++ _).length ≤ 65536; rw [List.length_append]; first | exact h65 | (rw [n1] at h65; exact h65)⟩
        · cases e
    · split at e
      · rename_i h2 h3
        rw [wbytes, Option.bind_eq_some_iff] at e
        obtain ⟨⟨x, σ0⟩, e0, e⟩ := e
        rw [Option.bind_eq_some_iff] at e
        obtain ⟨σ1, e1, e⟩ := e
        obtain ⟨rfl, h65⟩ := addW_st e1
        obtain ⟨n1, n2⟩ := nextW_eq e0
        simp only at e
        rw [n1] at e
        split at e
        · split at e
          · cases e
            exact ⟨fun i hi _ => app_keep hi, .nil rfl, .inl rfl, fun _ => by show (σ.st ++ _).length ≤ 65536; rw [List.length_append]; first | exact h65 | (rw [n1] at h65; exact h65)⟩
          · cases e
        · rename_i hfm
          obtain ⟨q, hq, hqk, -, hw, hk2⟩ := (hf.k3 h3).resolve_left hfm
          rw [Option.map_eq_some_iff] at e
          obtain ⟨σ2, e4, rfl⟩ := e
          have hR := h.room q (by omega) hw hk2
          obtain ⟨-, rfl⟩ := fill_eq e4
          rw [hq, Int.toNat_natCast]
          refine ⟨fun i hi ho => ?_, .nil rfl, .inl rfl, fun _ => by
            show (patch (σ.st ++ x.data.toList) _ _).length ≤ 65536
            rw [patch_len _ _ _ (by rw [nbytes_len, List.length_append]; omega), List.length_append]
            rw [n1] at h65
            exact h65⟩
          show (patch (σ.st ++ x.data.toList) _ _)[i]? = _
          rw [patch_out (by rw [nbytes_len, List.length_append]; omega) ?_]
          · exact app_keep hi
          · rw [nbytes_len]
            apply Classical.byContradiction
            intro hn
            exact ho ⟨⟨by omega, by omega⟩, by unfold box inR; rw [hq, Int.toNat_natCast]; omega⟩
      · split at e
        · rename_i h2 h3 h4
          rw [wlist, Option.map_eq_some_iff] at e
          obtain ⟨σ1, e1, rfl⟩ := e
          obtain ⟨-, g⟩ := wreps_keeps (hsub (.inl h4)) _ _ _ e1 h.tame
          exact ⟨fun i hi _ => g.st i hi, g.ck, .inl rfl, g.top⟩
        · split at e
          · rename_i h2 h3 h4 h5
            rw [winside, Option.bind_eq_some_iff] at e
            obtain ⟨σ1, e1, e⟩ := e
            rw [Option.map_eq_some_iff] at e
            obtain ⟨σ2, e4, rfl⟩ := e
            obtain ⟨-, g⟩ := hsub (.inr h5) _ _ e1 h.tame
            obtain ⟨q, hq, hqk, -, hw, hk2⟩ := hf.k5 h5
            have hR := h.room q (by omega) hw hk2
            obtain ⟨-, rfl⟩ := fill_eq e4
            rw [hq, Int.toNat_natCast]
            have gl := g.len
            have hpl : (patch σ1.st (d.lens.getD q (0, 0)).1 (nbytes (d.lens.getD q (0, 0)).2 ((σ1.st.length : Int) - (σ.st.length : Nat)))).length = σ1.st.length := patch_len _ _ _ (by rw [nbytes_len]; omega)
            refine ⟨fun i hi ho => ?_, g.ck.same rfl hpl, .inl rfl, fun h => by
              show (patch σ1.st _ _).length ≤ 65536
              rw [hpl]
              exact g.top h⟩
            show (patch σ1.st _ _)[i]? = _
            rw [patch_out (by rw [nbytes_len]; omega) ?_]
            · exact g.st i hi
            · rw [nbytes_len]
              apply Classical.byContradiction
              intro hn
              exact ho ⟨⟨by omega, by omega⟩, by unfold box inR; rw [hq, Int.toNat_natCast]; omega⟩
          · rw [wcheck, Option.map_eq_some_iff] at e
            obtain ⟨σ1, e1, rfl⟩ := e
            obtain ⟨rfl, h65⟩ := addW_st e1
            refine ⟨fun i hi _ => app_keep hi, ⟨[(start, σ.st.length, f.n.toNat)], rfl, fun c hc => ?_, List.pairwise_singleton _ _⟩, .inl rfl, fun _ => by show (σ.st ++ _).length ≤ 65536; rw [List.length_append]; exact h65⟩
            rw [List.mem_singleton] at hc
            subst hc
            refine ⟨Nat.le_refl _, ?_⟩
            show σ.st.length + f.n.toNat ≤ (σ.st ++ List.replicate f.n.toNat (0 : UInt8)).length
            rw [List.length_append, List.length_replicate]
            exact Nat.le_refl _
theorem box_lt {d : Dr} {f : Fld} {i : Nat} (h : inR (box d f) i) : f.frm.toNat < d.lens.length := by
  apply Classical.byContradiction
  intro hn
  unfold box inR at h
  rw [List.getD_eq_getElem?_getD, List.getElem?_eq_none (by omega)] at h
  simp at h
theorem box_old {d : Dr} {f : Fld} {c : Int} {x : Nat × Nat} (h : f.frm.toNat < d.lens.length) : box ⟨d.counts ++ [c], d.lens ++ [x]⟩ f = box d f := by
  unfold box
  rw [List.getD_eq_getElem?_getD, List.getElem?_append_left h, ← List.getD_eq_getElem?_getD]
theorem box_new {d : Dr} {f : Fld} {c : Int} {x : Nat × Nat} (h : f.frm.toNat = d.lens.length) : box ⟨d.counts ++ [c], d.lens ++ [x]⟩ f = x := by
  unfold box
  rw [List.getD_eq_getElem?_getD, h, List.getElem?_concat_length]; rfl
/-- Below what has been written, a later box is an earlier one. -/
theorem StK.pend {fs : List Fld} {k : Nat} {f g : Fld} {d : Dr} {σ : Ws} {p : Rec.Left} (h : StK fs k f d σ p) {i : Nat} (hi : i < σ.st.length) (hg : inR (box ⟨d.counts ++ [p.1], d.lens ++ [p.2.1]⟩ g) i) : inR (box d g) i := by
  have hl := box_lt hg
  simp only [List.length_append, List.length_singleton] at hl
  rcases Nat.lt_or_ge g.frm.toNat d.lens.length with h1 | h1
  · rwa [box_old h1] at hg
  · rw [box_new (by omega)] at hg
    rcases h.box_ with e | ⟨-, -, e⟩
    · rw [e] at hg; unfold inR at hg; omega
    · rw [e] at hg; unfold inR at hg; simp only at hg; omega
theorem drop_cons {fs t : List Fld} {f : Fld} {k : Nat} (h : f :: t = fs.drop k) : k < fs.length ∧ f = fs.getD k zf ∧ t = fs.drop (k + 1) := by
  have hk : k < fs.length := by
    apply Classical.byContradiction
    intro hn
    rw [List.drop_eq_nil_of_le (by omega)] at h
    cases h
  rw [List.drop_eq_getElem_cons hk] at h
  injection h with h1 h2
  exact ⟨hk, by rw [List.getD_eq_getElem?_getD, List.getElem?_eq_getElem hk]; exact h1, h2⟩
theorem wnext_eq {sub : WSub} {fs : List Fld} {start k : Nat} {f : Fld} {d : Dr} {σ : Ws} {p : Rec.Left} (e : wnext sub fs start k f d σ = some p) : σ.parts < 5000 ∧ wkind sub fs start k f d { σ with parts := σ.parts + 1 } = some p := by
  unfold wnext at e
  split at e
  · exact ⟨by assumption, e⟩
  · cases e
theorem winMore {fs : List Fld} {start : Nat} {d : Dr} {σ : Ws} (h : WIn fs start d σ) : WIn fs start d { σ with parts := σ.parts + 1 } :=
  ⟨h.small, h.room, ⟨h.tame.short, Nat.le_trans h.tame.cnt (Nat.le_succ _), h.tame.each, h.tame.ord⟩, h.st⟩
/-- What a written value keeps of what lies before it, and of what its fields have left. -/
theorem wflds_keep {L : List Fm} {N : Nat} {sub : WSub} {fs : List Fld} {start : Nat} (hf : Good L N fs) (hsub : ∀ k, k < fs.length → (fs.getD k zf).kind = 4 ∨ (fs.getD k zf).kind = 5 → KeepsS sub (fs.getD k zf).n) :
    ∀ (t : List Fld) (k : Nat) (d : Dr) (σ σ' : Ws), t = fs.drop k → d.lens.length = k → WIn fs start d σ → wflds sub fs start t k d σ = some σ' →
      Tame σ' ∧ σ.st.length ≤ σ'.st.length ∧ Later σ σ' ∧ (σ.st.length ≤ 65536 → σ'.st.length ≤ 65536) ∧ ∀ i, i < σ.st.length → ¬ Pend d t i → σ'.st[i]? = σ.st[i]?
  | [], k, d, σ, σ', _, _, h, e => by
    rw [wflds] at e
    cases e
    exact ⟨h.tame, Nat.le_refl _, .refl _, id, fun _ _ _ => rfl⟩
  | f :: t, k, d, σ, σ', hd, hl, h, e => by
    obtain ⟨hk, rfl, ht⟩ := drop_cons hd
    rw [wflds, Option.bind_eq_some_iff] at e
    obtain ⟨p, e1, e2⟩ := e
    obtain ⟨g1, g2⟩ := wnext_out (hf.ok k hk) hl (fun hkd => (hsub k hk hkd).grows) h e1
    have hK := wkind_keep (hf.ok k hk) hl (hsub k hk) (winMore h) (wnext_eq e1).2
    obtain ⟨r1, r2, r3, r5, r4⟩ := wflds_keep hf hsub t (k + 1) _ _ σ' ht (by simp [hl]) g1 e2
    refine ⟨r1, Nat.le_trans g2 r2, (show Later σ p.2.2 from hK.ck).trans r3 g2 r2, fun h => r5 (hK.top h), fun i hi hp => ?_⟩
    rw [r4 i (Nat.lt_of_lt_of_le hi g2) ?_]
    · exact hK.st i hi fun hu => hp ⟨_, List.mem_cons_self .., hu.1, hu.2⟩
    · rintro ⟨g, hg, hu, hr⟩
      exact hp ⟨g, List.mem_cons_of_mem _ hg, hu, hK.pend hi hr⟩
theorem no_pend (t : List Fld) (i : Nat) : ¬ Pend ⟨[], []⟩ t i := by
  rintro ⟨f, _, _, h⟩
  exact absurd (box_lt h) (Nat.not_lt_zero _)
theorem wval_keeps {L : List Fm} (h : Ok L) : ∀ (n : Nat) (id : Int) (i : Nat), At L id i → i < n → KeepsS (wval L n) id
  | 0, _, _, _, hi => absurd hi (Nat.not_lt_zero _)
  | n + 1, id, i, hat, hi => fun σ σ' e ht => by
    have e : wflds (wval L n) (fieldsOf L id) σ.st.length (fieldsOf L id) 0 ⟨[], []⟩ σ = some σ' := e
    rw [fieldsOf_at h hat] at e
    obtain ⟨r1, r2, r3, r5, r4⟩ := wflds_keep (good_of h hat.1 (show i ≤ n by omega)) (fun k hk hkd => by
      obtain ⟨-, j, hj, hjn⟩ := (fokw_of h hat.1 (show i ≤ n by omega) hk).ok.k4 hkd
      exact wval_keeps h n _ j hj hjn) _ 0 ⟨[], []⟩ σ σ' rfl rfl (WIn.first ht) e
    exact ⟨r1, fun i hi => r4 i hi (no_pend _ _), r3, r2, r5⟩
end Rt
end RtA
section RtB
open Go.RowKit Fx Rec
namespace Rt

/-- The values of parts. -/
def valsOf (L : List Fm) (s : ByteArray) (ps : List Pt) : List ByteArray := (ps.filter fun p => givenB (fieldsOf L p.format) p.field.toNat).map fun p => s.extract p.start.toNat p.stop.toNat
theorem valsOf_app (L : List Fm) (s : ByteArray) (a b : List Pt) : valsOf L s (a ++ b) = valsOf L s a ++ valsOf L s b := by unfold valsOf; rw [List.filter_append, List.map_append]
theorem valsOf_yes {L : List Fm} {s : ByteArray} {p : Pt} {ps : List Pt} (h : givenB (fieldsOf L p.format) p.field.toNat = true) : valsOf L s (p :: ps) = s.extract p.start.toNat p.stop.toNat :: valsOf L s ps := by
  unfold valsOf
  rw [List.filter_cons_of_pos (by exact h), List.map_cons]
theorem valsOf_no {L : List Fm} {s : ByteArray} {p : Pt} {ps : List Pt} (h : givenB (fieldsOf L p.format) p.field.toNat = false) : valsOf L s (p :: ps) = valsOf L s ps := by
  unfold valsOf
  rw [List.filter_cons_of_neg (by rw [h]; decide)]
/-- Whether a field's number waits for a length. -/
def Wt (fs : List Fld) (q : Nat) : Prop := (fs.getD q zf).kind = 2 ∧ waits fs q = true
/-- What holds of a writer and a reader ahead of a field. -/
structure LInv (s : ByteArray) (fs : List Fld) (start k : Nat) (d : Dr) (σ : Ws) (nums : List Int) : Prop where
  lens : d.lens.length = k
  cnts : d.counts.length = k
  numl : nums.length = k
  win : WIn fs start d σ
  giv : ∀ q, q < k → (fs.getD q zf).kind = 2 → waits fs q = false → nums.getD q 0 = d.counts.getD q 0
  wai : ∀ q, q < k → Wt fs q → ∃ pos w, d.lens.getD q (0, 0) = (pos, w) ∧ start ≤ pos ∧ pos + w ≤ σ.st.length ∧ w = (fs.getD q zf).n.toNat ∧ nums.getD q 0 = numL (seg s.data.toList pos w) ∧ ∀ i, pos ≤ i → i < pos + w → ¬ InC σ.checks i
  ord : ∀ q q', q < q' → q' < k → Wt fs q → Wt fs q' → (d.lens.getD q (0, 0)).1 + (d.lens.getD q (0, 0)).2 ≤ (d.lens.getD q' (0, 0)).1
  els : ∀ q, q < k → ¬ Wt fs q → d.lens.getD q (0, 0) = (0, 0)
theorem getD_old {α : Type} {l : List α} {x z : α} {i : Nat} (h : i < l.length) : (l ++ [x]).getD i z = l.getD i z := by
  rw [List.getD_eq_getElem?_getD, List.getElem?_append_left h, ← List.getD_eq_getElem?_getD]
theorem getD_new {α : Type} {l : List α} {x z : α} {i : Nat} (h : i = l.length) : (l ++ [x]).getD i z = x := by
  rw [List.getD_eq_getElem?_getD, h, List.getElem?_concat_length]; rfl
theorem Later.clear {a b : Ws} (h : Later a b) {i : Nat} (hi : i < a.st.length) (hc : ¬ InC a.checks i) : ¬ InC b.checks i := h.out hi hc
theorem tame_clear {σ : Ws} (h : Tame σ) {i : Nat} (hi : σ.st.length ≤ i) : ¬ InC σ.checks i := by
  rintro ⟨c, hm, h1, h2⟩
  have := h.each c hm
  omega
theorem LInv.next {s : ByteArray} {fs : List Fld} {start k : Nat} {d : Dr} {σ : Ws} {nums : List Int} {p : Rec.Left} {n : Int} (h : LInv s fs start k d σ nums) (hK : StK fs k (fs.getD k zf) d σ p)
    (hw : WIn fs start ⟨d.counts ++ [p.1], d.lens ++ [p.2.1]⟩ p.2.2) (hlen : σ.st.length ≤ p.2.2.st.length)
    (hg : (fs.getD k zf).kind = 2 → waits fs k = false → n = p.1)
    (hn : Wt fs k → n = numL (seg s.data.toList σ.st.length (fs.getD k zf).n.toNat) ∧ p.2.1 = (σ.st.length, (fs.getD k zf).n.toNat) ∧ σ.st.length + (fs.getD k zf).n.toNat ≤ p.2.2.st.length ∧ p.2.2.checks = σ.checks) :
    LInv s fs start (k + 1) ⟨d.counts ++ [p.1], d.lens ++ [p.2.1]⟩ p.2.2 (nums ++ [n]) := by
  have hl := h.lens
  have hc := h.cnts
  have hm := h.numl
  refine ⟨by simp [hl], by simp [hc], by simp [hm], hw, fun q hq h2 hf => ?_, fun q hq hW => ?_, fun q q' hqq hq' h1 h2 => ?_, fun q hq hW => ?_⟩
  · show (nums ++ [n]).getD q 0 = (d.counts ++ [p.1]).getD q 0
    by_cases e : q = k
    · subst e
      rw [getD_new hm.symm, getD_new hc.symm]
      exact hg h2 hf
    · rw [getD_old (by omega), getD_old (by omega)]
      exact h.giv q (by omega) h2 hf
  · show ∃ pos w, (d.lens ++ [p.2.1]).getD q (0, 0) = (pos, w) ∧ _
    by_cases e : q = k
    · subst e
      obtain ⟨n1, n2, n3, n4⟩ := hn hW
      refine ⟨_, _, by rw [getD_new hl.symm, n2], h.win.st, n3, rfl, by rw [getD_new hm.symm]; exact n1, fun i hi _ => ?_⟩
      rw [n4]
      exact tame_clear h.win.tame hi
    · obtain ⟨pos, w, e1, e2, e3, e4, e5, e6⟩ := h.wai q (by omega) hW
      exact ⟨pos, w, by rw [getD_old (by omega), e1], e2, Nat.le_trans e3 hlen, e4, by rw [getD_old (by omega), e5], fun i h1 h2 => hK.ck.out (by omega) (e6 i h1 h2)⟩
  · show ((d.lens ++ [p.2.1]).getD q (0, 0)).1 + ((d.lens ++ [p.2.1]).getD q (0, 0)).2 ≤ ((d.lens ++ [p.2.1]).getD q' (0, 0)).1
    rw [getD_old (by omega)]
    by_cases e : q' = k
    · subst e
      rw [getD_new hl.symm, (hn h2).2.1]
      obtain ⟨pos, w, e1, e2, e3, _⟩ := h.wai q hqq h1
      rw [e1]
      exact e3
    · rw [getD_old (by omega)]
      exact h.ord q q' hqq (by omega) h1 h2
  · show (d.lens ++ [p.2.1]).getD q (0, 0) = (0, 0)
    by_cases e : q = k
    · subst e
      rw [getD_new hl.symm]
      rcases hK.box_ with e | ⟨h2, h3, _⟩
      · exact e
      · exact absurd ⟨h2, h3⟩ hW
    · rw [getD_old (by omega)]
      exact h.els q (by omega) hW
theorem LInv.first {s : ByteArray} {fs : List Fld} {σ : Ws} (h : Tame σ) : LInv s fs σ.st.length 0 ⟨[], []⟩ σ [] :=
  ⟨rfl, rfl, rfl, WIn.first h, fun _ hq => absurd hq (Nat.not_lt_zero _), fun _ hq => absurd hq (Nat.not_lt_zero _), fun _ _ _ hq => absurd hq (Nat.not_lt_zero _), fun _ hq => absurd hq (Nat.not_lt_zero _)⟩
/-- What the stream has of what is written, but for what is still to come. -/
def Ag (s : ByteArray) (start : Nat) (d : Dr) (t : List Fld) (σ : Ws) : Prop := ∀ i, start ≤ i → i < σ.st.length → ¬ InC σ.checks i → ¬ Pend d t i → s.data.toList[i]? = σ.st[i]?
/-- The box of a field whose number waits is its own. -/
theorem LInv.own {s : ByteArray} {L : List Fm} {N : Nat} {fs : List Fld} {start k q : Nat} {d : Dr} {σ : Ws} {nums : List Int} (hG : Good L N fs) (h : LInv s fs start k d σ nums) (hk : k < fs.length) (hq : q < k) (hfr : (fs.getD k zf).frm = (q : Int)) (hW : Wt fs q)
    {x : Int} {i : Nat} (hi : inR (d.lens.getD q (0, 0)) i) : ¬ Pend ⟨d.counts ++ [x], d.lens ++ [(0, 0)]⟩ (fs.drop (k + 1)) i := by
  rintro ⟨g, hg, hu, hr⟩
  have hl := h.lens
  have h9 := box_lt hr
  simp only [List.length_append, List.length_singleton] at h9
  obtain ⟨j, hj, e⟩ := List.getElem_of_mem hg
  rw [List.length_drop] at hj
  rw [List.getElem_drop] at e
  have e2 : fs.getD (k + 1 + j) zf = g := by rw [List.getD_eq_getElem?_getD, List.getElem?_eq_getElem (by omega)]; exact e
  rcases Nat.lt_or_ge g.frm.toNat d.lens.length with h1 | h1
  · rw [box_old h1] at hr
    have hne : g.frm.toNat ≠ q := fun e3 => by
      have := hG.only (j := k) (k := k + 1 + j) hk (by omega) (by rw [e2]; exact hu.1) (by rw [e2, hfr]; have := hu.1; omega)
      omega
    have hW2 : Wt fs g.frm.toNat := by
      apply Classical.byContradiction
      intro hn
      have := h.els g.frm.toNat (by omega) hn
      unfold box at hr
      rw [this] at hr
      unfold inR at hr; omega
    unfold box at hr
    unfold inR at hr hi
    rcases Nat.lt_or_ge g.frm.toNat q with h2 | h2
    · have := h.ord _ _ h2 hq hW2 hW; omega
    · have := h.ord _ _ (Nat.lt_of_le_of_ne h2 (Ne.symm hne)) (by omega) hW hW2; omega
  · rw [box_new (by omega)] at hr
    unfold inR at hr; omega
/-- Behind what was written, nothing waits. -/
theorem LInv.fresh {s : ByteArray} {fs : List Fld} {start k : Nat} {d : Dr} {σ : Ws} {nums : List Int} (h : LInv s fs start k d σ nums) {x : Int} {t : List Fld} {i : Nat} (hi : σ.st.length ≤ i) : ¬ Pend ⟨d.counts ++ [x], d.lens ++ [(0, 0)]⟩ t i := by
  rintro ⟨g, hg, hu, hr⟩
  have hl := h.lens
  have h9 := box_lt hr
  simp only [List.length_append, List.length_singleton] at h9
  rcases Nat.lt_or_ge g.frm.toNat d.lens.length with h1 | h1
  · rw [box_old h1] at hr
    unfold box at hr
    by_cases hW : Wt fs g.frm.toNat
    · obtain ⟨pos, w, e1, e2, e3, _⟩ := h.wai g.frm.toNat (by omega) hW
      rw [e1] at hr
      unfold inR at hr; simp only at hr; omega
    · rw [h.els g.frm.toNat (by omega) hW] at hr
      unfold inR at hr; omega
  · rw [box_new (by omega)] at hr
    unfold inR at hr; omega
/-- What comes of reading a value that was written. -/
abbrev FS (L : List Fm) (s : ByteArray) (sub : WSub) (rsub : Sub) (id : Int) : Prop := ∀ σ σ', sub id σ = some σ' → Tame σ → Fits s.data.toList σ.st.length σ' → ∀ depth limit, σ'.st.length ≤ limit → limit ≤ s.size →
  ∃ ps, rsub id depth σ.st.length limit σ.parts = .ok (σ'.st.length, ps) ∧ σ'.parts = σ.parts + ps.length ∧ σ.vals = valsOf L s ps ++ σ'.vals
theorem reps_front {sub : Sub} {id depth : Int} {limit : Nat} : ∀ (n at_ cnt : Nat), reps sub id depth limit at_ cnt (n + 1) =
    match sub id depth at_ limit cnt with
    | .error r => .error r
    | .ok (e, ps) => match reps sub id depth limit e (cnt + ps.length) n with
      | .error r => .error r
      | .ok (e', qs) => .ok (e', ps ++ qs)
  | 0, at_, cnt => by
    rw [reps, reps]
    simp only [List.length_nil, Nat.add_zero, List.nil_append]
    cases sub id depth at_ limit cnt with
    | error r => rfl
    | ok y => obtain ⟨e, ps⟩ := y; simp [reps]
  | n + 1, at_, cnt => by
    rw [reps, reps_front n at_ cnt]
    cases sub id depth at_ limit cnt with
    | error r => rfl
    | ok y =>
      obtain ⟨e, ps⟩ := y
      simp only
      rw [reps]
      cases reps sub id depth limit e (cnt + ps.length) n with
      | error r => rfl
      | ok y =>
        obtain ⟨e', qs⟩ := y
        simp only [List.length_append]
        rw [← Nat.add_assoc]
        cases sub id depth e' limit (cnt + ps.length + qs.length) with
        | error r => rfl
        | ok y => obtain ⟨e2, rs⟩ := y; simp
theorem fits_part {S : List UInt8} {lo : Nat} {a b : Ws} (h : Fits S lo b) (hk : Keeps a b) : Fits S lo a :=
  ⟨fun i h1 h2 h3 => (h.st i h1 (Nat.lt_of_lt_of_le h2 hk.len) (hk.ck.out h2 h3)).trans (hk.st i h2), fun c hc => h.ck c (hk.ck.sub hc)⟩
theorem fits_up {S : List UInt8} {lo hi : Nat} {a : Ws} (h : Fits S lo a) (hl : lo ≤ hi) : Fits S hi a :=
  ⟨fun i h1 => h.st i (Nat.le_trans hl h1), fun c hc h1 => h.ck c hc (Nat.le_trans hl h1)⟩
theorem fwd_reps {L : List Fm} {s : ByteArray} {sub : WSub} {rsub : Sub} {id : Int} (h : FS L s sub rsub id) (hk : KeepsS sub id) : ∀ n σ σ', wreps sub id n σ = some σ' → Tame σ → Fits s.data.toList σ.st.length σ' → ∀ depth limit, σ'.st.length ≤ limit → limit ≤ s.size →
    ∃ ps, reps rsub id depth limit σ.st.length σ.parts n = .ok (σ'.st.length, ps) ∧ σ'.parts = σ.parts + ps.length ∧ σ.vals = valsOf L s ps ++ σ'.vals
  | 0, σ, σ', e, ht, hF, depth, limit, hl, hl2 => by
    rw [wreps] at e
    cases e
    exact ⟨[], rfl, rfl, rfl⟩
  | n + 1, σ, σ', e, ht, hF, depth, limit, hl, hl2 => by
    rw [wreps, Option.bind_eq_some_iff] at e
    obtain ⟨σ1, e1, e2⟩ := e
    obtain ⟨t1, k1⟩ := hk _ _ e1 ht
    obtain ⟨t2, k2⟩ := wreps_keeps hk _ _ _ e2 t1
    obtain ⟨ps, a1, a2, a3⟩ := h σ σ1 e1 ht (fits_part hF k2) depth limit (Nat.le_trans k2.len hl) hl2
    obtain ⟨qs, b1, b2, b3⟩ := fwd_reps h hk n σ1 σ' e2 t1 (fits_up hF k1.len) depth limit hl hl2
    refine ⟨ps ++ qs, ?_, by rw [List.length_append]; omega, by rw [valsOf_app, List.append_assoc, ← b3]; exact a3⟩
    rw [reps_front, a1]
    simp only
    rw [← a2, b1]
theorem told_eq {f : Fld} {nums : List Int} {q : Nat} (h : f.frm = (q : Int)) : told f nums = (nums.getD q 0).toNat := by unfold told; rw [h, Int.toNat_natCast]
theorem pow_eq (n : Int) : pow n = 256 ^ n.toNat := rfl
theorem short_yes {id : Int} {k a l n : Nat} {x : Except Rf (Nat × Int × List Pt)} (h : a + n ≤ l) : short id k a l n x = x := by unfold short; rw [if_neg (by omega)]
/-- Bytes that were added are in the stream. -/
theorem added {s : ByteArray} {fs : List Fld} {start k : Nat} {d : Dr} {σ : Ws} {nums : List Int} {x : Int} {b : List UInt8} {t : List Fld} {ck : List Ck} {st' : List UInt8} (h : LInv s fs start k d σ nums)
    (hA : ∀ i, start ≤ i → i < σ.st.length + b.length → ¬ InC ck i → ¬ Pend ⟨d.counts ++ [x], d.lens ++ [(0, 0)]⟩ t i → s.data.toList[i]? = st'[i]?) (hck : ck = σ.checks) (hst : ∀ i, i < b.length → st'[σ.st.length + i]? = b[i]?) :
    ∀ i, i < b.length → s.data.toList[σ.st.length + i]? = b[i]? := fun i hi => by
  rw [hA (σ.st.length + i) (by have := h.win.st; omega) (by omega) (by rw [hck]; exact tame_clear h.win.tame (by omega)) (h.fresh (by omega))]
  exact hst i hi
theorem app_new {a b : List UInt8} (i : Nat) : (a ++ b)[a.length + i]? = b[i]? := by
  rw [List.getElem?_append_right (by omega)]
  congr 1
  omega
/-- A length that was filled in is what the stream says. -/
theorem filled {s : ByteArray} {L : List Fm} {N : Nat} {fs : List Fld} {start k q : Nat} {d : Dr} {σ : Ws} {nums : List Int} {x : Int} {st st' : List UInt8} {ck : List Ck} {n : Nat} (hG : Good L N fs) (h : LInv s fs start k d σ nums) (hk : k < fs.length) (hq : q < k) (hfr : (fs.getD k zf).frm = (q : Int)) (hW : Wt fs q)
    (hst : σ.st.length ≤ st.length) (hn : (n : Int) < 256 ^ (d.lens.getD q (0, 0)).2) (hst' : st' = patch st (d.lens.getD q (0, 0)).1 (nbytes (d.lens.getD q (0, 0)).2 n))
    (hck : ∀ i, i < σ.st.length → ¬ InC σ.checks i → ¬ InC ck i)
    (hA : ∀ i, start ≤ i → i < st'.length → ¬ InC ck i → ¬ Pend ⟨d.counts ++ [x], d.lens ++ [(0, 0)]⟩ (fs.drop (k + 1)) i → s.data.toList[i]? = st'[i]?) : told (fs.getD k zf) nums = n := by
  obtain ⟨pos, w, e1, e2, e3, e4, e5, e6⟩ := h.wai q hq hW
  have ho : ∀ i, inR (pos, w) i → ¬ Pend ⟨d.counts ++ [x], d.lens ++ [(0, 0)]⟩ (fs.drop (k + 1)) i := fun i hi => h.own hG hk hq hfr hW (by rw [e1]; exact hi)
  rw [e1] at hn hst'
  simp only at hn hst'
  have hlen : st'.length = st.length := by rw [hst']; exact patch_len _ _ _ (by rw [nbytes_len]; omega)
  rw [told_eq hfr, e5]
  have hs : seg s.data.toList pos w = nbytes w n := by
    rw [show nbytes w (n : Int) = seg (nbytes w n) 0 w by
      have := seg_all (nbytes w (n : Int)); rw [nbytes_len] at this; exact this.symm]
    refine seg_ext fun i hi => ?_
    rw [hA (pos + i) (by omega) (by omega) (hck _ (by omega) (e6 _ (by omega) (by omega))) (ho _ ⟨by show pos ≤ _; omega, by show _ < pos + w; omega⟩), hst', Nat.zero_add]
    exact patch_in (by rw [nbytes_len]; omega) (by rw [nbytes_len]; exact hi)
  rw [hs, num_nbytes w n (by omega) hn, Int.toNat_natCast]
set_option maxHeartbeats 1000000 in
theorem fwd_kind {L : List Fm} {N : Nat} {sub : WSub} {rsub : Sub} {fs : List Fld} {s : ByteArray} {start k : Nat} {d : Dr} {σ : Ws} {nums : List Int} {p : Rec.Left} {id depth : Int} {limit : Nat} (hG : Good L N fs) (hk : k < fs.length) (hI : LInv s fs start k d σ nums) (hid : fieldsOf L id = fs)
    (hsub : (fs.getD k zf).kind = 4 ∨ (fs.getD k zf).kind = 5 → KeepsS sub (fs.getD k zf).n ∧ FS L s sub rsub (fs.getD k zf).n)
    (e : wkind sub fs start k (fs.getD k zf) d { σ with parts := σ.parts + 1 } = some p)
    (hA : Ag s start ⟨d.counts ++ [p.1], d.lens ++ [p.2.1]⟩ (fs.drop (k + 1)) p.2.2) (hC : ∀ c, c ∈ p.2.2.checks → start ≤ c.2.1 → chk s.data.toList c) (hl : p.2.2.st.length ≤ limit) (hl2 : limit ≤ s.size) :
    ∃ n qs, kind s rsub id depth start limit k (fs.getD k zf) nums σ.st.length (σ.parts + 1) = .ok (p.2.2.st.length, n, qs) ∧ p.2.2.parts = σ.parts + 1 + qs.length ∧ σ.vals = valsOf L s (⟨depth, id, k, σ.st.length, p.2.2.st.length, n⟩ :: qs) ++ p.2.2.vals ∧
      ((fs.getD k zf).kind = 2 → waits fs k = false → n = p.1) ∧
      (Wt fs k → n = numL (seg s.data.toList σ.st.length (fs.getD k zf).n.toNat) ∧ p.2.1 = (σ.st.length, (fs.getD k zf).n.toNat) ∧ σ.st.length + (fs.getD k zf).n.toNat ≤ p.2.2.st.length ∧ p.2.2.checks = σ.checks) := by
  have hgiv := hG.given k
  have hlo := (hG.ok k hk).ok.lo
  have hhi := (hG.ok k hk).ok.hi
  have hk2 := (hG.ok k hk).ok.k2
  have hk3 := (hG.ok k hk).k3
  have hk5 := (hG.ok k hk).k5
  have hl4 := hG.at4 k hk
  have hno : ∀ e n qs, givenB fs k = false → valsOf L s (⟨depth, id, (k : Int), (σ.st.length : Nat), (e : Nat), n⟩ :: qs) = valsOf L s qs := fun e n qs h => valsOf_no (by show givenB (fieldsOf L id) (k : Int).toNat = false; rw [hid, Int.toNat_natCast]; exact h)
  have hyes : ∀ (e : Nat) n, givenB fs k = true → valsOf L s (⟨depth, id, (k : Int), (σ.st.length : Nat), (e : Nat), n⟩ :: []) = [s.extract σ.st.length e] := fun e n h => by
    rw [valsOf_yes (by show givenB (fieldsOf L id) (k : Int).toNat = true; rw [hid, Int.toNat_natCast]; exact h)]
    rfl
  obtain ⟨f, hf⟩ : ∃ f, f = fs.getD k zf := ⟨_, rfl⟩
  unfold Wt
  rw [← hf] at hsub e hgiv hlo hhi hk2 hk3 hk5 hl4 ⊢
  unfold wkind at e
  unfold kind
  split at e
  · rename_i h1
    rw [if_pos h1]
    rw [wtext, Option.map_eq_some_iff] at e
    obtain ⟨σ1, e1, rfl⟩ := e
    obtain ⟨rfl, -⟩ := addW_st e1
    have hln : (σ.st ++ f.text.data.toList).length = σ.st.length + f.text.size := by rw [List.length_append, size_list]
    have hx := ext_of (s := s) (v := f.text) (a := σ.st.length) (by
      have := added (ck := σ.checks) (st' := σ.st ++ f.text.data.toList) (b := f.text.data.toList) hI (fun i g1 g2 => hA i g1 (by show i < (σ.st ++ f.text.data.toList).length; rw [List.length_append]; exact g2)) rfl (fun i _ => app_new i)
      rw [size_list] at this
      exact this)
    refine ⟨0, [], ?_, rfl, ?_, fun h => absurd h (by omega), fun h => absurd h.1 (by omega)⟩
    · have hl' : σ.st.length + f.text.size ≤ limit := by rw [← hln]; exact hl
      rw [short_yes hl', hx, unlessB, if_pos (by simp)]
      show _ = Except.ok ((σ.st ++ f.text.data.toList).length, 0, [])
      rw [hln]
    · rw [hno _ _ _ (by rw [hgiv, if_neg (by omega), if_neg (by omega)])]
      rfl
  · rename_i h1
    rw [if_neg h1]
    split at e
    · rename_i h2
      rw [if_pos h2]
      have hn := hk2 (.inl h2)
      split at e
      · rename_i hw
        rw [wwait, Option.map_eq_some_iff] at e
        obtain ⟨σ1, e1, rfl⟩ := e
        obtain ⟨rfl, -⟩ := addW_st e1
        have hln : (σ.st ++ List.replicate f.n.toNat (0 : UInt8)).length = σ.st.length + f.n.toNat := by rw [List.length_append, List.length_replicate]
        have hl' : σ.st.length + f.n.toNat ≤ limit := by rw [← hln]; exact hl
        refine ⟨num (s.extract σ.st.length (σ.st.length + f.n.toNat)), [], ?_, rfl, ?_, fun _ h => absurd (hw.symm.trans h) (by decide), fun _ => ⟨num_seg _ _ _, rfl, Nat.le_of_eq hln.symm, rfl⟩⟩
        · rw [short_yes hl']
          show _ = Except.ok ((σ.st ++ List.replicate f.n.toNat (0 : UInt8)).length, _, [])
          rw [hln]
        · rw [hno _ _ _ (by rw [hgiv, if_neg (by omega), if_pos h2, hw]; rfl)]
          rfl
      · rename_i hw
        have hw : waits fs k = false := by simpa using hw
        rw [wgiven, Option.bind_eq_some_iff] at e
        obtain ⟨⟨x, σ0⟩, e0, e⟩ := e
        simp only at e
        split at e
        · rename_i hxs
          rw [Option.map_eq_some_iff] at e
          obtain ⟨σ1, e1, rfl⟩ := e
          obtain ⟨rfl, -⟩ := addW_st e1
          obtain ⟨n1, n2⟩ := nextW_eq e0
          rw [n1] at hA hl ⊢
          have hln : (σ.st ++ x.data.toList).length = σ.st.length + x.size := by rw [List.length_append, size_list]
          have hxn : x.size = f.n.toNat := by omega
          have hx := ext_of (s := s) (v := x) (a := σ.st.length) (by
            have := added (ck := σ.checks) (st' := σ.st ++ x.data.toList) (b := x.data.toList) hI (fun i g1 g2 => hA i g1 (by show i < (σ.st ++ x.data.toList).length; rw [List.length_append]; exact g2)) rfl (fun i _ => app_new i)
            rw [size_list] at this
            exact this)
          have hl' : σ.st.length + f.n.toNat ≤ limit := by rw [← hxn, ← hln]; exact hl
          refine ⟨num x, [], ?_, rfl, ?_, fun _ _ => rfl, fun h => absurd (hw.symm.trans h.2) (by decide)⟩
          · rw [short_yes hl', ← hxn, hx]
            show _ = Except.ok ((σ.st ++ x.data.toList).length, _, [])
            rw [hln]
          · rw [hyes _ _ (by rw [hgiv, if_neg (by omega), if_pos h2, hw]; rfl)]
            show σ.vals = [s.extract σ.st.length (σ.st ++ x.data.toList).length] ++ σ0.vals
            rw [hln, hx]
            exact n2
        · cases e
    · rename_i h2
      rw [if_neg h2]
      split at e
      · rename_i h3
        rw [if_pos h3]
        rw [wbytes, Option.bind_eq_some_iff] at e
        obtain ⟨⟨x, σ0⟩, e0, e⟩ := e
        rw [Option.bind_eq_some_iff] at e
        obtain ⟨σ1, e1, e⟩ := e
        obtain ⟨rfl, -⟩ := addW_st e1
        obtain ⟨n1, n2⟩ := nextW_eq e0
        simp only at e
        rw [n1] at e
        have hln : (σ.st ++ x.data.toList).length = σ.st.length + x.size := by rw [List.length_append, size_list]
        split at e
        · rename_i hfm
          rw [if_pos hfm]
          split at e
          · rename_i hxs
            cases e
            have hxn : x.size = f.n.toNat := by omega
            have hx := ext_of (s := s) (v := x) (a := σ.st.length) (by
              have := added (ck := σ.checks) (st' := σ.st ++ x.data.toList) (b := x.data.toList) hI (fun i g1 g2 => hA i g1 (by show i < (σ.st ++ x.data.toList).length; rw [List.length_append]; exact g2)) rfl (fun i _ => app_new i)
              rw [size_list] at this
              exact this)
            have hl' : σ.st.length + f.n.toNat ≤ limit := by rw [← hxn, ← hln]; exact hl
            refine ⟨0, [], ?_, rfl, ?_, fun h => absurd h (by omega), fun h => absurd h.1 (by omega)⟩
            · rw [short_yes hl', ← hxn]
              show _ = Except.ok ((σ.st ++ x.data.toList).length, 0, [])
              rw [hln]
            · rw [hyes _ _ (by rw [hgiv, if_pos h3])]
              show σ.vals = [s.extract σ.st.length (σ.st ++ x.data.toList).length] ++ σ0.vals
              rw [hln, hx]
              exact n2
          · cases e
        · rename_i hfm
          rw [if_neg hfm]
          obtain ⟨q, hq, hqk, -, hw, hq2⟩ := (hk3 h3).resolve_left hfm
          rw [Option.map_eq_some_iff] at e
          obtain ⟨σ2, e4, rfl⟩ := e
          rw [hq, Int.toNat_natCast] at e4
          obtain ⟨hn, rfl⟩ := fill_eq e4
          have hW : Wt fs q := ⟨hq2, hw⟩
          obtain ⟨pos, w, p1, p2, p3, -, -, p6⟩ := hI.wai q hqk hW
          have ht := filled (s := s) (ck := σ.checks) (st := σ.st ++ x.data.toList) (st' := patch (σ.st ++ x.data.toList) (d.lens.getD q (0, 0)).1 (nbytes (d.lens.getD q (0, 0)).2 x.size)) hG hI hk hqk (by rw [← hf]; exact hq) hW (by rw [hln]; omega) hn rfl (fun i _ h => h) hA
          rw [← hf] at ht
          have hlp : (patch (σ.st ++ x.data.toList) (d.lens.getD q (0, 0)).1 (nbytes (d.lens.getD q (0, 0)).2 x.size)).length = σ.st.length + x.size := by rw [patch_len _ _ _ (by rw [nbytes_len, p1, hln]; simp only; omega), hln]
          have hx := ext_of (s := s) (v := x) (a := σ.st.length) (by
            have := added (ck := σ.checks) (st' := patch (σ.st ++ x.data.toList) (d.lens.getD q (0, 0)).1 (nbytes (d.lens.getD q (0, 0)).2 x.size)) (b := x.data.toList) hI (fun i g1 g2 => hA i g1 (by show i < (patch (σ.st ++ x.data.toList) (d.lens.getD q (0, 0)).1 (nbytes (d.lens.getD q (0, 0)).2 x.size)).length; rw [hlp, ← size_list]; exact g2)) rfl (fun i _ => by
              rw [patch_out (by rw [nbytes_len, p1, hln]; simp only; omega) (.inr (by rw [nbytes_len, p1]; simp only; omega))]; exact app_new i)
            rw [size_list] at this
            exact this)
          have hl' : σ.st.length + x.size ≤ limit := by rw [← hlp]; exact hl
          refine ⟨0, [], ?_, rfl, ?_, fun h => absurd h (by omega), fun h => absurd h.1 (by omega)⟩
          · rw [ht, short_yes hl']
            show _ = Except.ok ((patch (σ.st ++ x.data.toList) (d.lens.getD q (0, 0)).1 (nbytes (d.lens.getD q (0, 0)).2 x.size)).length, 0, [])
            rw [hlp]
          · rw [hyes _ _ (by rw [hgiv, if_pos h3])]
            show σ.vals = [s.extract σ.st.length (patch (σ.st ++ x.data.toList) (d.lens.getD q (0, 0)).1 (nbytes (d.lens.getD q (0, 0)).2 x.size)).length] ++ σ0.vals
            rw [hlp, hx]
            exact n2
      · rename_i h3
        rw [if_neg h3]
        split at e
        · rename_i h4
          rw [if_pos h4]
          rw [wlist, Option.map_eq_some_iff] at e
          obtain ⟨σ1, e1, rfl⟩ := e
          obtain ⟨q, hq, hqk, hq2⟩ := hl4 h4
          have hwq := hG.list hk (by rw [← hf]; exact h4) (by rw [← hf]; exact hq)
          obtain ⟨hks, hfs⟩ := hsub (.inl h4)
          obtain ⟨t1, k1⟩ := wreps_keeps hks _ _ _ e1 (winMore hI.win).tame
          rw [hq, Int.toNat_natCast, ← hI.giv q hqk hq2 hwq] at e1
          have hF : Fits s.data.toList σ.st.length σ1 := ⟨fun i g1 g2 g3 => hA i (Nat.le_trans hI.win.st g1) g2 g3 (hI.fresh g1), fun c hc g1 => hC c hc (Nat.le_trans hI.win.st g1)⟩
          obtain ⟨ps, a1, a2, a3⟩ := fwd_reps hfs hks _ _ _ e1 (winMore hI.win).tame hF (depth + 1) limit hl hl2
          refine ⟨((told f nums : Nat) : Int), ps, ?_, a2, ?_, fun h => absurd h (by omega), fun h => absurd h.1 (by omega)⟩
          · rw [told_eq hq, show reps rsub f.n (depth + 1) limit σ.st.length (σ.parts + 1) (nums.getD q 0).toNat = _ from a1]
            rfl
          · rw [hno _ _ _ (by rw [hgiv, if_neg (by omega), if_neg (by omega)])]
            exact a3
        · rename_i h4
          rw [if_neg h4]
          split at e
          · rename_i h5
            rw [if_pos h5]
            rw [winside, Option.bind_eq_some_iff] at e
            obtain ⟨σ1, e1, e⟩ := e
            rw [Option.map_eq_some_iff] at e
            obtain ⟨σ2, e4, rfl⟩ := e
            obtain ⟨q, hq, hqk, -, hw, hq2⟩ := hk5 h5
            obtain ⟨hks, hfs⟩ := hsub (.inr h5)
            obtain ⟨t1, k1⟩ := hks _ _ e1 (winMore hI.win).tame
            have kl : σ.st.length ≤ σ1.st.length := k1.len
            rw [hq, Int.toNat_natCast] at e4
            rw [show ((σ1.st.length : Int) - (σ.st.length : Nat)) = ((σ1.st.length - σ.st.length : Nat) : Int) by omega] at e4
            obtain ⟨hn, rfl⟩ := fill_eq e4
            have hW : Wt fs q := ⟨hq2, hw⟩
            obtain ⟨pos, w, p1, p2, p3, -, -, p6⟩ := hI.wai q hqk hW
            have hlp : (patch σ1.st (d.lens.getD q (0, 0)).1 (nbytes (d.lens.getD q (0, 0)).2 ((σ1.st.length - σ.st.length : Nat) : Int))).length = σ1.st.length := by rw [patch_len _ _ _ (by rw [nbytes_len, p1]; simp only; omega)]
            have ht := filled (s := s) (ck := σ1.checks) (st := σ1.st) (st' := patch σ1.st (d.lens.getD q (0, 0)).1 (nbytes (d.lens.getD q (0, 0)).2 ((σ1.st.length - σ.st.length : Nat) : Int))) hG hI hk hqk (by rw [← hf]; exact hq) hW kl hn rfl (fun i g1 g2 => k1.ck.out g1 g2) hA
            rw [← hf] at ht
            have hF : Fits s.data.toList σ.st.length σ1 := ⟨fun i g1 g2 g3 => by
              rw [hA i (Nat.le_trans hI.win.st g1) (by show i < (patch σ1.st _ _).length; rw [hlp]; exact g2) g3 (hI.fresh g1)]
              exact patch_out (by rw [nbytes_len, p1]; simp only; omega) (.inr (by rw [nbytes_len, p1]; simp only; omega)), fun c hc g1 => hC c hc (Nat.le_trans hI.win.st g1)⟩
            have hl' : σ1.st.length ≤ limit := by rw [← hlp]; exact hl
            obtain ⟨ps, a1, a2, a3⟩ := hfs _ _ e1 (winMore hI.win).tame hF (depth + 1) σ1.st.length (Nat.le_refl _) (by omega)
            have hlt : σ.st.length + (σ1.st.length - σ.st.length) = σ1.st.length := by omega
            refine ⟨0, ps, ?_, a2, ?_, fun h => absurd h (by omega), fun h => absurd h.1 (by omega)⟩
            · rw [ht, hlt, short_yes (by omega), show rsub f.n (depth + 1) σ.st.length σ1.st.length (σ.parts + 1) = _ from a1]
              unfold boxed
              simp only
              rw [if_neg (by omega)]
              show _ = Except.ok ((patch σ1.st _ _).length, 0, ps)
              rw [hlp]
            · rw [hno _ _ _ (by rw [hgiv, if_neg (by omega), if_neg (by omega)])]
              exact a3
          · rename_i h5
            rw [if_neg h5]
            have h6 : f.kind = 6 := by omega
            have hn := hk2 (.inr h6)
            rw [wcheck, Option.map_eq_some_iff] at e
            obtain ⟨σ1, e1, rfl⟩ := e
            obtain ⟨rfl, -⟩ := addW_st e1
            have hln : (σ.st ++ List.replicate f.n.toNat (0 : UInt8)).length = σ.st.length + f.n.toNat := by rw [List.length_append, List.length_replicate]
            have hl' : σ.st.length + f.n.toNat ≤ limit := by rw [← hln]; exact hl
            have hc := hC (start, σ.st.length, f.n.toNat) (List.mem_append_right _ (List.mem_singleton.2 rfl)) hI.win.st
            have hnum : num (s.extract σ.st.length (σ.st.length + f.n.toNat)) = (sumTo s σ.st.length - sumTo s start) % pow f.n := by
              unfold chk at hc
              simp only at hc
              rw [num_seg, hc, pow_eq]
              have hp : (0 : Int) < 256 ^ f.n.toNat := Int.pow_pos (by decide)
              rw [num_nbytes _ _ (Int.emod_nonneg _ (by omega)) (Int.emod_lt_of_pos _ hp)]
              rfl
            refine ⟨num (s.extract σ.st.length (σ.st.length + f.n.toNat)), [], ?_, rfl, ?_, fun h => absurd h (by omega), fun h => absurd h.1 (by omega)⟩
            · rw [short_yes hl', unlessB, if_pos (by simpa using hnum)]
              show _ = Except.ok ((σ.st ++ List.replicate f.n.toNat (0 : UInt8)).length, _, [])
              rw [hln]
            · rw [hno _ _ _ (by rw [hgiv, if_neg (by omega), if_neg (by omega)])]
              rfl
end Rt
end RtB
end Go.Proofs.YtdndmhlmbpgdeaaGreatDoor
