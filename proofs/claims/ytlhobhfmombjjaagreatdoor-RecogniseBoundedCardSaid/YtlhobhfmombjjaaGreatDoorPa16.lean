/- Fields of valid tables are right; the numbers of parts are small. No condition of its own. What holds while values are written: plain facts. No condition of its own. The sums of the stream that is being written; a checksum is laid. Conditions: the writer lies in memory, the checksum lies in the stream, nothing behind its place has been summed. -/
import Derived.Test.YtlhobhfmombjjaaGreatDoorPa15
import Derived.Test.YtlhobhfmombjjaaGreatDoorPa14
namespace Go.Proofs.YtlhobhfmombjjaaGreatDoor
section RecO
open Go.RowKit Fx Rec

theorem knows_at {d : List Fm} {id : Int} (h : knows (lm d) id = true) : ∃ j, At d id j := by
  obtain ⟨r, rfl⟩ : ∃ r : List Fm, d = r.reverse := ⟨d.reverse, by simp⟩
  induction r with
  | nil => unfold knows at h; simp [lm, lk_nil] at h
  | cons f t ih =>
    rw [List.reverse_cons] at h ⊢
    rw [lm_snoc] at h
    unfold knows at h
    rw [lk_cons] at h
    split at h
    · rename_i he
      refine ⟨t.reverse.length, by simp, ?_⟩
      rw [List.getD_eq_getElem?_getD, List.getElem?_append_right (Nat.le_refl _)]
      simpa using he
    · obtain ⟨j, hj, e⟩ := ih h
      refine ⟨j, by simp at hj ⊢; omega, ?_⟩
      rw [List.getD_eq_getElem?_getD, List.getElem?_append_left hj, ← List.getD_eq_getElem?_getD]
      exact e
theorem at_take {L : List Fm} {i j : Nat} {id : Int} (h : At (L.take i) id j) : At L id j ∧ j < i := by
  obtain ⟨hj, e⟩ := h
  rw [List.length_take] at hj
  refine ⟨⟨by omega, ?_⟩, by omega⟩
  rw [List.getD_eq_getElem?_getD, List.getElem?_take, if_pos (by omega), ← List.getD_eq_getElem?_getD] at e
  exact e
theorem fok_of {L : List Fm} (h : Ok L) {i n k : Nat} (hi : i < L.length) (hin : i ≤ n) (hk : k < (L.getD i zm).fs.length) : FOk L n ((L.getD i zm).fs.getD k zf) := by
  have hfm := h.each i hi
  have hr := hfm.each k hk
  have hk16 := hfm.few
  obtain ⟨f, hf⟩ : ∃ f, f = (L.getD i zm).fs.getD k zf := ⟨_, rfl⟩
  rw [← hf] at hr ⊢
  have hkd := right_kind hr
  have cnt : counts ((L.getD i zm).fs.take k) f.frm = true → ∃ q : Nat, f.frm = q ∧ q < 16 := fun hc => by
    obtain ⟨c1, c2, _⟩ := counts_of hc
    rw [List.length_take] at c2
    exact ⟨f.frm.toNat, by omega, by omega⟩
  have nst : nests (lm (L.take i)) ((L.getD i zm).fs.take k) f = true → (∃ q : Nat, f.frm = q ∧ q < 16) ∧ ∃ j, At L f.n j ∧ j < n := fun hn => by
    obtain ⟨_, n2, n3⟩ := nests_of hn
    obtain ⟨j, hj⟩ := knows_at n2
    obtain ⟨h1, h2⟩ := at_take hj
    exact ⟨cnt n3, j, h1, by omega⟩
  unfold right at hr
  refine ⟨hkd.1, hkd.2, fun h1 => ?_, fun h1 => ?_, fun h1 => ?_, fun h1 => ?_⟩
  · rw [if_pos h1] at hr
    exact (literal_of hr).2.2.2
  · rcases h1 with h1 | h1
    · rw [if_neg (by omega), if_pos h1] at hr
      have := sized_of hr
      omega
    · rw [if_neg (by omega), if_neg (by omega), if_neg (by omega), if_neg (by omega), if_neg (by omega), if_pos h1] at hr
      have := sized_of hr
      omega
  · rw [if_neg (by omega), if_neg (by omega), if_pos h1, Bool.or_eq_true] at hr
    rcases hr with hr | hr
    · have := sized_of hr
      exact .inl (by omega)
    · exact .inr (cnt (counted_of hr).2.2)
  · rcases h1 with h1 | h1
    · rw [if_neg (by omega), if_neg (by omega), if_neg (by omega), if_pos h1] at hr
      exact nst hr
    · rw [if_neg (by omega), if_neg (by omega), if_neg (by omega), if_neg (by omega), if_pos h1, Bool.and_eq_true] at hr
      exact nst hr.1
/-- Small numbers. -/
def Small (nums : List Int) : Prop := ∀ i, 0 ≤ nums.getD i 0 ∧ nums.getD i 0 ≤ 16777215
theorem small_nil : Small [] := fun i => by simp
theorem Small.snoc {nums : List Int} (h : Small nums) {n : Int} (h0 : 0 ≤ n) (h1 : n ≤ 16777215) : Small (nums ++ [n]) := fun i => by
  rw [List.getD_eq_getElem?_getD]
  by_cases hi : i < nums.length
  · rw [List.getElem?_append_left hi, ← List.getD_eq_getElem?_getD]; exact h i
  · rw [List.getElem?_append_right (by omega)]
    by_cases e : i - nums.length = 0
    · rw [e]; exact ⟨h0, h1⟩
    · rw [List.getElem?_eq_none (by simp; omega)]; simp
theorem Small.pad {nums : List Int} (h : Small nums) (m : Nat) : Small (nums ++ List.replicate m 0) := fun i => by
  rw [List.getD_eq_getElem?_getD]
  by_cases hi : i < nums.length
  · rw [List.getElem?_append_left hi, ← List.getD_eq_getElem?_getD]; exact h i
  · rw [List.getElem?_append_right (by omega), List.getElem?_replicate]
    split <;> simp
theorem ext_small (s : ByteArray) {a n : Nat} (h : n ≤ 3) : 0 ≤ num (s.extract a (a + n)) ∧ num (s.extract a (a + n)) ≤ 16777215 := num_bound (by rw [ByteArray.size_extract]; omega)
theorem kind_num {s : ByteArray} {sub : Sub} {id depth : Int} {start limit k at_ cnt : Nat} {L : List Fm} {N : Nat} {f : Fld} (hf : FOk L N f) {nums : List Int} (hn : Small nums) {y : Nat × Int × List Pt} (h : kind s sub id depth start limit k f nums at_ cnt = .ok y) : 0 ≤ y.2.1 ∧ y.2.1 ≤ 16777215 := by
  have ht : ((told f nums : Nat) : Int) ≤ 16777215 := by
    have := hn f.frm.toNat
    unfold told
    omega
  unfold kind at h
  split at h
  · obtain ⟨h1, h2⟩ := short_ok h
    obtain ⟨_, h3⟩ := unless_ok h2
    cases h3
    exact ⟨by simp, by simp⟩
  · split at h
    · rename_i h2
      obtain ⟨_, h3⟩ := short_ok h
      cases h3
      exact ext_small s (by have := hf.k2 (.inl h2); omega)
    · split at h
      · split at h
        · obtain ⟨_, h3⟩ := short_ok h
          cases h3
          exact ⟨by simp, by simp⟩
        · obtain ⟨_, h3⟩ := short_ok h
          cases h3
          exact ⟨by simp, by simp⟩
      · split at h
        · rw [(listed_ok h).2]; omega
        · split at h
          · obtain ⟨_, h2⟩ := short_ok h
            rw [(boxed_ok h2).2.1]; omega
          · rename_i h1 h2 h3 h4 h5
            obtain ⟨_, h6⟩ := short_ok h
            obtain ⟨_, h7⟩ := unless_ok h6
            cases h7
            exact ext_small s (by have := hf.k2 (.inr (by have := hf.lo; have := hf.hi; omega)); omega)
theorem next_num {s : ByteArray} {sub : Sub} {id depth : Int} {start limit k at_ cnt : Nat} {L : List Fm} {N : Nat} {f : Fld} (hf : FOk L N f) {nums : List Int} (hn : Small nums) {y : Nat × Int × List Pt} (h : next s sub id depth start limit k f nums at_ cnt = .ok y) : 0 ≤ y.2.1 ∧ y.2.1 ≤ 16777215 := by
  unfold next at h
  split at h
  · cases h
  · exact kind_num hf hn h
theorem next_pad (s : ByteArray) (sub : Sub) (id depth : Int) (start limit k : Nat) (f : Fld) (nums : List Int) (at_ cnt m : Nat) : next s sub id depth start limit k f (nums ++ List.replicate m 0) at_ cnt = next s sub id depth start limit k f nums at_ cnt := by
  unfold next
  rw [kind_pad]
theorem pad_set {nums : List Int} {k : Nat} (hk : nums.length = k) (h16 : k < 16) (n : Int) : (nums ++ List.replicate (16 - k) 0).set k n = (nums ++ [n]) ++ List.replicate (16 - (k + 1)) 0 := by
  rw [List.set_append_right _ _ (by omega), show k - nums.length = 0 by omega, show 16 - k = (16 - (k + 1)) + 1 by omega, List.replicate_succ, List.append_assoc]
  rfl
theorem fieldsE_at {L : List Fm} (h : Ok L) {us : List Value} (hu : us.length = L.length) {id : Int} {i : Nat} (ha : At L id i) : lkV (fieldsE L us) id = some (us.getD i undef) := by
  obtain ⟨hi, e⟩ := ha
  have hfind : ((fieldsE L us).find? fun p => decide (p.1 = id)) = some (id, us.getD i undef) := by
    rw [List.find?_eq_some_iff_getElem]
    have hi2 : i < (fieldsE L us).length := by unfold fieldsE; simp [hu]; omega
    have hg : ∀ j (hj : j < (fieldsE L us).length), (fieldsE L us)[j] = ((L.getD j zm).id, us.getD j undef) := fun j hj => by
      have hj2 : j < L.length := by unfold fieldsE at hj; simp [hu] at hj; omega
      have hj3 : j < us.length := by omega
      have e1 : L.getD j zm = L[j] := by simp [List.getD, hj2]
      have e2 : us.getD j undef = us[j] := by simp [List.getD, hj3]
      rw [e1, e2]
      simp only [fieldsE, List.getElem_map, List.getElem_zip]
    refine ⟨by simp, i, hi2, by rw [hg, e], fun j hj => ?_⟩
    rw [hg]
    have := asc_lt h.asc hj hi
    simp only [Bool.not_eq_true', decide_eq_false_iff_not]
    omega
  unfold lkV
  rw [hfind]
  rfl
end RecO
section WrP
open Go.RowKit Fx Rec

/-- A field that is right for a writer. -/
structure FOkW (L : List Fm) (N : Nat) (fs : List Fld) (k : Nat) (f : Fld) : Prop where
  ok : FOk L N f
  k3 : f.kind = 3 → f.frm = -1 ∨ ∃ q : Nat, f.frm = q ∧ q < k ∧ q < 16 ∧ waits fs q = true ∧ (fs.getD q zf).kind = 2
  k5 : f.kind = 5 → ∃ q : Nat, f.frm = q ∧ q < k ∧ q < 16 ∧ waits fs q = true ∧ (fs.getD q zf).kind = 2
theorem waits_at {fs : List Fld} {k q : Nat} (hk : k < fs.length) (hq : (fs.getD k zf).frm = (q : Int)) (h4 : (fs.getD k zf).kind ≠ 4) : waits fs q = true := by
  unfold waits
  rw [List.any_eq_true]
  refine ⟨fs.getD k zf, by rw [List.getD_eq_getElem?_getD, List.getElem?_eq_getElem hk]; exact List.getElem_mem hk, ?_⟩
  rw [hq, decide_eq_true rfl, decide_eq_false h4]
  rfl
theorem fokw_of {L : List Fm} (h : Ok L) {i n k : Nat} (hi : i < L.length) (hin : i ≤ n) (hk : k < (L.getD i zm).fs.length) : FOkW L n (L.getD i zm).fs k ((L.getD i zm).fs.getD k zf) := by
  have hr := (h.each i hi).each k hk
  have hk16 := (h.each i hi).few
  obtain ⟨fs, hfs⟩ : ∃ fs, fs = (L.getD i zm).fs := ⟨_, rfl⟩
  have hok := fok_of h hi hin hk
  rw [← hfs] at hr hk16 hk hok ⊢
  obtain ⟨f, hf⟩ : ∃ f, f = fs.getD k zf := ⟨_, rfl⟩
  have cnt : counts (fs.take k) f.frm = true → f.kind ≠ 4 → ∃ q : Nat, f.frm = q ∧ q < k ∧ q < 16 ∧ waits fs q = true ∧ (fs.getD q zf).kind = 2 := fun hc h4 => by
    obtain ⟨c1, c2, c3, _⟩ := counts_of hc
    rw [List.length_take] at c2
    have hq : f.frm = ((f.frm.toNat : Nat) : Int) := by omega
    refine ⟨f.frm.toNat, hq, by omega, by omega, waits_at hk (by rw [← hf]; exact hq) (by rw [← hf]; exact h4), ?_⟩
    rw [List.getD_eq_getElem?_getD, List.getElem?_take, if_pos (by omega), ← List.getD_eq_getElem?_getD] at c3
    exact c3
  rw [← hf] at hr hok ⊢
  unfold right at hr
  refine ⟨hok, fun h1 => ?_, fun h1 => ?_⟩
  · rw [if_neg (by omega), if_neg (by omega), if_pos h1, Bool.or_eq_true] at hr
    rcases hr with hr | hr
    · have := sized_of hr
      exact .inl (by omega)
    · exact .inr (cnt (counted_of hr).2.2 (by omega))
  · rw [if_neg (by omega), if_neg (by omega), if_neg (by omega), if_neg (by omega), if_pos h1, Bool.and_eq_true] at hr
    exact cnt (nests_of hr.1).2.2 (by omega)
theorem Short.tail {x : ByteArray} {l : List ByteArray} (h : Short (x :: l)) : Short l := fun y hy => h y (List.mem_cons_of_mem _ hy)
theorem Tame.of {σ σ' : Ws} (h : Tame σ) (hv : Short σ'.vals) (hc : σ'.checks = σ.checks) (hp : σ'.parts = σ.parts) (hl : σ.st.length ≤ σ'.st.length) : Tame σ' :=
  ⟨hv, by rw [hc, hp]; exact h.cnt, fun c hm => by rw [hc] at hm; have := h.each c hm; omega, by rw [hc]; exact h.ord⟩
theorem fill_st {σ σ1 : Ws} {h : Nat × Nat} {n : Int} (e : fill σ h n = some σ1) (hl : h.1 + h.2 ≤ σ.st.length) : σ1.st.length = σ.st.length ∧ σ1.vals = σ.vals ∧ σ1.parts = σ.parts ∧ σ1.checks = σ.checks := by
  unfold fill at e
  split at e
  · cases e
    exact ⟨patch_len _ _ _ (by rw [nbytes_len]; exact hl), rfl, rfl, rfl⟩
  · cases e
abbrev Grows (sub : WSub) (id : Int) : Prop := ∀ σ σ', sub id σ = some σ' → Tame σ → σ.st.length ≤ σ'.st.length ∧ Tame σ'
theorem wreps_grows {sub : WSub} {id : Int} (h : Grows sub id) : ∀ n σ σ', wreps sub id n σ = some σ' → Tame σ → σ.st.length ≤ σ'.st.length ∧ Tame σ'
  | 0, σ, σ', e, ht => by
    rw [wreps] at e
    cases e
    exact ⟨Nat.le_refl _, ht⟩
  | n + 1, σ, σ', e, ht => by
    rw [wreps, Option.bind_eq_some_iff] at e
    obtain ⟨σ1, e1, e2⟩ := e
    have h1 := h _ _ e1 ht
    have h2 := wreps_grows h n σ1 σ' e2 h1.2
    exact ⟨by omega, h2.2⟩
/-- What holds before a field. -/
structure WIn (fs : List Fld) (start : Nat) (d : Dr) (σ : Ws) : Prop where
  small : Small d.counts
  room : Room fs d σ.st.length
  tame : Tame σ
  st : start ≤ σ.st.length
/-- What a field leaves. -/
structure KOut (fs : List Fld) (k : Nat) (f : Fld) (σ : Ws) (p : Rec.Left) : Prop where
  num : 0 ≤ p.1 ∧ p.1 ≤ 16777215
  room : f.kind = 2 → waits fs k = true → 1 ≤ p.2.1.2 ∧ p.2.1.2 ≤ 3 ∧ p.2.1.1 + p.2.1.2 ≤ p.2.2.st.length
  len : σ.st.length ≤ p.2.2.st.length
  tame : Tame p.2.2
theorem KOut.plain {fs : List Fld} {k : Nat} {f : Fld} {σ σ1 : Ws} (hk : f.kind ≠ 2) (hl : σ.st.length ≤ σ1.st.length) (ht : Tame σ1) : KOut fs k f σ (left0 σ1) :=
  ⟨⟨Int.le_refl 0, show (0 : Int) ≤ 16777215 by decide⟩, fun h => absurd h hk, hl, ht⟩
theorem wkind_out {L : List Fm} {N : Nat} {sub : WSub} {fs : List Fld} {start k : Nat} {f : Fld} {d : Dr} {σ : Ws} {p : Rec.Left} (hf : FOkW L N fs k f) (hl : d.lens.length = k) (hsub : f.kind = 4 ∨ f.kind = 5 → Grows sub f.n)
    (h : WIn fs start d σ) (hc : σ.checks.length < σ.parts) (e : wkind sub fs start k f d σ = some p) : KOut fs k f σ p := by
  unfold wkind at e
  split at e
  · rename_i h1
    rw [wtext, Option.map_eq_some_iff] at e
    obtain ⟨σ1, e1, rfl⟩ := e
    obtain ⟨e2, e3⟩ := addW_st e1
    subst e2
    have hle : σ.st.length ≤ (σ.st ++ f.text.data.toList).length := by simp
    exact KOut.plain (by omega) hle (h.tame.of h.tame.short rfl rfl hle)
  · rename_i h1
    split at e
    · rename_i h2
      have hn := hf.ok.k2 (.inl h2)
      split at e
      · rename_i hw
        rw [wwait, Option.map_eq_some_iff] at e
        obtain ⟨σ1, e1, rfl⟩ := e
        obtain ⟨e2, e3⟩ := addW_st e1
        subst e2
        have hle : σ.st.length ≤ (σ.st ++ List.replicate f.n.toNat 0).length := by simp
        refine ⟨⟨Int.le_refl 0, show (0 : Int) ≤ 16777215 by decide⟩, fun _ _ => ?_, hle, h.tame.of h.tame.short rfl rfl hle⟩
        show 1 ≤ f.n.toNat ∧ f.n.toNat ≤ 3 ∧ σ.st.length + f.n.toNat ≤ (σ.st ++ List.replicate f.n.toNat 0).length
        rw [List.length_append, List.length_replicate]
        omega
      · rename_i hw
        rw [wgiven, Option.bind_eq_some_iff] at e
        obtain ⟨⟨x, σ0⟩, e0, e⟩ := e
        simp only at e
        split at e
        · rename_i hx
          rw [Option.map_eq_some_iff] at e
          obtain ⟨σ1, e1, rfl⟩ := e
          obtain ⟨e2, e3⟩ := addW_st e1
          obtain ⟨n1, n2⟩ := nextW_st e0
          have hle : σ.st.length ≤ σ1.st.length := by rw [e2, ← n2]; simp
          have hcp : σ0.checks = σ.checks ∧ σ0.parts = σ.parts := by
            unfold nextW at e0
            split at e0
            · cases e0
            · cases e0; exact ⟨rfl, rfl⟩
          refine ⟨num_bound (by omega), fun _ h => absurd h hw, hle, h.tame.of ?_ (by rw [e2]; exact hcp.1) (by rw [e2]; exact hcp.2) hle⟩
          have hs := h.tame.short
          rw [n1] at hs
          rw [e2]; exact hs.tail
        · cases e
    · split at e
      · rename_i h2 h3
        rw [wbytes, Option.bind_eq_some_iff] at e
        obtain ⟨⟨x, σ0⟩, e0, e⟩ := e
        rw [Option.bind_eq_some_iff] at e
        obtain ⟨σ1, e1, e⟩ := e
        obtain ⟨e2, e3⟩ := addW_st e1
        obtain ⟨n1, n2⟩ := nextW_st e0
        have hle : σ.st.length ≤ σ1.st.length := by rw [e2, ← n2]; simp
        have hcp : σ0.checks = σ.checks ∧ σ0.parts = σ.parts := by
          unfold nextW at e0
          split at e0
          · cases e0
          · cases e0; exact ⟨rfl, rfl⟩
        have ht : Tame σ1 := h.tame.of (by have hs := h.tame.short; rw [n1] at hs; rw [e2]; exact hs.tail) (by rw [e2]; exact hcp.1) (by rw [e2]; exact hcp.2) hle
        split at e
        · split at e
          · cases e
            exact KOut.plain (by omega) hle ht
          · cases e
        · rename_i hfm
          obtain ⟨q, hq, hqk, -, hw, hk2⟩ := (hf.k3 h3).resolve_left hfm
          rw [Option.map_eq_some_iff] at e
          obtain ⟨σ2, e4, rfl⟩ := e
          have hR := h.room q (by omega) hw hk2
          rw [hq, Int.toNat_natCast] at e4
          obtain ⟨g1, g2, g3, g4⟩ := fill_st e4 (by omega)
          exact KOut.plain (by omega) (by omega) (ht.of (by rw [g2]; exact ht.short) g4 g3 (by omega))
      · split at e
        · rename_i h2 h3 h4
          rw [wlist, Option.map_eq_some_iff] at e
          obtain ⟨σ1, e1, rfl⟩ := e
          obtain ⟨g1, g2⟩ := wreps_grows (hsub (.inl h4)) _ _ _ e1 h.tame
          exact KOut.plain (by omega) g1 g2
        · split at e
          · rename_i h2 h3 h4 h5
            rw [winside, Option.bind_eq_some_iff] at e
            obtain ⟨σ1, e1, e⟩ := e
            rw [Option.map_eq_some_iff] at e
            obtain ⟨σ2, e4, rfl⟩ := e
            obtain ⟨g1, g2⟩ := hsub (.inr h5) _ _ e1 h.tame
            obtain ⟨q, hq, hqk, -, hw, hk2⟩ := hf.k5 h5
            have hR := h.room q (by omega) hw hk2
            rw [hq, Int.toNat_natCast] at e4
            obtain ⟨k1, k2, k3, k4⟩ := fill_st e4 (by omega)
            exact KOut.plain (by omega) (by omega) (g2.of (by rw [k2]; exact g2.short) k4 k3 (by omega))
          · rename_i h2 h3 h4 h5
            have h6 : f.kind = 6 := by have := hf.ok.lo; have := hf.ok.hi; omega
            have hn := hf.ok.k2 (.inr h6)
            rw [wcheck, Option.map_eq_some_iff] at e
            obtain ⟨σ1, e1, rfl⟩ := e
            obtain ⟨e2, e3⟩ := addW_st e1
            subst e2
            have hlen : (σ.st ++ List.replicate f.n.toNat (0 : UInt8)).length = σ.st.length + f.n.toNat := by simp
            refine KOut.plain (by omega) (by show σ.st.length ≤ (σ.st ++ List.replicate f.n.toNat 0).length; omega) ⟨h.tame.short, ?_, ?_, ?_⟩
            · show (σ.checks ++ [_]).length ≤ σ.parts
              rw [List.length_append, List.length_singleton]; omega
            · intro c hm
              have hm' : c ∈ σ.checks ++ [(start, σ.st.length, f.n.toNat)] := hm
              show c.1 ≤ c.2.1 ∧ 1 ≤ c.2.2 ∧ c.2.2 ≤ 3 ∧ c.2.1 + c.2.2 ≤ (σ.st ++ List.replicate f.n.toNat 0).length
              rw [hlen]
              rw [List.mem_append, List.mem_singleton] at hm'
              rcases hm' with hm' | rfl
              · have := h.tame.each c hm'; omega
              · have := h.st
                refine ⟨this, ?_, ?_, Nat.le_refl _⟩ <;> simp only <;> omega
            · show (σ.checks ++ [(start, σ.st.length, f.n.toNat)]).Pairwise _
              rw [List.pairwise_append]
              refine ⟨h.tame.ord, List.pairwise_singleton _ _, fun a ha b hb => ?_⟩
              rw [List.mem_singleton] at hb
              subst hb
              have := h.tame.each a ha
              show a.2.1 ≤ σ.st.length
              omega
theorem WIn.next {fs : List Fld} {start k : Nat} {d : Dr} {σ : Ws} {p : Rec.Left} (h : WIn fs start d σ) (hl : d.lens.length = k) (ho : KOut fs k (fs.getD k zf) σ p) : WIn fs start ⟨d.counts ++ [p.1], d.lens ++ [p.2.1]⟩ p.2.2 := by
  refine ⟨h.small.snoc ho.num.1 ho.num.2, fun i hi hw h2 => ?_, ho.tame, Nat.le_trans h.st ho.len⟩
  have hi' : i < (d.lens ++ [p.2.1]).length := hi
  rw [List.length_append, List.length_singleton] at hi'
  show 1 ≤ ((d.lens ++ [p.2.1]).getD i (0, 0)).2 ∧ _
  by_cases e : i = k
  · subst e
    have e1 : (d.lens ++ [p.2.1]).getD i (0, 0) = p.2.1 := by rw [List.getD_eq_getElem?_getD, ← hl, List.getElem?_concat_length]; rfl
    rw [e1]
    exact ho.room h2 hw
  · have e1 : (d.lens ++ [p.2.1]).getD i (0, 0) = d.lens.getD i (0, 0) := by rw [List.getD_eq_getElem?_getD, List.getElem?_append_left (by omega), ← List.getD_eq_getElem?_getD]
    rw [e1]
    have := h.room i (by omega) hw h2
    have := ho.len
    omega
theorem wnext_out {L : List Fm} {N : Nat} {sub : WSub} {fs : List Fld} {start k : Nat} {d : Dr} {σ : Ws} {p : Rec.Left} (hf : FOkW L N fs k (fs.getD k zf)) (hl : d.lens.length = k) (hsub : (fs.getD k zf).kind = 4 ∨ (fs.getD k zf).kind = 5 → Grows sub (fs.getD k zf).n)
    (h : WIn fs start d σ) (e : wnext sub fs start k (fs.getD k zf) d σ = some p) : WIn fs start ⟨d.counts ++ [p.1], d.lens ++ [p.2.1]⟩ p.2.2 ∧ σ.st.length ≤ p.2.2.st.length := by
  unfold wnext at e
  split at e
  · have h1 : WIn fs start d { σ with parts := σ.parts + 1 } := ⟨h.small, h.room, ⟨h.tame.short, Nat.le_trans h.tame.cnt (Nat.le_succ _), h.tame.each, h.tame.ord⟩, h.st⟩
    have ho := wkind_out hf hl hsub h1 (Nat.lt_succ_of_le h.tame.cnt) e
    exact ⟨h1.next hl ho, ho.len⟩
  · cases e
theorem wflds_out {L : List Fm} {N : Nat} {sub : WSub} {fs : List Fld} {start : Nat} (hf : ∀ k, k < fs.length → FOkW L N fs k (fs.getD k zf)) (hsub : ∀ k, k < fs.length → (fs.getD k zf).kind = 4 ∨ (fs.getD k zf).kind = 5 → Grows sub (fs.getD k zf).n) :
    ∀ (l : List Fld) (k : Nat) (d : Dr) (σ σ' : Ws), l = fs.drop k → d.lens.length = k → WIn fs start d σ → wflds sub fs start l k d σ = some σ' → σ.st.length ≤ σ'.st.length ∧ Tame σ'
  | [], k, d, σ, σ', _, _, h, e => by
    rw [wflds] at e
    cases e
    exact ⟨Nat.le_refl _, h.tame⟩
  | f :: t, k, d, σ, σ', hd, hl, h, e => by
    have hk : k < fs.length := by
      apply Classical.byContradiction
      intro hn
      rw [List.drop_eq_nil_of_le (by omega)] at hd
      cases hd
    rw [List.drop_eq_getElem_cons hk] at hd
    have hfe : f = fs.getD k zf := by
      rw [List.getD_eq_getElem?_getD, List.getElem?_eq_getElem hk]
      injection hd
    injection hd with _ ht
    rw [wflds, Option.bind_eq_some_iff] at e
    obtain ⟨p, e1, e2⟩ := e
    subst hfe
    obtain ⟨g1, g2⟩ := wnext_out (hf k hk) hl (hsub k hk) h e1
    obtain ⟨r1, r2⟩ := wflds_out hf hsub t (k + 1) _ _ σ' ht (by simp [hl]) g1 e2
    exact ⟨by omega, r2⟩
theorem room_nil (fs : List Fld) (n : Nat) : Room fs ⟨[], []⟩ n := fun _ hi => absurd hi (Nat.not_lt_zero _)
theorem WIn.first {fs : List Fld} {σ : Ws} (h : Tame σ) : WIn fs σ.st.length ⟨[], []⟩ σ := ⟨small_nil, room_nil fs _, h, Nat.le_refl _⟩
/-- Values of formats grow. -/
theorem wval_grows {L : List Fm} (h : Ok L) : ∀ (n : Nat) (id : Int) (i : Nat), At L id i → i < n → Grows (wval L n) id
  | 0, _, _, _, hi => absurd hi (Nat.not_lt_zero _)
  | n + 1, id, i, hat, hi => fun σ σ' e ht => by
    have e : wflds (wval L n) (fieldsOf L id) σ.st.length (fieldsOf L id) 0 ⟨[], []⟩ σ = some σ' := e
    have hfo := fieldsOf_at h hat
    rw [hfo] at e
    refine wflds_out (L := L) (N := n) (fun k hk => fokw_of h hat.1 (by omega) hk) (fun k hk hkd => ?_) _ 0 ⟨[], []⟩ σ σ' rfl rfl (WIn.first ht) e
    obtain ⟨-, j, hj, hjn⟩ := (fokw_of h hat.1 (show i ≤ n by omega) hk).ok.k4 hkd
    exact wval_grows h n _ j hj hjn
end WrP
section WrQ
open Go.RowKit Fx Rec

set_option maxRecDepth 20000 in
set_option maxHeartbeats 600000 in
theorem wat_any {xb wb g n c i : Nat} {B : Int} (W : World) (hx : W.cell? ⟨xb, 0, none⟩ = some (ptr wb)) (h4 : W.cell? ⟨wb, 4, none⟩ = some (.slice (some ⟨g, 0, none⟩) n c)) (hi : i < n) (hb : W.cell? ⟨g, i, none⟩ = some (.int .u8 B)) :
    Calls Tryz.prog 76 #[.int .i64 i, ptr xb] W fun e w' => e = .returned (.int .u8 B) ∧ w' = W := by
  have hi2 : (0 : Int) ≤ (i : Int) ∧ (i : Int) < (n : Int) := by omega
  go_enter Tryz.func76, Tryz.ntmps76
  go_wp2_with fail
  first | go_end0 | go_ret
  exact ⟨rfl, rfl⟩
theorem enters_wat : Enters 76 := fun args w => by
  simp [callFunc, Tryz.func76, Tryz.f76]
theorem bytesV_at {l : List UInt8} {i : Nat} (h : i < l.length) : (bytesV l)[i]? = some (.int .u8 (byteAt (bytesOf l) i)) := by
  have hs : (bytesOf l).size = l.length := by simp [bytesOf, ByteArray.size]
  unfold bytesV byteAt
  rw [dif_pos (by rw [hs]; exact h), List.getElem?_map, List.getElem?_eq_getElem h]
  rfl
theorem sumOf_eq (st : List UInt8) (n : Nat) : sumOf st n = sumTo (bytesOf st) n := (sumTo_bytes st n).symm
theorem bytesOf_size (l : List UInt8) : (bytesOf l).size = l.length := by simp [bytesOf, ByteArray.size]
section
variable {w w' : World} {o : Wo} {top : Nat} {L : List Fm} {σ : Ws} {k : Nat}
theorem wsum_any (n : Nat) (h : WrAt w o top L σ k) (hn : n ≤ σ.st.length) :
    Calls Tryz.prog 93 #[.int .i64 n, ptr o.sb, ptr o.ab] w fun e w' => e = .returned (.int .i64 (sumTo (bytesOf σ.st) n)) ∧ StepW o NoX w w' ∧ (∃ k', (k' = k ∨ k' = n) ∧ WrAt w' o top L σ k') ∧ w'.cell? ⟨o.wb, 6, none⟩ = w.cell? ⟨o.wb, 6, none⟩ := by
  obtain ⟨hf, vv, vst, vch, vs, chs, hm⟩ := h
  have hsb := hm.sums.sb
  have hle := hm.len
  have hkl := hm.kle
  refine (sum_any (fun q => q < w.heap.size ∧ q ≠ o.sb ∧ vs.ownBlock ≠ some q) _ #[ptr o.xb] (sumTo (bytesOf σ.st)) (byteAt (bytesOf σ.st)) o.sb o.ab k n vs w hm.sums enters_wat (adds_of _) (by omega) (by omega) ?_ ?_ ?_ ?_ ?_).mono ?_
  · exact fun h => h.2.1 rfl
  · exact fun g hg h => h.2.2 hg
  · exact fun g h => h.1
  · exact ⟨hf.sa.1.lt, Blk.ne_ hm.sums.ab hsb (by decide), fun h => own_ne hm.sums.row hm.sums.ab (by decide) h rfl⟩
  · intro W i hk h1 h2
    obtain ⟨g, c, rfl, -, -⟩ := hm.row_ (by omega)
    have wx : W.heap[o.xb]? = w.heap[o.xb]? := hk.block _ ⟨hf.sx.1.lt, Blk.ne_ hf.xb hsb (by decide), fun h => own_ne hm.sums.row hf.xb (by decide) h rfl⟩
    have ww : W.heap[o.wb]? = w.heap[o.wb]? := hk.block _ ⟨hm.blk.lt, fun e => hm.sb_wb e.symm, hm.vs_wb⟩
    have wg : W.heap[g]? = w.heap[g]? := hk.block _ ⟨own_lt hm.st rfl, own_blk_ne hm.st hsb (by decide) |> fun h e => h (by rw [← e]; rfl), fun h => own_own_ne hm.st hm.sums.row (by decide) rfl h rfl⟩
    have hbx : Blk W o.xb 90 #[ptr o.wb] := wx.trans hf.xb
    have hbw : Blk W o.wb 122 _ := ww.trans hm.blk
    refine wat_any W (by rw [hbx.cell]; rfl) (by rw [hbw.cell]; rfl) (show i < σ.st.length by omega) ?_
    rw [World.cell?_of_block (w := w) wg, (own_cell hm.st rfl (i := i) (by omega)).1]
    exact bytesV_at (by omega)
  · rintro e w' ⟨rfl, hk, k', vs', hkk, hs, hv⟩
    have hblk : Blk w' o.wb 122 _ := (hk.block _ ⟨hm.blk.lt, fun e => hm.sb_wb e.symm, hm.vs_wb⟩).trans hm.blk
    have own : ∀ q, OwnW w' o q → OwnW w o q ∨ w.heap.size ≤ q := fun q h => by
      rcases (own_iff hblk hs.sb q).1 h with h | h | h | h | h
      · exact .inl ((hm.own_ q).2 (.inl h))
      · exact .inl ((hm.own_ q).2 (.inr (.inl h)))
      · exact .inl ((hm.own_ q).2 (.inr (.inr (.inl h))))
      · exact .inl ((hm.own_ q).2 (.inr (.inr (.inr (.inl h)))))
      · by_cases hq : q < w.heap.size
        · refine .inl ((hm.own_ q).2 ?_)
          by_cases h1 : q = o.sb
          · exact .inr (.inl h1)
          · by_cases h2 : vs.ownBlock = some q
            · exact .inr (.inr (.inr (.inr h2)))
            · exact absurd ⟨hq, h1, h2⟩ (hv q h)
        · exact .inr (by omega)
    have hst : StepW o NoX w w' := StepW.make (hk.mono fun q hq => ⟨hq.lt, fun e => hq.no ((hm.own_ q).2 (.inr (.inl e))), fun e => hq.no ((hm.own_ q).2 (.inr (.inr (.inr (.inr e)))))⟩) own
    refine ⟨rfl, hst, ⟨k', hkk.2.2, hf.step hst (fun _ h => h.elim), vv, vst, vch, vs', chs, { hm with blk := hblk, vals := hm.vals.step fun b h1 h2 => hst.same (hm.sv b h1 h2).1, sv := fun b h1 h2 => ⟨hst.safe _ (hm.sv b h1 h2).1, (hm.sv b h1 h2).2⟩, st := ?_, sums := hs, kle := by omega, ch := ?_, chks := fun i hi => (hm.chks i hi).step hst }⟩, by rw [hblk.cell, hm.blk.cell]⟩
    · exact own_keep hm.st fun g cur hg _ => hk.block _ ⟨own_lt hm.st hg, fun e => own_blk_ne hm.st hsb (by decide) (e ▸ hg), fun h => own_own_ne hm.st hm.sums.row (by decide) hg h rfl⟩
    · exact own_keep hm.ch fun g cur hg _ => hk.block _ ⟨own_lt hm.ch hg, fun e => own_blk_ne hm.ch hsb (by decide) (e ▸ hg), fun h => own_own_ne hm.ch hm.sums.row (by decide) hg h rfl⟩
theorem WrAt.sumF_ (h : WrAt w o top L σ k) : w.cell? ⟨o.wb, 5, none⟩ = some (sumW o) := by
  obtain ⟨_, _, _, _, _, _, hm⟩ := h
  rw [hm.blk.cell]; rfl
theorem sumTo_up {l : List UInt8} {a b : Nat} (h : a ≤ b) (hl : b ≤ 65536) : sumTo (bytesOf l) a ≤ sumTo (bytesOf l) b ∧ 0 ≤ sumTo (bytesOf l) a ∧ sumTo (bytesOf l) b ≤ 100000000 := by
  have h1 := sumTo_mono (bytesOf l) h
  have h2 := sumTo_bound (bytesOf l) a
  have h3 := sumTo_bound (bytesOf l) b
  omega
set_option maxRecDepth 20000 in
set_option maxHeartbeats 1000000 in
theorem chk_any (h : WrAt w o top L σ k) {g0 g1 g2 g3 g4 a st0 m : Nat} (hc : ChkAt w o (.func (.func 102) #[] #[ptr g0, ptr g1, ptr g2, ptr g3, ptr g4]) (st0, a, m)) (c1 : st0 ≤ a) (m1 : 1 ≤ m) (m3 : m ≤ 3) (ha : a + m ≤ σ.st.length) (hk : k ≤ a) :
    Calls Tryz.prog 102 #[ptr g0, ptr g1, ptr g2, ptr g3, ptr g4] w fun e w' => e = .returned (.tuple #[]) ∧ StepW o NoX w w' ∧ (∃ k', k' ≤ a ∧ WrAt w' o top L { σ with st := lay1 σ.st (st0, a, m) } k') ∧ w'.cell? ⟨o.wb, 6, none⟩ = w.cell? ⟨o.wb, 6, none⟩ := by
  obtain ⟨g0', g1', g2', g3', g4', db, u, f, he, hu, ⟨b0, s0⟩, ⟨b1, s1⟩, ⟨b2, s2⟩, ⟨b3, s3⟩, ⟨b4, hfn, s4⟩, c5, s5⟩ := hc
  obtain ⟨rfl, rfl, rfl, rfl, rfl⟩ : g0 = g0' ∧ g1 = g1' ∧ g2 = g2' ∧ g3 = g3' ∧ g4 = g4' := by simpa using he
  have hlen : σ.st.length ≤ 65536 := by obtain ⟨_, _, _, _, _, _, hm⟩ := h; exact hm.len
  have HF : Hid (∀ W, (StepW o NoX w W ∧ ∃ σ' k', WrAt W o top L σ' k') → W.cell? ⟨g0, 0, none⟩ = some u ∧ W.cell? ⟨g1, 0, none⟩ = some (ptr o.wb) ∧ W.cell? ⟨o.wb, 5, none⟩ = some (sumW o) ∧ W.cell? ⟨g2, 0, none⟩ = some (.int .i64 (a : Nat)) ∧
      W.cell? ⟨g3, 0, none⟩ = some (ptr db) ∧ W.cell? ⟨db, 2, none⟩ = some (.int .i64 (st0 : Nat)) ∧ W.cell? ⟨g4, 1, none⟩ = some (.int .i64 (m : Nat))) := Lib.hid fun W hS => by
    obtain ⟨hs, σ', k', hw⟩ := hS
    refine ⟨?_, ?_, hw.sumF_, ?_, ?_, ?_, ?_⟩
    · rw [World.cell?_of_block (w := w) (hs.same s0), b0.cell]; rfl
    · rw [World.cell?_of_block (w := w) (hs.same s1), b1.cell]; rfl
    · rw [World.cell?_of_block (w := w) (hs.same s2), b2.cell]; rfl
    · rw [World.cell?_of_block (w := w) (hs.same s3), b3.cell]; rfl
    · rw [World.cell?_of_block (w := w) (hs.same s5)]; exact c5
    · rw [World.cell?_of_block (w := w) (hs.same s4), b4.cell, ← show f.n = ((m : Nat) : Int) from hfn]; rfl
  have HS0 : Hid (StepW o NoX w w.drew ∧ ∃ k', k' ≤ a ∧ WrAt w.drew o top L σ k') := Lib.hid (by
    obtain ⟨t1, -, t3⟩ := h.below (drewN_below w 1)
    exact ⟨t1, k, hk, t3⟩)
  have HU := Lib.hid hu
  obtain ⟨xa, ya, za, rfl, -⟩ := hu
  obtain ⟨A, hA⟩ : ∃ A, A = sumTo (bytesOf σ.st) a := ⟨_, rfl⟩
  obtain ⟨B, hB⟩ : ∃ B, B = sumTo (bytesOf σ.st) st0 := ⟨_, rfl⟩
  obtain ⟨M, hM⟩ : ∃ M, M = pow (m : Int) := ⟨_, rfl⟩
  have hbb := sumTo_up (l := σ.st) c1 (show a ≤ 65536 by omega)
  rw [← hA, ← hB] at hbb
  have hpp := pow_pos (n := (m : Int)) (by omega) (by omega)
  rw [← hM] at hpp
  obtain ⟨D, hD⟩ : ∃ D, D = A - B := ⟨_, rfl⟩
  obtain ⟨R, hR⟩ : ∃ R, R = D % M := ⟨_, rfl⟩
  have hw1 : IntKind.i64.wrap (A - B) = D := by rw [wr64 (by omega) (by omega)]; exact hD.symm
  have hM0 : ¬ M = 0 := by omega
  have hRb : 0 ≤ R ∧ R < M := by rw [hR]; exact ⟨Int.emod_nonneg _ hM0, Int.emod_lt_of_pos _ hpp.1⟩
  have hw2 : D.tmod M = R := by rw [Int.tmod_eq_emod_of_nonneg (by omega), hR]
  have hw3 : IntKind.i64.wrap R = R := wr64 (by omega) (by omega)
  have HR9 : Hid (0 ≤ R ∧ R ≤ 100000000) := Lib.hid (by omega)
  have HFILL : Hid (fill σ (a, m) R = some { σ with st := lay1 σ.st (st0, a, m) }) := Lib.hid (by
    have e1 := (pow_nat m1 m3).1
    unfold fill lay1
    rw [if_pos (show R < 256 ^ m by rw [← e1, ← hM]; exact hRb.2)]
    simp only [sumOf_eq]
    rw [hR, hD, hA, hB, hM, e1])
  have HQ := Lib.hid (And.intro hA.symm (And.intro hB.symm hM.symm))
  have HB := Lib.hid (And.intro c1 (And.intro m1 (And.intro m3 (And.intro ha hk))))
  clear he b0 b1 b2 b3 b4 s0 s1 s2 s3 s4 s5 c5 hfn h hA hB hM hD hR hbb hpp hRb
  go_enter Tryz.func102, Tryz.ntmps102
  go_wp2_with fail
  refine wp_region_held_drew (S := (fun W : World => W.cell? ⟨g0, 0, none⟩ = some (.func (.func 110) #[] #[ptr xa, ptr ya, ptr za]) ∧ W.cell? ⟨g1, 0, none⟩ = some (ptr o.wb) ∧ W.cell? ⟨o.wb, 5, none⟩ = some (sumW o) ∧ W.cell? ⟨g2, 0, none⟩ = some (.int .i64 (a : Nat)) ∧ W.cell? ⟨g3, 0, none⟩ = some (ptr db) ∧ W.cell? ⟨db, 2, none⟩ = some (.int .i64 (st0 : Nat)) ∧ W.cell? ⟨g4, 1, none⟩ = some (.int .i64 (m : Nat)))) (by kernel_rfl) (HF.out _ ⟨HS0.out.1, σ, HS0.out.2.imp fun _ h => h.2⟩) (fun hHeld => ?_)
  refine wpAnyH_take (i := 0) (oi := ?o1) (v := ?v1) ?h1 ?a1 ?b1 ?c1 ?q1 (Or.inl ⟨?g1, ?y1⟩) ?s1 ?r1
  case h1 => (simp only [List.getElem?_toArray, List.getElem?_cons_zero]; rfl)
  case a1 => kernel_rfl
  case b1 => kernel_rfl
  case c1 => kernel_rfl
  case q1 => exact fun _ _ _ h => h
  case g1 => rfl
  case y1 => (intro wS hSw; obtain ⟨s0, s1, s2, s3, s4, s5, s6⟩ := hSw; go_simp; (try with_reducible rfl))
  case s1 => assumption
  (try simp only [Act.put, List.setIfInBounds_toArray, List.set_cons_zero, List.set_cons_succ])
  refine wpAnyH_take (i := 1) (oi := ?o2) (v := ?v2) ?h2 ?a2 ?b2 ?c2 ?q2 (Or.inl ⟨?g2, ?y2⟩) ?s2 ?r2
  case h2 => (simp only [List.getElem?_toArray, List.getElem?_cons_zero, List.getElem?_cons_succ]; rfl)
  case a2 => kernel_rfl
  case b2 => kernel_rfl
  case c2 => kernel_rfl
  case q2 => exact fun _ _ _ h => h
  case g2 => rfl
  case y2 => (intro wS hSw; obtain ⟨s0, s1, s2, s3, s4, s5, s6⟩ := hSw; go_simp; (try with_reducible rfl))
  case s2 => assumption
  (try simp only [Act.put, List.setIfInBounds_toArray, List.set_cons_zero, List.set_cons_succ])
  refine wpAnyH_take (i := 2) (oi := ?o3) (v := ?v3) ?h3 ?a3 ?b3 ?c3 ?q3 (Or.inl ⟨?g3, ?y3⟩) ?s3 ?r3
  case h3 => (simp only [List.getElem?_toArray, List.getElem?_cons_zero, List.getElem?_cons_succ]; rfl)
  case a3 => kernel_rfl
  case b3 => kernel_rfl
  case c3 => kernel_rfl
  case q3 => exact fun _ _ _ h => h
  case g3 => rfl
  case y3 => (intro wS hSw; obtain ⟨s0, s1, s2, s3, s4, s5, s6⟩ := hSw; go_simp; (try with_reducible rfl))
  case s3 => assumption
  (try simp only [Act.put, List.setIfInBounds_toArray, List.set_cons_zero, List.set_cons_succ])
  refine wpAnyH_take (i := 3) (oi := ?o4) (v := ?v4) ?h4 ?a4 ?b4 ?c4 ?q4 (Or.inl ⟨?g4, ?y4⟩) ?s4 ?r4
  case h4 => (simp only [List.getElem?_toArray, List.getElem?_cons_zero, List.getElem?_cons_succ]; rfl)
  case a4 => kernel_rfl
  case b4 => kernel_rfl
  case c4 => kernel_rfl
  case q4 => exact fun _ _ _ h => h
  case g4 => rfl
  case y4 => (intro wS hSw; obtain ⟨s0, s1, s2, s3, s4, s5, s6⟩ := hSw; go_simp; (try with_reducible rfl))
  case s4 => assumption
  (try simp only [Act.put, List.setIfInBounds_toArray, List.set_cons_zero, List.set_cons_succ])
  refine wpAnyH_take (i := 4) (oi := ?o5) (v := ?v5) ?h5 ?a5 ?b5 ?c5 ?q5 (Or.inl ⟨?g5, ?y5⟩) ?s5 ?r5
  case h5 => (simp only [List.getElem?_toArray, List.getElem?_cons_zero, List.getElem?_cons_succ]; rfl)
  case a5 => kernel_rfl
  case b5 => kernel_rfl
  case c5 => kernel_rfl
  case q5 => exact fun _ _ _ h => h
  case g5 => rfl
  case y5 => (intro wS hSw; obtain ⟨s0, s1, s2, s3, s4, s5, s6⟩ := hSw; go_simp; (try with_reducible rfl))
  case s5 => assumption
  (try simp only [Act.put, List.setIfInBounds_toArray, List.set_cons_zero, List.set_cons_succ])
  refine wpAnyH_take (i := 5) (oi := ?o6) (v := ?v6) ?h6 ?a6 ?b6 ?c6 ?q6 (Or.inl ⟨?g6, ?y6⟩) ?s6 ?r6
  case h6 => (simp only [List.getElem?_toArray, List.getElem?_cons_zero, List.getElem?_cons_succ]; rfl)
  case a6 => kernel_rfl
  case b6 => kernel_rfl
  case c6 => kernel_rfl
  case q6 => exact fun _ _ _ h => h
  case g6 => rfl
  case y6 => (intro wS hSw; obtain ⟨s0, s1, s2, s3, s4, s5, s6⟩ := hSw; go_simp; (try with_reducible rfl))
  case s6 => assumption
  (try simp only [Act.put, List.setIfInBounds_toArray, List.set_cons_zero, List.set_cons_succ])
  refine wpAnyH_take (i := 7) (oi := ?o7) (v := ?v7) ?h7 ?a7 ?b7 ?c7 ?q7 (Or.inl ⟨?g7, ?y7⟩) ?s7 ?r7
  case h7 => (simp only [List.getElem?_toArray, List.getElem?_cons_zero, List.getElem?_cons_succ]; rfl)
  case a7 => kernel_rfl
  case b7 => kernel_rfl
  case c7 => kernel_rfl
  case q7 => exact fun _ _ _ h => h
  case g7 => rfl
  case y7 => (intro wS hSw; obtain ⟨s0, s1, s2, s3, s4, s5, s6⟩ := hSw; go_simp; (try with_reducible rfl))
  case s7 => assumption
  (try simp only [Act.put, List.setIfInBounds_toArray, List.set_cons_zero, List.set_cons_succ])
  refine wpAnyH_take (i := 8) (oi := ?o8) (v := ?v8) ?h8 ?a8 ?b8 ?c8 ?q8 (Or.inl ⟨?g8, ?y8⟩) ?s8 ?r8
  case h8 => (simp only [List.getElem?_toArray, List.getElem?_cons_zero, List.getElem?_cons_succ]; rfl)
  case a8 => kernel_rfl
  case b8 => kernel_rfl
  case c8 => kernel_rfl
  case q8 => exact fun _ _ _ h => h
  case g8 => rfl
  case y8 => (intro wS hSw; obtain ⟨s0, s1, s2, s3, s4, s5, s6⟩ := hSw; go_simp; (try with_reducible rfl))
  case s8 => assumption
  (try simp only [Act.put, List.setIfInBounds_toArray, List.set_cons_zero, List.set_cons_succ])
  refine wpAnyH_take (i := 9) (oi := ?o9) (v := ?v9) ?h9 ?a9 ?b9 ?c9 ?q9 (Or.inl ⟨?g9, ?y9⟩) ?s9 ?r9
  case h9 => (simp only [List.getElem?_toArray, List.getElem?_cons_zero, List.getElem?_cons_succ]; rfl)
  case a9 => kernel_rfl
  case b9 => kernel_rfl
  case c9 => kernel_rfl
  case q9 => exact fun _ _ _ h => h
  case g9 => rfl
  case y9 => (intro wS hSw; obtain ⟨s0, s1, s2, s3, s4, s5, s6⟩ := hSw; go_simp; (try with_reducible rfl))
  case s9 => assumption
  (try simp only [Act.put, List.setIfInBounds_toArray, List.set_cons_zero, List.set_cons_succ])
  refine wpAnyH_take (i := 10) (oi := ?o10) (v := ?v10) ?h10 ?a10 ?b10 ?c10 ?q10 (Or.inl ⟨?g10, ?y10⟩) ?s10 ?r10
  case h10 => (simp only [List.getElem?_toArray, List.getElem?_cons_zero, List.getElem?_cons_succ]; rfl)
  case a10 => kernel_rfl
  case b10 => kernel_rfl
  case c10 => kernel_rfl
  case q10 => exact fun _ _ _ h => h
  case g10 => rfl
  case y10 => (intro wS hSw; obtain ⟨s0, s1, s2, s3, s4, s5, s6⟩ := hSw; go_simp; (try with_reducible rfl))
  case s10 => assumption
  (try simp only [Act.put, List.setIfInBounds_toArray, List.set_cons_zero, List.set_cons_succ])
  refine wpAnyH_take (i := 11) (oi := ?o11) (v := ?v11) ?h11 ?a11 ?b11 ?c11 ?q11 (Or.inl ⟨?g11, ?y11⟩) ?s11 ?r11
  case h11 => (simp only [List.getElem?_toArray, List.getElem?_cons_zero, List.getElem?_cons_succ]; rfl)
  case a11 => kernel_rfl
  case b11 => kernel_rfl
  case c11 => kernel_rfl
  case q11 => exact fun _ _ _ h => h
  case g11 => rfl
  case y11 => (intro wS hSw; obtain ⟨s0, s1, s2, s3, s4, s5, s6⟩ := hSw; go_simp; (try with_reducible rfl))
  case s11 => assumption
  (try simp only [Act.put, List.setIfInBounds_toArray, List.set_cons_zero, List.set_cons_succ])
  refine wpAnyH_take (i := 12) (oi := ?o12) (v := ?v12) ?h12 ?a12 ?b12 ?c12 ?q12 (Or.inl ⟨?g12, ?y12⟩) ?s12 ?r12
  case h12 => (simp only [List.getElem?_toArray, List.getElem?_cons_zero, List.getElem?_cons_succ]; rfl)
  case a12 => kernel_rfl
  case b12 => kernel_rfl
  case c12 => kernel_rfl
  case q12 => exact fun _ _ _ h => h
  case g12 => rfl
  case y12 => (intro wS hSw; obtain ⟨s0, s1, s2, s3, s4, s5, s6⟩ := hSw; go_simp; (try with_reducible rfl))
  case s12 => assumption
  (try simp only [Act.put, List.setIfInBounds_toArray, List.set_cons_zero, List.set_cons_succ])
  refine wpAnyH_take (i := 13) (oi := ?o13) (v := ?v13) ?h13 ?a13 ?b13 ?c13 ?q13 (Or.inl ⟨?g13, ?y13⟩) ?s13 ?r13
  case h13 => (simp only [List.getElem?_toArray, List.getElem?_cons_zero, List.getElem?_cons_succ]; rfl)
  case a13 => kernel_rfl
  case b13 => kernel_rfl
  case c13 => kernel_rfl
  case q13 => exact fun _ _ _ h => h
  case g13 => rfl
  case y13 => (intro wS hSw; obtain ⟨s0, s1, s2, s3, s4, s5, s6⟩ := hSw; go_simp; (try with_reducible rfl))
  case s13 => assumption
  (try simp only [Act.put, List.setIfInBounds_toArray, List.set_cons_zero, List.set_cons_succ])
  refine wpAnyH_take (i := 14) (oi := ?o14) (v := ?v14) ?h14 ?a14 ?b14 ?c14 ?q14 (Or.inl ⟨?g14, ?y14⟩) ?s14 ?r14
  case h14 => (simp only [List.getElem?_toArray, List.getElem?_cons_zero, List.getElem?_cons_succ]; rfl)
  case a14 => kernel_rfl
  case b14 => kernel_rfl
  case c14 => kernel_rfl
  case q14 => exact fun _ _ _ h => h
  case g14 => rfl
  case y14 => (intro wS hSw; obtain ⟨s0, s1, s2, s3, s4, s5, s6⟩ := hSw; go_simp; (try with_reducible rfl))
  case s14 => assumption
  (try simp only [Act.put, List.setIfInBounds_toArray, List.set_cons_zero, List.set_cons_succ])
  refine wpAnyH_take (i := 17) (oi := ?o15) (v := ?v15) ?h15 ?a15 ?b15 ?c15 ?q15 (Or.inl ⟨?g15, ?y15⟩) ?s15 ?r15
  case h15 => (simp only [List.getElem?_toArray, List.getElem?_cons_zero, List.getElem?_cons_succ]; rfl)
  case a15 => kernel_rfl
  case b15 => kernel_rfl
  case c15 => kernel_rfl
  case q15 => exact fun _ _ _ h => h
  case g15 => rfl
  case y15 => (intro wS hSw; obtain ⟨s0, s1, s2, s3, s4, s5, s6⟩ := hSw; go_simp; (try with_reducible rfl))
  case s15 => assumption
  (try simp only [Act.put, List.setIfInBounds_toArray, List.set_cons_zero, List.set_cons_succ])
  refine wpAnyH_take (i := 18) (oi := ?o16) (v := ?v16) ?h16 ?a16 ?b16 ?c16 ?q16 (Or.inl ⟨?g16, ?y16⟩) ?s16 ?r16
  case h16 => (simp only [List.getElem?_toArray, List.getElem?_cons_zero, List.getElem?_cons_succ]; rfl)
  case a16 => kernel_rfl
  case b16 => kernel_rfl
  case c16 => kernel_rfl
  case q16 => exact fun _ _ _ h => h
  case g16 => rfl
  case y16 => (intro wS hSw; obtain ⟨s0, s1, s2, s3, s4, s5, s6⟩ := hSw; go_simp; (try with_reducible rfl))
  case s16 => assumption
  (try simp only [Act.put, List.setIfInBounds_toArray, List.set_cons_zero, List.set_cons_succ])
  refine wpAnyH_ready (rs := [6]) (by kernel_rfl) (by simp) ?_
  refine AllReadyH.cons (o := ?oB17) ?hB17 ?kB17 AllReadyH.nil
  case hB17 => (simp only [List.getElem?_toArray, List.getElem?_cons_zero, List.getElem?_cons_succ]; rfl)
  case kB17 =>
    intro K hK
    go_simp
    obtain ⟨hs5, k5, hk5, hw5⟩ := HS0.out
    have hq := HB.out
    refine (wsum_any a hw5 (by omega)).mono ?_
    rintro e w6 ⟨rfl, hs6, ⟨k6, hk6, hw6⟩, hc6⟩
    rw [HQ.out.1]
    have hH6 : StepW o NoX w w6 ∧ ∃ k', k' ≤ a ∧ WrAt w6 o top L σ k' := ⟨hs5.trans hs6, k6, by omega, hw6⟩
    clear hs5 hw5 hs6 hw6 hk5 hk6 hq
    refine hK.out _ _ (HF.out _ ⟨hH6.1, σ, hH6.2.imp fun _ h => h.2⟩) (fun _ => ?_)
    clear hK K
    (try simp only [Act.put, List.setIfInBounds_toArray, List.set_cons_zero, List.set_cons_succ])
    refine wpAnyH_ready (rs := [15]) (by kernel_rfl) (by simp) ?_
    refine AllReadyH.cons (o := ?oB18) ?hB18 ?kB18 AllReadyH.nil
    case hB18 => (simp only [List.getElem?_toArray, List.getElem?_cons_zero, List.getElem?_cons_succ]; rfl)
    case kB18 =>
      intro K hK
      go_simp
      obtain ⟨hs6, k6, hk6, hw6⟩ := hH6
      have hq := HB.out
      refine (wsum_any st0 hw6 (by omega)).mono ?_
      rintro e w7 ⟨rfl, hs7, ⟨k7, hk7, hw7⟩, hc7⟩
      rw [HQ.out.2.1]
      have hH7 : StepW o NoX w w7 ∧ ∃ k', k' ≤ a ∧ WrAt w7 o top L σ k' := ⟨hs6.trans hs7, k7, by omega, hw7⟩
      clear hs6 hw6 hs7 hw7 hk6 hk7 hq
      refine hK.out _ _ (HF.out _ ⟨hH7.1, σ, hH7.2.imp fun _ h => h.2⟩) (fun _ => ?_)
      clear hK K
      (try simp only [Act.put, List.setIfInBounds_toArray, List.set_cons_zero, List.set_cons_succ])
      refine wpAnyH_take (i := 16) (oi := ?o19) (v := ?v19) ?h19 ?a19 ?b19 ?c19 ?q19 (Or.inl ⟨?g19, ?y19⟩) ?s19 ?r19
      case h19 => (simp only [List.getElem?_toArray, List.getElem?_cons_zero, List.getElem?_cons_succ]; rfl)
      case a19 => kernel_rfl
      case b19 => kernel_rfl
      case c19 => kernel_rfl
      case q19 => exact fun _ _ _ h => h
      case g19 => rfl
      case y19 => (intro wS hSw; obtain ⟨s0, s1, s2, s3, s4, s5, s6⟩ := hSw; go_simp; (try with_reducible rfl))
      case s19 => assumption
      (try simp only [Act.put, List.setIfInBounds_toArray, List.set_cons_zero, List.set_cons_succ])
      refine wpAnyH_ready (rs := [19]) (by kernel_rfl) (by simp) ?_
      refine AllReadyH.cons (o := ?oB20) ?hB20 ?kB20 AllReadyH.nil
      case hB20 => (simp only [List.getElem?_toArray, List.getElem?_cons_zero, List.getElem?_cons_succ]; rfl)
      case kB20 =>
        intro K hK
        go_simp
        have hq := HB.out
        refine (power_any (m : Int) w7 (by omega) (by omega)).mono ?_
        rintro e w8 ⟨rfl, rfl⟩
        rw [HQ.out.2.2]
        clear hq
        refine hK.out _ _ (HF.out _ ⟨hH7.1, σ, hH7.2.imp fun _ h => h.2⟩) (fun _ => ?_)
        clear hK K
        (try simp only [Act.put, List.setIfInBounds_toArray, List.set_cons_zero, List.set_cons_succ])
        refine wpAnyH_take (i := 20) (oi := ?o21) (v := ?v21) ?h21 ?a21 ?b21 ?c21 ?q21 (Or.inl ⟨?g21, ?y21⟩) ?s21 ?r21
        case h21 => (simp only [List.getElem?_toArray, List.getElem?_cons_zero, List.getElem?_cons_succ]; rfl)
        case a21 => kernel_rfl
        case b21 => kernel_rfl
        case c21 => kernel_rfl
        case q21 => exact fun _ _ _ h => h
        case g21 => rfl
        case y21 => (intro wS hSw; obtain ⟨s0, s1, s2, s3, s4, s5, s6⟩ := hSw; go_simp; (try with_reducible rfl))
        case s21 => assumption
        (try simp only [Act.put, List.setIfInBounds_toArray, List.set_cons_zero, List.set_cons_succ])
        refine wpAnyH_ready (rs := [21]) (by kernel_rfl) (by simp) ?_
        refine AllReadyH.cons (o := ?oB22) ?hB22 ?kB22 AllReadyH.nil
        case hB22 => (simp only [List.getElem?_toArray, List.getElem?_cons_zero, List.getElem?_cons_succ]; rfl)
        case kB22 =>
          intro K hK
          go_simp
          obtain ⟨hs8, k8, hk8, hw8⟩ := hH7
          have hq := HB.out
          refine (laid6_any hw8 (HU.out.step hs8) (by omega) (by omega) (by omega) hk8 R HR9.out.1 HR9.out.2).mono ?_
          rw [HFILL.out]
          rintro e w9 ⟨⟨hs9, rfl, hw9⟩, hc9⟩
          have HY := Lib.hid (And.intro (hs8.trans hs9) (And.intro hk8 hw9))
          clear hs8 hw8 hq hs9 hw9 hk8
          refine hK.out _ _ (HF.out _ ⟨HY.out.1, _, _, HY.out.2.2⟩) (fun _ => ?_)
          clear hK K
          (try simp only [Act.put, List.setIfInBounds_toArray, List.set_cons_zero, List.set_cons_succ])
          refine wpAnyH_done (by kernel_rfl) ?_ _
          go_wp2_with fail
          first | go_end0 | go_ret
          exact ⟨rfl, HY.out.1, ⟨k8, HY.out.2.1, HY.out.2.2⟩, (hc9.trans hc7).trans hc6⟩
end
end WrQ
end Go.Proofs.YtlhobhfmombjjaaGreatDoor
