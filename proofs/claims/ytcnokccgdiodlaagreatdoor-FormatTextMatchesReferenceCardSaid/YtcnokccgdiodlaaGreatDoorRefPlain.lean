/- Plain facts on the reference's way to the least lengths. No condition of its own. -/
import Derived.Test.YtcnokccgdiodlaaGreatDoorFmtPlain
namespace Go.Proofs.YtcnokccgdiodlaaGreatDoor
namespace Fx

/-- A sum of ints, as far as an int can hold it. -/
def w64 (n : Int) : Int := (n + 9223372036854775808) % 18446744073709551616 - 9223372036854775808
theorem w64_in {n : Int} (h1 : -9223372036854775808 ≤ n) (h2 : n ≤ 9223372036854775807) : w64 n = n := by unfold w64; omega
theorem w64_lo (n : Int) : -9223372036854775808 ≤ w64 n := by unfold w64; omega
theorem w64_hi (n : Int) : w64 n ≤ 9223372036854775807 := by unfold w64; omega
/-- What formats with an ID add to a number. -/
def rin (q : Int) : List (Int × Int) → Int → Int
  | [], n => n
  | p :: t, n => rin q t (if p.1 = q then w64 (n + p.2) else n)
/-- What a field adds. -/
def rfield (acc : List (Int × Int)) (n : Int) (f : Fld) : Int :=
  if f.kind = 1 then w64 (n + f.text.size) else if f.kind = 2 then w64 (n + f.n) else if f.kind = 6 then w64 (n + f.n) else if f.kind = 3 then w64 (n + f.n) else if f.kind = 5 then rin f.n acc n else n
def rsum (acc : List (Int × Int)) (fs : List Fld) : Int := fs.foldl (rfield acc) 0
/-- The reference's least lengths, in the formats' order. -/
def rls : List Fm → List (Int × Int) → List (Int × Int)
  | [], acc => acc
  | f :: t, acc => rls t (acc ++ [(f.id, rsum acc f.fs)])
theorem rls_append : ∀ (a b : List Fm) (acc : List (Int × Int)), rls (a ++ b) acc = rls b (rls a acc)
  | [], _, _ => rfl
  | f :: a, b, acc => by rw [List.cons_append, rls, rls_append a b, rls]
theorem rls_snoc (a : List Fm) (f : Fm) : rls (a ++ [f]) [] = rls a [] ++ [(f.id, rsum (rls a []) f.fs)] := by rw [rls_append]; rfl
theorem rls_len : ∀ (l : List Fm) (acc : List (Int × Int)), (rls l acc).length = acc.length + l.length
  | [], acc => by simp [rls]
  | f :: t, acc => by rw [rls, rls_len t]; simp; omega
theorem rls_take : ∀ (l : List Fm) (acc : List (Int × Int)) (k : Nat), (rls l acc).take (acc.length + k) = rls (l.take k) acc
  | [], acc, k => by rw [List.take_nil, rls]; exact List.take_of_length_le (by omega)
  | f :: t, acc, 0 => by
    have h := rls_take t (acc ++ [(f.id, rsum acc f.fs)]) 0
    have h2 := congrArg (List.take acc.length) h
    simp [rls] at h2 ⊢
    rw [List.take_take] at h2
    rw [Nat.min_eq_left (by omega)] at h2
    exact h2
  | f :: t, acc, k + 1 => by
    have h := rls_take t (acc ++ [(f.id, rsum acc f.fs)]) k
    rw [List.take_succ_cons, rls, rls]
    rw [← h]
    congr 1
    simp; omega
theorem rls_map : ∀ (l : List Fm) (acc : List (Int × Int)), (rls l acc).map (·.1) = acc.map (·.1) ++ l.map (·.id)
  | [], acc => by simp [rls]
  | f :: t, acc => by rw [rls, rls_map t]; simp
theorem rin_append (q : Int) : ∀ (a b : List (Int × Int)) (n : Int), rin q (a ++ b) n = rin q b (rin q a n)
  | [], _, _ => rfl
  | p :: a, b, n => by rw [List.cons_append, rin, rin_append q a b, rin]
theorem rin_none {q : Int} : ∀ {a : List (Int × Int)} {n : Int}, (∀ p ∈ a, p.1 ≠ q) → rin q a n = n
  | [], _, _ => rfl
  | p :: a, n, h => by rw [rin, if_neg (h p (by simp)), rin_none fun x hx => h x (List.mem_cons_of_mem _ hx)]
theorem snoc_ind {α : Type} {P : List α → Prop} (h0 : P []) (h1 : ∀ l x, P l → P (l ++ [x])) (l : List α) : P l := by
  have h : ∀ r : List α, P r.reverse := by
    intro r
    induction r with
    | nil => exact h0
    | cons x r ih => rw [List.reverse_cons]; exact h1 _ _ ih
  have := h l.reverse
  rwa [List.reverse_reverse] at this
theorem lm_ids (d : List Fm) : ∀ p ∈ lm d, ∃ f ∈ d, p.1 = f.id := by
  refine snoc_ind (P := fun d => ∀ p ∈ lm d, ∃ f ∈ d, p.1 = f.id) ?_ ?_ d
  · intro p hp; simp [lm] at hp
  · intro d f ih p hp
    rw [lm_snoc] at hp
    rcases List.mem_cons.1 hp with rfl | hp
    · exact ⟨f, by simp, rfl⟩
    · obtain ⟨g, hg, h⟩ := ih p hp
      exact ⟨g, by simp [hg], h⟩
theorem lk_ids {d : List Fm} {q v : Int} (h : lk (lm d) q = some v) : ∃ f ∈ d, f.id = q := by
  unfold lk at h
  obtain ⟨p, hp, _⟩ := Option.map_eq_some_iff.1 h
  have h1 := List.find?_some hp
  obtain ⟨f, hf, he⟩ := lm_ids d p (List.mem_of_find?_eq_some hp)
  exact ⟨f, hf, he ▸ of_decide_eq_true h1⟩
theorem lk_has {d : List Fm} {q : Int} (h : ∃ f ∈ d, f.id = q) : ∃ v, lk (lm d) q = some v := by
  revert h
  refine snoc_ind (P := fun d => (∃ f ∈ d, f.id = q) → ∃ v, lk (lm d) q = some v) ?_ ?_ d
  · rintro ⟨f, hf, _⟩; simp at hf
  · rintro d f ih ⟨g, hg, he⟩
    rw [lm_snoc, lk_cons]
    split
    · exact ⟨_, rfl⟩
    · rename_i hne
      rcases List.mem_append.1 hg with hg | hg
      · exact ih ⟨g, hg, he⟩
      · simp at hg; subst hg; exact absurd he hne
/-- The ids of valid formats rise. -/
theorem Ok.ids {d : List Fm} {f : Fm} (h : Ok (d ++ [f])) : ∀ g ∈ d, g.id < f.id := by
  have key : ∀ i j, i < j → j < (d ++ [f]).length → ((d ++ [f]).getD i zm).id < ((d ++ [f]).getD j zm).id := by
    intro i j hij hj
    induction j with
    | zero => omega
    | succ j ih =>
      have h1 := h.asc j hj
      rcases Nat.lt_succ_iff_lt_or_eq.1 hij with h2 | rfl
      · exact Int.lt_trans (ih h2 (by omega)) h1
      · exact h1
  intro g hg
  obtain ⟨i, hi, rfl⟩ := List.getElem_of_mem hg
  have := key i d.length hi (by simp)
  rw [getD_snoc_eq, getD_snoc_lt hi] at this
  simpa [List.getD, List.getElem?_eq_getElem hi] using this
/-- What valid formats add: the one with the ID. -/
theorem rin_ok {d : List Fm} (q n : Int) : Ok d → rin q (lm d).reverse n = match lk (lm d) q with
    | some v => w64 (n + v)
    | none => n := by
  refine snoc_ind (P := fun d => Ok d → rin q (lm d).reverse n = match lk (lm d) q with
    | some v => w64 (n + v)
    | none => n) ?_ ?_ d
  · intro _; rfl
  · intro d f ih h
    rw [lm_snoc, List.reverse_cons, rin_append, lk_cons, rin, rin]
    have hids := h.ids
    by_cases e : f.id = q
    · rw [if_pos e, if_pos e]
      simp only
      rw [rin_none fun p hp hq => ?_]
      obtain ⟨g, hg, he⟩ := lm_ids d p (List.mem_reverse.1 hp)
      have := hids g hg
      omega
    · rw [if_neg e, if_neg e]
      exact ih h.snoc_inv.1
theorem rfield_ok {d : List Fm} (h : Ok d) {fs : List Fld} {f : Fld} {n : Int} (hr : right (lm d) fs f = true) (h0 : 0 ≤ n) (h1 : n ≤ 1000000000000) : rfield (lm d).reverse n f = n + lf (lm d) f := by
  have hl := right_lf h.fine hr
  have hk := right_kind hr
  unfold rfield
  unfold lf at hl ⊢
  by_cases k1 : f.kind = 1
  · rw [if_pos k1] at hl ⊢
    rw [if_pos k1, w64_in (by omega) (by omega)]
  · rw [if_neg k1] at hl ⊢
    rw [if_neg k1]
    by_cases k5 : f.kind = 5
    · rw [if_neg (by omega), if_pos k5] at hl ⊢
      rw [if_neg (by omega), if_neg (by omega), if_neg (by omega), if_pos k5, rin_ok f.n n h]
      unfold lkz at hl ⊢
      cases hk : lk (lm d) f.n with
      | none => simp
      | some v =>
        rw [hk] at hl
        simp only [Option.getD_some] at hl ⊢
        rw [w64_in (by omega) (by omega)]
    · by_cases k4 : f.kind = 4
      · rw [if_pos k4]
        rw [if_neg (by omega), if_neg (by omega), if_neg (by omega), if_neg (by omega)]; omega
      · rw [if_neg k4, if_neg k5] at hl ⊢
        have hw : w64 (n + f.n) = n + f.n := w64_in (by omega) (by omega)
        rw [hw, if_neg k5]
        obtain h2 | h2 | h2 : f.kind = 2 ∨ f.kind = 3 ∨ f.kind = 6 := by omega
        · rw [if_pos h2]
        · rw [if_neg (by omega), if_neg (by omega), if_pos h2]
        · rw [if_neg (by omega), if_pos h2]
theorem rsum_snoc (acc : List (Int × Int)) (fs : List Fld) (f : Fld) : rsum acc (fs ++ [f]) = rfield acc (rsum acc fs) f := by unfold rsum; rw [List.foldl_append]; rfl
theorem rsum_ok {d : List Fm} (h : Ok d) (fs : List Fld) : fs.length ≤ 1000 → (∀ k, k < fs.length → right (lm d) (fs.take k) (fs.getD k zf) = true) → rsum (lm d).reverse fs = ls (lm d) fs ∧ 0 ≤ ls (lm d) fs ∧ ls (lm d) fs ≤ 65536 * fs.length := by
  refine snoc_ind (P := fun fs => fs.length ≤ 1000 → (∀ k, k < fs.length → right (lm d) (fs.take k) (fs.getD k zf) = true) → rsum (lm d).reverse fs = ls (lm d) fs ∧ 0 ≤ ls (lm d) fs ∧ ls (lm d) fs ≤ 65536 * fs.length) ?_ ?_ fs
  · intro _ _
    exact ⟨rfl, by simp [ls], by simp [ls]⟩
  · intro fs f ih hl hr
    simp only [List.length_append, List.length_cons, List.length_nil] at hl
    obtain ⟨i1, i2, i3⟩ := ih (by omega) fun k hk => by
      have := hr k (by simp; omega)
      rwa [take_snoc_le (by omega), getD_snoc_lt hk] at this
    have h1 := hr fs.length (by simp)
    rw [take_snoc_le (Nat.le_refl _), getD_snoc_eq, List.take_length] at h1
    have h2 := right_lf h.fine h1
    rw [rsum_snoc, i1, rfield_ok h h1 i2 (by omega), ls_snoc]
    refine ⟨rfl, by omega, ?_⟩
    simp only [List.length_append, List.length_cons, List.length_nil]
    omega
theorem rls_ok {d : List Fm} : Ok d → rls d [] = (lm d).reverse := by
  refine snoc_ind (P := fun d => Ok d → rls d [] = (lm d).reverse) ?_ ?_ d
  · intro _; rfl
  · intro d f ih h
    have h1 := h.snoc_inv
    rw [rls_snoc, ih h1.1, lm_snoc, List.reverse_cons, (rsum_ok h1.1 f.fs (by have := h1.2.few; omega) h1.2.each).1]
/-- The least length of the last format, whose fields are right, behind valid ones. -/
theorem rls_last {d : List Fm} {f : Fm} (h : Ok d) (hl : f.fs.length ≤ 1000) (hr : ∀ k, k < f.fs.length → right (lm d) (f.fs.take k) (f.fs.getD k zf) = true) : ((rls (d ++ [f]) []).getD d.length (0, 0)).2 = ls (lm d) f.fs := by
  rw [rls_snoc, rls_ok h, (rsum_ok h f.fs hl hr).1]
  have hlen : (lm d).reverse.length = d.length := by rw [← rls_ok h, rls_len]; simp
  rw [← hlen]
  simp [List.getD]
/-- The least length of a format among valid ones. -/
theorem rls_at {d : List Fm} : Ok d → ∀ {i : Nat}, i < d.length → ((rls d []).getD i (0, 0)).2 = lkz (lm d) (d.getD i zm).id ∧ knows (lm d) (d.getD i zm).id = true := by
  refine snoc_ind (P := fun d => Ok d → ∀ {i : Nat}, i < d.length → ((rls d []).getD i (0, 0)).2 = lkz (lm d) (d.getD i zm).id ∧ knows (lm d) (d.getD i zm).id = true) ?_ ?_ d
  · intro _ i hi; simp at hi
  · intro d f ih h i hi
    have h1 := h.snoc_inv
    have hids := h.ids
    have hlen : (rls d []).length = d.length := by rw [rls_len]; simp
    rw [rls_snoc]
    by_cases hd : i < d.length
    · have e1 : (rls d [] ++ [(f.id, rsum (rls d []) f.fs)]).getD i (0, 0) = (rls d []).getD i (0, 0) := getD_snoc_lt (by omega)
      have e2 : (d ++ [f]).getD i zm = d.getD i zm := getD_snoc_lt hd
      obtain ⟨i1, i2⟩ := ih h1.1 hd
      have hlt : (d.getD i zm).id < f.id := hids _ (by simp [List.getD, List.getElem?_eq_getElem hd])
      rw [e1, e2, lm_snoc, lkz_cons, if_neg (by simp only; omega), i1]
      refine ⟨rfl, ?_⟩
      unfold knows at i2 ⊢
      rw [lk_cons, if_neg (by simp only; omega)]
      exact i2
    · have hi2 : i = d.length := by simp at hi; omega
      subst hi2
      have e2 : (d ++ [f]).getD d.length zm = f := getD_snoc_eq
      have e1 := rls_last (d := d) (f := f) h1.1 (by have := h1.2.few; omega) h1.2.each
      rw [rls_snoc] at e1
      rw [e1, e2, lm_snoc, lkz_cons, if_pos rfl]
      refine ⟨rfl, ?_⟩
      unfold knows
      rw [lk_cons, if_pos rfl]; rfl
end Fx
end Go.Proofs.YtcnokccgdiodlaaGreatDoor
