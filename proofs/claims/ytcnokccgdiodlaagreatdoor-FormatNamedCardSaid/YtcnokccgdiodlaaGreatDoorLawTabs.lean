/- Plain facts for the laws on tables: the first formats, those that one names, and least lengths that add up. No condition of its own. -/
import Derived.Test.YtcnokccgdiodlaaGreatDoorRefH
namespace Go.Proofs.YtcnokccgdiodlaaGreatDoor
namespace Fx

theorem getD_mem {α : Type} {l : List α} {z : α} {i : Nat} (h : i < l.length) : l.getD i z ∈ l := by
  simp only [List.getD, List.getElem?_eq_getElem h, Option.getD_some]
  exact List.getElem_mem _
theorem mem_getD {α : Type} {l : List α} {z x : α} (h : x ∈ l) : ∃ i, i < l.length ∧ l.getD i z = x := by
  obtain ⟨i, hi, rfl⟩ := List.getElem_of_mem h
  exact ⟨i, hi, by simp [List.getD, List.getElem?_eq_getElem hi]⟩
theorem take_succ {α : Type} {l : List α} {z : α} {i : Nat} (h : i < l.length) : l.take (i + 1) = l.take i ++ [l.getD i z] := by
  rw [List.take_add_one, List.getElem?_eq_getElem h]
  simp [List.getD, List.getElem?_eq_getElem h]
/-- The ids of a valid table rise. -/
theorem Ok.lt {l : List Fm} (h : Ok l) {i j : Nat} (hij : i < j) (hj : j < l.length) : (l.getD i zm).id < (l.getD j zm).id := by
  have h1 := (h.take (j + 1))
  rw [take_succ (z := zm) hj] at h1
  have h2 := h1.ids (l.getD i zm)
  apply h2
  have h3 : (l.take j).getD i zm = l.getD i zm := getD_take hij
  rw [← h3]
  exact getD_mem (by rw [List.length_take]; omega)
/-- The first formats of a valid table have the same least lengths. -/
theorem first_least {l : List Fm} (h : Ok l) {k i : Nat} (hi : i < l.length) : least (l.take k) (l.getD i zm).id = if i < k then least l (l.getD i zm).id else 0 := by
  split
  · rename_i hk
    have e : (l.take k).getD i zm = l.getD i zm := getD_take hk
    rw [← e, ← least_idx (h.take k) (by rw [List.length_take]; omega), e, ← least_idx h hi]
    have h1 := rls_take l [] k
    rw [List.length_nil, Nat.zero_add] at h1
    rw [← h1, List.map_take, getD_take hk]
  · rename_i hk
    refine least_not fun j hj => ?_
    rw [List.length_take] at hj
    rw [getD_take (by omega)]
    have := h.lt (i := j) (j := i) (by omega) hi
    omega

/-! the formats that one names -/
/-- The formats that are kept, of the first ones. -/
def keepL (κ : Nat → Bool) (l : List Fm) : Nat → List Fm
  | 0 => []
  | i + 1 => if κ i then keepL κ l i ++ [l.getD i zm] else keepL κ l i
def isNest (f : Fld) : Prop := f.kind = 4 ∨ f.kind = 5
/-- What is kept names only what is kept. -/
def Closed (κ : Nat → Bool) (l : List Fm) : Prop := ∀ i, i < l.length → κ i = true → ∀ k, k < (l.getD i zm).fs.length → isNest ((l.getD i zm).fs.getD k zf) → ∀ j, j < i → (l.getD j zm).id = ((l.getD i zm).fs.getD k zf).n → κ j = true
theorem right_congr {m m' : List (Int × Int)} {fs : List Fld} {f : Fld} (h : isNest f → lk m f.n = lk m' f.n) : right m fs f = right m' fs f := by
  unfold isNest at h
  unfold right nests tells knows lkz
  by_cases h4 : f.kind = 4
  · rw [h (.inl h4)]
  · by_cases h5 : f.kind = 5
    · rw [h (.inr h5)]
    · simp only [if_neg h4, if_neg h5]
theorem lf_congr {m m' : List (Int × Int)} {f : Fld} (h : isNest f → lk m f.n = lk m' f.n) : lf m f = lf m' f := by
  unfold isNest at h
  unfold lf lkz
  by_cases h5 : f.kind = 5
  · rw [h (.inr h5)]
  · simp only [if_neg h5]
theorem nest_knows {m : List (Int × Int)} {fs : List Fld} {f : Fld} (hn : isNest f) (h : right m fs f = true) : knows m f.n = true := by
  rcases hn with h4 | h5
  · rw [right_4 h4] at h; exact (nests_of h).2.1
  · rw [right_5 h5, Bool.and_eq_true] at h; exact (nests_of h.1).2.1
theorem keep_all {κ : Nat → Bool} {l : List Fm} (h : Ok l) (hc : Closed κ l) : ∀ i, i ≤ l.length → Ok (keepL κ l i) ∧ (∀ j, j < i → κ j = true → lk (lm (keepL κ l i)) (l.getD j zm).id = lk (lm (l.take i)) (l.getD j zm).id) ∧ (∀ f ∈ keepL κ l i, ∃ j, j < i ∧ κ j = true ∧ f = l.getD j zm) ∧ (keepL κ l i).length ≤ i
  | 0, _ => ⟨ok_nil, fun j hj => by omega, fun f hf => by simp [keepL] at hf, by simp [keepL]⟩
  | i + 1, hi => by
    obtain ⟨h1, h2, h3, h4⟩ := keep_all h hc i (by omega)
    have hlen := h.few
    have hne : ∀ j, j < i → (l.getD i zm).id ≠ (l.getD j zm).id := fun j hj => by have := h.lt hj (by omega : i < l.length); omega
    unfold keepL
    rw [take_succ (z := zm) (by omega)]
    by_cases hk : κ i = true
    · rw [if_pos hk]
      have hf := h.each i (by omega)
      have key : ∀ k, k < (l.getD i zm).fs.length → isNest ((l.getD i zm).fs.getD k zf) → lk (lm (keepL κ l i)) ((l.getD i zm).fs.getD k zf).n = lk (lm (l.take i)) ((l.getD i zm).fs.getD k zf).n := by
        intro k hkl hn
        have hkn := nest_knows hn (hf.each k hkl)
        unfold knows at hkn
        obtain ⟨v, hv⟩ := Option.isSome_iff_exists.1 hkn
        obtain ⟨f, hfm, he⟩ := lk_ids hv
        obtain ⟨j, hj, rfl⟩ := mem_getD (z := zm) hfm
        rw [List.length_take] at hj
        rw [getD_take (by omega)] at he
        rw [← he]
        exact h2 j (by omega) (hc i (by omega) hk k hkl hn j (by omega) he)
      have hls : ls (lm (keepL κ l i)) (l.getD i zm).fs = ls (lm (l.take i)) (l.getD i zm).fs := by
        unfold ls
        congr 1
        refine List.map_congr_left fun g hg => ?_
        obtain ⟨k, hkl, rfl⟩ := mem_getD (z := zf) hg
        exact lf_congr (key k hkl)
      have hOk : FmOk (keepL κ l i) (l.getD i zm) := ⟨hf.lo, hf.hi, hf.some_, hf.few, fun k hkl => by rw [right_congr (key k hkl)]; exact hf.each k hkl, by rw [hls]; exact hf.len⟩
      refine ⟨h1.snoc hOk (by omega) fun g hg => ?_, fun j hj hkj => ?_, fun f hfm => ?_, by simp; omega⟩
      · obtain ⟨j, hj, _, rfl⟩ := h3 g hg
        exact h.lt hj (by omega)
      · rw [lm_snoc, lm_snoc, lk_cons, lk_cons]
        simp only
        by_cases e : (l.getD i zm).id = (l.getD j zm).id
        · rw [if_pos e, if_pos e, hls]
        · rw [if_neg e, if_neg e]
          have : j ≠ i := fun h => e (by rw [h])
          exact h2 j (by omega) hkj
      · rcases List.mem_append.1 hfm with hm | hm
        · obtain ⟨j, hj, a, b⟩ := h3 f hm
          exact ⟨j, by omega, a, b⟩
        · simp only [List.mem_singleton] at hm
          exact ⟨i, by omega, hk, hm⟩
    · rw [if_neg hk]
      refine ⟨h1, fun j hj hkj => ?_, fun f hfm => ?_, by omega⟩
      · have : j ≠ i := fun h => hk (by rw [← h]; exact hkj)
        rw [lm_snoc, lk_cons]
        simp only
        rw [if_neg (hne j (by omega))]
        exact h2 j (by omega) hkj
      · obtain ⟨j, hj, a, b⟩ := h3 f hfm
        exact ⟨j, by omega, a, b⟩
/-- The formats that one names are a valid table with the same least lengths. -/
theorem named {κ : Nat → Bool} {l : List Fm} (h : Ok l) (hc : Closed κ l) : Ok (keepL κ l l.length) ∧ (∀ f ∈ keepL κ l l.length, least (keepL κ l l.length) f.id = least l f.id) ∧ (keepL κ l l.length).length ≤ l.length ∧ ∀ f ∈ keepL κ l l.length, f ∈ l := by
  obtain ⟨h1, h2, h3, h4⟩ := keep_all h hc l.length (Nat.le_refl _)
  refine ⟨h1, fun f hf => ?_, h4, fun f hf => ?_⟩
  · obtain ⟨j, hj, hk, rfl⟩ := h3 f hf
    have := h2 j hj hk
    rw [List.take_length] at this
    unfold least lkz
    rw [if_pos (vd_iff.2 h1), if_pos (vd_iff.2 h), this]
  · obtain ⟨j, hj, hk, rfl⟩ := h3 f hf
    exact getD_mem hj

/-! least lengths of what Make makes -/
def lenB : Nat → Int
  | 0 => 4
  | i + 1 => 4 * lenB i + 8
theorem lenB_lo : ∀ i, 4 ≤ lenB i
  | 0 => by decide
  | i + 1 => by have := lenB_lo i; unfold lenB; omega
theorem lenB_mono {i j : Nat} (h : i ≤ j) : lenB i ≤ lenB j := by
  induction j with
  | zero => have : i = 0 := by omega
            subst this; exact Int.le_refl _
  | succ j ih =>
    rcases Nat.lt_or_ge i (j + 1) with h1 | h1
    · have := ih (by omega); have := lenB_lo j; have e : lenB (j + 1) = 4 * lenB j + 8 := rfl; omega
    · have : i = j + 1 := by omega
      subst this; exact Int.le_refl _
theorem lf_mk {m : List (Int × Int)} {fs : List Fld} {f : Fld} {b : Int} (hm : MkF f) (hr : right m fs f = true) (hb : ∀ q, lkz m q ≤ b) (h4 : 4 ≤ b) : lf m f ≤ b ∧ (f.kind ≠ 5 → lf m f ≤ 4) := by
  have ht := hm.t
  have hk := right_kind hr
  unfold lf
  by_cases k1 : f.kind = 1
  · rw [if_pos k1]; omega
  · rw [if_neg k1]
    by_cases k4 : f.kind = 4
    · rw [if_pos k4]; omega
    · rw [if_neg k4]
      by_cases k5 : f.kind = 5
      · rw [if_pos k5]; exact ⟨hb _, fun h => absurd k5 h⟩
      · rw [if_neg k5]
        have : f.n ≤ 4 := by
          obtain k | k | k : f.kind = 2 ∨ f.kind = 3 ∨ f.kind = 6 := by omega
          · rw [right_2 k] at hr; have := sized_of hr; omega
          · have := hm.n k; omega
          · rw [right_6 k] at hr; have := sized_of hr; omega
        omega
theorem inside_counts {m : List (Int × Int)} {fs : List Fld} {f : Fld} (h5 : f.kind = 5) (hr : right m fs f = true) : counts fs f.frm = true := by
  rw [right_5 h5, Bool.and_eq_true] at hr
  exact (nests_of hr.1).2.2
theorem ls_mk {m : List (Int × Int)} {fs : List Fld} {b : Int} (hl : fs.length ≤ 6) (hr : ∀ k, k < fs.length → right m (fs.take k) (fs.getD k zf) = true) (hm : ∀ k, k < fs.length → MkF (fs.getD k zf)) (hb : ∀ q, lkz m q ≤ b) (h4 : 4 ≤ b) : ls m fs ≤ 4 * b + 8 := by
  have h0 : ∀ k, lf m (fs.getD k zf) ≤ b ∧ ((fs.getD k zf).kind ≠ 5 → lf m (fs.getD k zf) ≤ 4) := fun k => by
    by_cases hk : k < fs.length
    · exact lf_mk (hm k hk) (hr k hk) hb h4
    · have : fs.getD k zf = zf := by simp [List.getD, List.getElem?_eq_none (by omega : fs.length ≤ k)]
      rw [this]
      have : lf m zf = 0 := by simp [lf, zf]
      rw [this]; exact ⟨by omega, fun _ => by omega⟩
  have k0 : (fs.getD 0 zf).kind ≠ 5 := fun h => by
    by_cases hk : 0 < fs.length
    · have := counts_of (inside_counts h (hr 0 hk))
      simp at this
      omega
    · have : fs.getD 0 zf = zf := by simp [List.getD, List.getElem?_eq_none (by omega : fs.length ≤ 0)]
      rw [this] at h; simp [zf] at h
  have k12 : (fs.getD 1 zf).kind ≠ 5 ∨ (fs.getD 2 zf).kind ≠ 5 := by
    by_cases h1 : (fs.getD 1 zf).kind = 5
    · right
      intro h2
      by_cases hk : 2 < fs.length
      · obtain ⟨a1, a2, _, _⟩ := counts_of (inside_counts h1 (hr 1 (by omega)))
        obtain ⟨b1, b2, b3, b4⟩ := counts_of (inside_counts h2 (hr 2 hk))
        rw [List.length_take] at a2 b2
        have hq : (fs.getD 2 zf).frm ≠ (fs.getD 1 zf).frm := fun e => by
          refine b4 (fs.getD 1 zf) ?_ e.symm
          have : (fs.take 2).getD 1 zf = fs.getD 1 zf := getD_take (by omega)
          rw [← this]
          exact getD_mem (by rw [List.length_take]; omega)
        have e : (fs.getD 2 zf).frm.toNat = 1 := by omega
        rw [e, getD_take (by omega)] at b3
        omega
      · have : fs.getD 2 zf = zf := by simp [List.getD, List.getElem?_eq_none (by omega : fs.length ≤ 2)]
        rw [this] at h2; simp [zf] at h2
    · exact .inl h1
  have x0 := (h0 0).2 k0
  have x1 := h0 1
  have x2 := h0 2
  have x3 := (h0 3).1
  have x4 := (h0 4).1
  have x5 := (h0 5).1
  have hsum : ls m fs = lf m (fs.getD 0 zf) + lf m (fs.getD 1 zf) + lf m (fs.getD 2 zf) + lf m (fs.getD 3 zf) + lf m (fs.getD 4 zf) + lf m (fs.getD 5 zf) := by
    have z : lf m zf = 0 := by simp [lf, zf]
    match fs, hl with
    | [], _ => simp [ls, z]
    | [a], _ => simp [ls, z]
    | [a, b], _ => simp [ls, z]
    | [a, b, c], _ => simp [ls, z]; omega
    | [a, b, c, d], _ => simp [ls, z]; omega
    | [a, b, c, d, e], _ => simp [ls, z]; omega
    | [a, b, c, d, e, f], _ => simp [ls]; omega
    | a :: b :: c :: d :: e :: f :: g :: t, h => simp at h
  rcases k12 with k | k
  · have := x1.2 k; have := x2.1; omega
  · have := x2.2 k; have := x1.1; omega
theorem mk_lens {l : List Fm} (h : Mk l) : ∀ i, i ≤ l.length → ∀ q, lkz (lm (l.take i)) q ≤ lenB i
  | 0, _, q => by rw [List.take_zero, lm_nil]; unfold lkz; rw [lk_nil]; decide
  | i + 1, hi, q => by
    have ih := mk_lens h i (by omega)
    rw [take_succ (z := zm) (by omega), lm_snoc, lkz_cons]
    have hf := h.ok.each i (by omega)
    have e : lenB (i + 1) = 4 * lenB i + 8 := rfl
    have := lenB_lo i
    split
    · rw [e]
      exact ls_mk (h.fs i (by omega)) hf.each (h.each i (by omega)) ih (by omega)
    · have := ih q; omega
theorem mk_len {l : List Fm} (h : Mk l) (q : Int) : lkz (lm l) q ≤ 27304 := by
  have h1 := mk_lens h l.length (Nat.le_refl _) q
  rw [List.take_length] at h1
  have h2 := lenB_mono (i := l.length) (j := 6) h.few
  have h3 : lenB 6 = 27304 := by decide
  omega
/-- A format with two others inside, each with its number. -/
def fiveH (one two : Int) : Fm := ⟨500, [⟨2, 3, -1, eb⟩, ⟨2, 3, -1, eb⟩, ⟨5, one, 0, eb⟩, ⟨5, two, 1, eb⟩]⟩
/-- A format with a list. -/
def fiveI : Fm := ⟨501, [⟨2, 1, -1, eb⟩, ⟨4, 500, 0, eb⟩]⟩
theorem inside_right {m : List (Int × Int)} {fs : List Fld} {q p : Int} (h1 : knows m q = true) (h2 : counts fs p = true) (h3 : Fine m) (h4 : (fs.getD p.toNat zf).n = 3) : right m fs ⟨5, q, p, eb⟩ = true := by
  rw [right_5 rfl, Bool.and_eq_true]
  refine ⟨?_, ?_⟩
  · unfold nests
    simp only [h1, h2]
    simp [eb]
  · unfold tells
    simp only [h4]
    have := h3.lkz q
    exact decide_eq_true (by
      have e : (2 : Int) ^ (8 * (3 : Int)).toNat = 16777216 := by decide
      rw [e]; omega)
theorem least_adds {l : List Fm} (h : Mk l) {a b : Nat} (ha : a < l.length) (hb : b < l.length) :
    vd ((l ++ [fiveH (l.getD a zm).id (l.getD b zm).id]) ++ [fiveI]) = true ∧
    least (l ++ [fiveH (l.getD a zm).id (l.getD b zm).id]) 500 = 6 + least l (l.getD a zm).id + least l (l.getD b zm).id ∧
    least ((l ++ [fiveH (l.getD a zm).id (l.getD b zm).id]) ++ [fiveI]) 501 = 1 ∧
    least ((l ++ [fiveH (l.getD a zm).id (l.getD b zm).id]) ++ [fiveI]) 500 = least (l ++ [fiveH (l.getD a zm).id (l.getD b zm).id]) 500 := by
  obtain ⟨p, hp⟩ : ∃ p, p = (l.getD a zm).id := ⟨_, rfl⟩
  obtain ⟨q, hq⟩ : ∃ q, q = (l.getD b zm).id := ⟨_, rfl⟩
  have kp := (rls_at h.ok ha).2
  have kq := (rls_at h.ok hb).2
  rw [← hp] at kp
  rw [← hq] at kq
  rw [← hp, ← hq]
  have hF := h.ok.fine
  have lp := mk_len h p
  have lq := mk_len h q
  have fp := hF.lkz p
  have fq := hF.lkz q
  have hls : ls (lm l) (fiveH p q).fs = 6 + lkz (lm l) p + lkz (lm l) q := by simp [ls, lf, fiveH]; omega
  have hlen := h.few
  have o1 : FmOk l (fiveH p q) := by
    refine ⟨by show (1 : Int) ≤ 500; decide, by show (500 : Int) ≤ 1000000; decide, by show 1 ≤ 4; decide, by show 4 ≤ 16; decide, fun k hk => ?_, by rw [hls]; omega⟩
    have hk4 : k < 4 := hk
    obtain rfl | rfl | rfl | rfl : k = 0 ∨ k = 1 ∨ k = 2 ∨ k = 3 := by omega
    · show right (lm l) [] ⟨2, 3, -1, eb⟩ = true
      rw [right_2 rfl]; decide
    · show right (lm l) [⟨2, 3, -1, eb⟩] ⟨2, 3, -1, eb⟩ = true
      rw [right_2 rfl]; decide
    · exact inside_right kp (by rfl) hF rfl
    · exact inside_right kq (by rfl) hF rfl
  have m1 : Ok (l ++ [fiveH p q]) := h.ok.snoc o1 (by omega) fun g hg => by
    obtain ⟨j, hj, rfl⟩ := mem_getD (z := zm) hg
    have := (h.ids j hj).2
    show _ < (500 : Int); omega
  have hlm : lm (l ++ [fiveH p q]) = (500, 6 + lkz (lm l) p + lkz (lm l) q) :: lm l := by rw [lm_snoc, hls]; rfl
  have hls2 : ls (lm (l ++ [fiveH p q])) fiveI.fs = 1 := by simp [ls, lf, fiveI]
  have o2 : FmOk (l ++ [fiveH p q]) fiveI := by
    refine ⟨by decide, by decide, by decide, by decide, fun k hk => ?_, by rw [hls2]; decide⟩
    have hk4 : k < 2 := hk
    obtain rfl | rfl : k = 0 ∨ k = 1 := by omega
    · show right _ [] ⟨2, 1, -1, eb⟩ = true
      rw [right_2 rfl]; decide
    · show right _ [⟨2, 1, -1, eb⟩] ⟨4, 500, 0, eb⟩ = true
      rw [right_4 rfl, hlm]
      unfold nests
      have k5 : knows ((500, 6 + lkz (lm l) p + lkz (lm l) q) :: lm l) 500 = true := by unfold knows; rw [lk_cons, if_pos rfl]; rfl
      simp only [k5]
      decide
  have m2 : Ok ((l ++ [fiveH p q]) ++ [fiveI]) := m1.snoc o2 (by simp; omega) fun g hg => by
    rcases List.mem_append.1 hg with hg | hg
    · obtain ⟨j, hj, rfl⟩ := mem_getD (z := zm) hg
      have := (h.ids j hj).2
      show _ < (501 : Int); omega
    · simp only [List.mem_singleton] at hg
      subst hg
      show (500 : Int) < 501
      decide
  have hlm2 : lm ((l ++ [fiveH p q]) ++ [fiveI]) = (501, 1) :: lm (l ++ [fiveH p q]) := by rw [lm_snoc, hls2]; rfl
  have L : least (l ++ [fiveH p q]) 500 = 6 + lkz (lm l) p + lkz (lm l) q := by
    unfold least
    rw [if_pos (vd_iff.2 m1), hlm, lkz_cons, if_pos rfl]
  refine ⟨vd_iff.2 m2, ?_, ?_, ?_⟩
  · rw [L]
    unfold least
    rw [if_pos (vd_iff.2 h.ok), if_pos (vd_iff.2 h.ok)]
  · unfold least
    rw [if_pos (vd_iff.2 m2), hlm2, lkz_cons, if_pos rfl]
  · rw [L]
    unfold least
    rw [if_pos (vd_iff.2 m2), hlm2, lkz_cons, if_neg (by decide), hlm, lkz_cons, if_pos rfl]
end Fx
open Go.RowKit in
theorem QsAt.below {w w' : World} {v : Value} {n : Nat} (h : QsAt w v n) (hb : Below w.heap.size w w') : QsAt w' v n := by
  rcases h with h | ⟨b, off, cap, rfl, h1, h2, h3, h4, h5⟩
  · exact .inl h
  · refine .inr ⟨b, off, cap, rfl, h1, h2, h3, Nat.lt_of_lt_of_le h4 hb.size, fun i j hi hj => ?_⟩
    obtain ⟨z, hz, hr⟩ := h5 i j hi hj
    exact ⟨z, (hb.cell (p := ⟨b, off + i * 4 + j, none⟩) h4).trans hz, hr⟩
end Go.Proofs.YtcnokccgdiodlaaGreatDoor
