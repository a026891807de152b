/- Plain facts on trees of digests, their proofs and extensions, and on chains, over any function H in the place of the digest. No condition of its own. -/
namespace Go.Proofs.YtlnlhjkdbpkaiaaDoor
namespace Dt

abbrev B := ByteArray
/-- The greatest power of two that is less than n. -/
def lk (n : Nat) : Nat := 2 ^ Nat.log2 (n - 1)

theorem lk_pos (n : Nat) : 1 ≤ lk n := Nat.one_le_two_pow
theorem lk_lt {n : Nat} (h : 2 ≤ n) : lk n < n := by
  have := Nat.log2_self_le (n := n - 1) (by omega)
  unfold lk; omega
theorem lk_half {n : Nat} (h : 2 ≤ n) : n ≤ lk n + lk n := by
  have := Nat.lt_log2_self (n := n - 1)
  have e : 2 ^ ((n - 1).log2 + 1) = 2 ^ (n - 1).log2 + 2 ^ (n - 1).log2 := by rw [Nat.pow_succ]; omega
  unfold lk; omega
theorem lk_of {n j : Nat} (h1 : 2 ^ j < n) (h2 : n ≤ 2 ^ j + 2 ^ j) : lk n = 2 ^ j := by
  unfold lk
  have hn : n - 1 ≠ 0 := by have := Nat.one_le_two_pow (n := j); omega
  have : (n - 1).log2 = j := by
    apply Nat.le_antisymm
    · have := (Nat.log2_lt (n := n - 1) (k := j + 1) hn).2 (by rw [Nat.pow_succ]; omega)
      omega
    · exact (Nat.le_log2 hn).2 (by omega)
  rw [this]
theorem lk_between {n m : Nat} (h : 2 ≤ n) (h1 : lk n < m) (h2 : m ≤ n) : lk m = lk n := by
  have := lk_half h
  exact lk_of (j := (n - 1).log2) h1 (by unfold lk at this; omega)
theorem lk_le_pow {n j : Nat} (h : 2 ≤ n) (hj : n ≤ 2 ^ (j + 1)) : lk n ≤ 2 ^ j := by
  unfold lk
  refine Nat.pow_le_pow_right (by omega) ?_
  have := (Nat.log2_lt (n := n - 1) (k := j + 1) (by omega)).2 (by omega)
  omega

section
variable (H : B → B)
def leafS (s : B) : B := ⟨#[0]⟩ ++ s
def nodeS (a b : B) : B := ⟨#[1]⟩ ++ a ++ b
def chainS (a b : B) : B := ⟨#[2]⟩ ++ a ++ b
def leaf (s : B) : B := H (leafS s)
def node (a b : B) : B := H (nodeS a b)
def chain (a b : B) : B := H (chainS a b)

theorem ba_ext {a b : B} (h : a.data.toList = b.data.toList) : a = b := by
  apply ByteArray.ext; exact Array.toList_inj.1 h
theorem ba_append (a b : B) : (a ++ b).data.toList = a.data.toList ++ b.data.toList := by simp
theorem ba_len (a : B) : a.data.toList.length = a.size := by simp
theorem leafS_inj {a b : B} (h : leafS a = leafS b) : a = b := by
  have := congrArg (fun x : B => x.data.toList) h
  unfold leafS at this
  simp only [ba_append] at this
  exact ba_ext (List.append_cancel_left this)
theorem nodeS_inj {a b c d : B} (h : nodeS a b = nodeS c d) (hs : b.size = d.size) : a = c ∧ b = d := by
  have := congrArg (fun x : B => x.data.toList) h
  unfold nodeS at this
  simp only [ba_append, List.append_assoc] at this
  obtain ⟨h1, h2⟩ := List.append_inj' (List.append_cancel_left this) (by rw [ba_len, ba_len, hs])
  exact ⟨ba_ext h1, ba_ext h2⟩
theorem nodeS_inj' {a b c d : B} (h : nodeS a b = nodeS c d) (hs : a.size = c.size) : a = c ∧ b = d := by
  have := congrArg (fun x : B => x.data.toList) h
  unfold nodeS at this
  simp only [ba_append, List.append_assoc] at this
  obtain ⟨h1, h2⟩ := List.append_inj (List.append_cancel_left this) (by rw [ba_len, ba_len, hs])
  exact ⟨ba_ext h1, ba_ext h2⟩
theorem chainS_inj {a b c d : B} (h : chainS a b = chainS c d) (hs : a.size = c.size) : a = c ∧ b = d := by
  have := congrArg (fun x : B => x.data.toList) h
  unfold chainS at this
  simp only [ba_append, List.append_assoc] at this
  obtain ⟨h1, h2⟩ := List.append_inj (List.append_cancel_left this) (by rw [ba_len, ba_len, hs])
  exact ⟨ba_ext h1, ba_ext h2⟩

/-! ### The root -/
def rootF : Nat → List B → B
  | 0, _ => H ByteArray.empty
  | f + 1, l => match l with
    | [] => H ByteArray.empty
    | [x] => leaf H x
    | x :: y :: t => node H (rootF f ((x :: y :: t).take (lk (t.length + 2)))) (rootF f ((x :: y :: t).drop (lk (t.length + 2))))
def root (l : List B) : B := rootF H l.length l
theorem rootF_more {f : Nat} {l : List B} (h : 2 ≤ l.length) : rootF H (f + 1) l = node H (rootF H f (l.take (lk l.length))) (rootF H f (l.drop (lk l.length))) := by
  match l, h with
  | x :: y :: t, _ => rfl
theorem rootF_eq (n : Nat) : ∀ (l : List B) (f g : Nat), l.length = n → n ≤ f → n ≤ g → rootF H f l = rootF H g l := by
  induction n using Nat.strongRecOn with
  | _ n ih =>
    intro l f g hn hf hg
    by_cases h2 : 2 ≤ l.length
    · obtain ⟨f, rfl⟩ : ∃ k, f = k + 1 := ⟨f - 1, by omega⟩
      obtain ⟨g, rfl⟩ : ∃ k, g = k + 1 := ⟨g - 1, by omega⟩
      rw [rootF_more H h2, rootF_more H h2]
      have a1 := lk_lt h2
      have a2 := lk_pos l.length
      rw [ih (lk l.length) (by omega) (l.take (lk l.length)) f g (by simp; omega) (by omega) (by omega), ih (l.length - lk l.length) (by omega) (l.drop (lk l.length)) f g (by simp) (by omega) (by omega)]
    · match l, h2 with
      | [], _ => cases f <;> cases g <;> rfl
      | [x], _ =>
        obtain ⟨f, rfl⟩ : ∃ k, f = k + 1 := ⟨f - 1, by simp at hn; omega⟩
        obtain ⟨g, rfl⟩ : ∃ k, g = k + 1 := ⟨g - 1, by simp at hn; omega⟩
        rfl
      | x :: y :: t, h => exact absurd (by simp) h
theorem root_nil : root H [] = H ByteArray.empty := rfl
theorem root_one (x : B) : root H [x] = leaf H x := rfl
theorem root_more {l : List B} (h : 2 ≤ l.length) : root H l = node H (root H (l.take (lk l.length))) (root H (l.drop (lk l.length))) := by
  have a1 := lk_lt h
  have a2 := lk_pos l.length
  unfold root
  obtain ⟨f, hf⟩ : ∃ k, l.length = k + 1 := ⟨l.length - 1, by omega⟩
  rw [show rootF H l.length l = rootF H (f + 1) l by rw [hf], rootF_more H h]
  rw [rootF_eq H _ (l.take (lk l.length)) f (l.take (lk l.length)).length rfl (by simp; omega) (Nat.le_refl _), rootF_eq H _ (l.drop (lk l.length)) f (l.drop (lk l.length)).length rfl (by simp; omega) (Nat.le_refl _)]
theorem root_size (hH : ∀ s, (H s).size = 32) (l : List B) : (root H l).size = 32 := by
  by_cases h : 2 ≤ l.length
  · rw [root_more H h]; exact hH _
  · match l, h with
    | [], _ => exact hH _
    | [x], _ => exact hH _
    | x :: y :: t, h => exact absurd (by simp) h

/-! ### The proof of an entry -/
def sibsF : Nat → List B → Nat → List B
  | 0, _, _ => []
  | f + 1, l, i => if l.length ≤ 1 then [] else
    if i < lk l.length then sibsF f (l.take (lk l.length)) i ++ [root H (l.drop (lk l.length))]
    else sibsF f (l.drop (lk l.length)) (i - lk l.length) ++ [root H (l.take (lk l.length))]
def sibs (l : List B) (i : Nat) : List B := sibsF H l.length l i
theorem sibsF_eq (n : Nat) : ∀ (l : List B) (i f g : Nat), l.length = n → n ≤ f → n ≤ g → sibsF H f l i = sibsF H g l i := by
  induction n using Nat.strongRecOn with
  | _ n ih =>
    intro l i f g hn hf hg
    by_cases h2 : l.length ≤ 1
    · cases f <;> cases g <;> simp [sibsF, h2]
    · obtain ⟨f, rfl⟩ : ∃ k, f = k + 1 := ⟨f - 1, by omega⟩
      obtain ⟨g, rfl⟩ : ∃ k, g = k + 1 := ⟨g - 1, by omega⟩
      have a1 := lk_lt (n := l.length) (by omega)
      have a2 := lk_pos l.length
      unfold sibsF
      rw [if_neg h2, if_neg h2, ih (lk l.length) (by omega) (l.take (lk l.length)) i f g (by simp; omega) (by omega) (by omega), ih (l.length - lk l.length) (by omega) (l.drop (lk l.length)) (i - lk l.length) f g (by simp) (by omega) (by omega)]
theorem sibs_one {l : List B} (h : l.length ≤ 1) (i : Nat) : sibs H l i = [] := by
  unfold sibs; cases hl : l.length <;> simp [sibsF, h]
theorem sibs_more {l : List B} (h : 2 ≤ l.length) (i : Nat) : sibs H l i = if i < lk l.length then sibs H (l.take (lk l.length)) i ++ [root H (l.drop (lk l.length))] else sibs H (l.drop (lk l.length)) (i - lk l.length) ++ [root H (l.take (lk l.length))] := by
  have a1 := lk_lt h
  have a2 := lk_pos l.length
  unfold sibs
  obtain ⟨f, hf⟩ : ∃ k, l.length = k + 1 := ⟨l.length - 1, by omega⟩
  rw [show sibsF H l.length l i = sibsF H (f + 1) l i by rw [hf]]
  rw [sibsF, if_neg (by omega : ¬ l.length ≤ 1), sibsF_eq H _ (l.take (lk l.length)) i f (l.take (lk l.length)).length rfl (by simp; omega) (Nat.le_refl _), sibsF_eq H _ (l.drop (lk l.length)) (i - lk l.length) f (l.drop (lk l.length)).length rfl (by simp; omega) (Nat.le_refl _)]
theorem sibs_left {l : List B} (h : 2 ≤ l.length) {i : Nat} (hi : i < lk l.length) : sibs H l i = sibs H (l.take (lk l.length)) i ++ [root H (l.drop (lk l.length))] := by rw [sibs_more H h, if_pos hi]
theorem sibs_right {l : List B} (h : 2 ≤ l.length) {i : Nat} (hi : ¬ i < lk l.length) : sibs H l i = sibs H (l.drop (lk l.length)) (i - lk l.length) ++ [root H (l.take (lk l.length))] := by rw [sibs_more H h, if_neg hi]

/-- The elements of a proof are digests. -/
def Digs (l : List B) : Prop := ∀ x ∈ l, x.size = 32
theorem sibs_digs (hH : ∀ s, (H s).size = 32) (n : Nat) : ∀ (l : List B) (i : Nat), l.length = n → Digs (sibs H l i) := by
  induction n using Nat.strongRecOn with
  | _ n ih =>
    intro l i hn
    by_cases h2 : 2 ≤ l.length
    · have a1 := lk_lt h2
      have a2 := lk_pos l.length
      by_cases hi : i < lk l.length
      · rw [sibs_left H h2 hi]
        intro x hx
        rcases List.mem_append.1 hx with h | h
        · exact ih (lk l.length) (by omega) _ _ (by simp; omega) x h
        · simp at h; subst h; exact root_size H hH _
      · rw [sibs_right H h2 hi]
        intro x hx
        rcases List.mem_append.1 hx with h | h
        · exact ih (l.length - lk l.length) (by omega) _ _ (by simp) x h
        · simp at h; subst h; exact root_size H hH _
    · rw [sibs_one H (by omega)]; intro x hx; cases hx

/-- The value of n, i and a proof (its last element first) of s; false if it has another size. -/
def valR (s : B) : List B → Nat → Nat → B × Bool
  | [], n, _ => if n = 1 then (leaf H s, true) else (ByteArray.empty, false)
  | x :: r, n, i => if n = 1 then (leaf H s, false) else
    if i < lk n then (node H (valR s r (lk n) i).1 x, (valR s r (lk n) i).2)
    else (node H x (valR s r (n - lk n) (i - lk n)).1, (valR s r (n - lk n) (i - lk n)).2)
theorem valR_one (s : B) (r : List B) (i : Nat) : valR H s r 1 i = (leaf H s, r.isEmpty) := by cases r <;> simp [valR]
theorem valR_none (s : B) {n : Nat} (h : n ≠ 1) (i : Nat) : valR H s [] n i = (ByteArray.empty, false) := by simp [valR, h]
theorem valR_left (s x : B) (r : List B) {n i : Nat} (h : n ≠ 1) (hi : i < lk n) : valR H s (x :: r) n i = (node H (valR H s r (lk n) i).1 x, (valR H s r (lk n) i).2) := by rw [valR, if_neg h, if_pos hi]
theorem valR_right (s x : B) (r : List B) {n i : Nat} (h : n ≠ 1) (hi : ¬ i < lk n) : valR H s (x :: r) n i = (node H x (valR H s r (n - lk n) (i - lk n)).1, (valR H s r (n - lk n) (i - lk n)).2) := by rw [valR, if_neg h, if_neg hi]

theorem val_accepts (n : Nat) : ∀ (l : List B) (i : Nat), l.length = n → i < n → valR H (l.getD i ByteArray.empty) (sibs H l i).reverse n i = (root H l, true) := by
  induction n using Nat.strongRecOn with
  | _ n ih =>
    intro l i hn hi
    by_cases h2 : 2 ≤ l.length
    · have a1 := lk_lt h2
      have a2 := lk_pos l.length
      by_cases hk : i < lk l.length
      · rw [sibs_left H h2 hk, List.reverse_append, List.reverse_singleton, List.singleton_append, valR_left H _ _ _ (by omega) (by rw [← hn]; exact hk)]
        have := ih (lk l.length) (by omega) (l.take (lk l.length)) i (by simp; omega) hk
        rw [show (l.take (lk l.length)).getD i ByteArray.empty = l.getD i ByteArray.empty by simp [List.getD, hk]] at this
        rw [← hn, this, root_more H h2]
      · rw [sibs_right H h2 hk, List.reverse_append, List.reverse_singleton, List.singleton_append, valR_right H _ _ _ (by omega) (by rw [← hn]; exact hk)]
        have := ih (l.length - lk l.length) (by omega) (l.drop (lk l.length)) (i - lk l.length) (by simp) (by omega)
        rw [show (l.drop (lk l.length)).getD (i - lk l.length) ByteArray.empty = l.getD i ByteArray.empty by simp [List.getD, List.getElem?_drop, show lk l.length + (i - lk l.length) = i by omega]] at this
        rw [← hn, this, root_more H h2]
    · match l, h2 with
      | [], _ => simp at hn; omega
      | [x], _ =>
        simp at hn; subst hn
        obtain rfl : i = 0 := by omega
        rw [sibs_one H (by simp)]
        simp [valR, root_one]
      | x :: y :: t, h => exact absurd (by simp) h
theorem val_len (s t : B) (r : List B) : ∀ (r' : List B) (n i : Nat) , (valR H s r n i).2 = true → (valR H t r' n i).2 = true → r.length = r'.length := by
  induction r with
  | nil =>
    intro r' n i h h'
    by_cases hn : n = 1
    · subst hn; rw [valR_one] at h'; cases r' <;> simp_all
    · rw [valR_none H s hn] at h; cases h
  | cons x r ih =>
    intro r' n i h h'
    by_cases hn : n = 1
    · subst hn; rw [valR_one] at h; cases h
    · cases r' with
      | nil => rw [valR_none H t hn] at h'; cases h'
      | cons y r' =>
        by_cases hk : i < lk n
        · rw [valR_left H _ _ _ hn hk] at h h'
          rw [List.length_cons, List.length_cons, ih r' _ _ h h']
        · rw [valR_right H _ _ _ hn hk] at h h'
          rw [List.length_cons, List.length_cons, ih r' _ _ h h']
/-- How many binary digits. -/
def bin (n : Nat) : Nat := if n = 0 then 0 else Nat.log2 n + 1
theorem le_pow_bin (n : Nat) : n ≤ 2 ^ bin n := by
  unfold bin; split
  · omega
  · have := Nat.lt_log2_self (n := n); omega
theorem bin_half {n : Nat} (h : n ≠ 0) : bin n = bin (n / 2) + 1 := by
  unfold bin
  rw [if_neg h]
  by_cases h1 : n / 2 = 0
  · rw [if_pos h1]
    have : n = 1 := by omega
    subst this; rfl
  · rw [if_neg h1, Nat.log2_def n, if_pos (by omega)]
theorem bin_le (n : Nat) : bin n ≤ n := by
  induction n using Nat.strongRecOn with
  | _ n ih =>
    by_cases h : n = 0
    · subst h; simp [bin]
    · rw [bin_half h]; have := ih (n / 2) (by omega); omega
theorem sibs_len (j : Nat) : ∀ (l : List B) (i : Nat), l.length ≤ 2 ^ j → (sibs H l i).length ≤ j := by
  induction j with
  | zero => intro l i h; rw [sibs_one H (by simpa using h)]; simp
  | succ j ih =>
    intro l i h
    by_cases h2 : 2 ≤ l.length
    · have b1 := lk_le_pow h2 h
      have b2 := lk_half h2
      by_cases hk : i < lk l.length
      · rw [sibs_left H h2 hk]
        have := ih (l.take (lk l.length)) i (by simp; omega)
        simp; omega
      · rw [sibs_right H h2 hk]
        have := ih (l.drop (lk l.length)) (i - lk l.length) (by simp; omega)
        simp; omega
    · rw [sibs_one H (by omega)]; simp
/-- One digit less serves: no proof has as many elements as the number of entries has digits, but for one entry. -/
theorem sibs_bin (l : List B) (i : Nat) : (sibs H l i).length ≤ bin l.length := sibs_len H _ l i (le_pow_bin _)

/-! ### Extensions -/
def extF : Nat → List B → Nat → Bool → List B
  | 0, _, _, _ => []
  | f + 1, l, m, whole => if m = l.length then (if whole then [] else [root H l]) else
    if m ≤ lk l.length then extF f (l.take (lk l.length)) m whole ++ [root H (l.drop (lk l.length))]
    else extF f (l.drop (lk l.length)) (m - lk l.length) false ++ [root H (l.take (lk l.length))]
def ext (l : List B) (m : Nat) (whole : Bool) : List B := extF H (l.length + 1) l m whole
theorem extF_eq (n : Nat) : ∀ (l : List B) (m : Nat) (whole : Bool) (f g : Nat), l.length = n → 1 ≤ m → m ≤ n → n < f → n < g → extF H f l m whole = extF H g l m whole := by
  induction n using Nat.strongRecOn with
  | _ n ih =>
    intro l m whole f g hn h1 hm hf hg
    obtain ⟨f, rfl⟩ : ∃ k, f = k + 1 := ⟨f - 1, by omega⟩
    obtain ⟨g, rfl⟩ : ∃ k, g = k + 1 := ⟨g - 1, by omega⟩
    unfold extF
    by_cases hm' : m = l.length
    · rw [if_pos hm', if_pos hm']
    · have a1 := lk_lt (n := l.length) (by omega)
      have a2 := lk_pos l.length
      rw [if_neg hm', if_neg hm']
      by_cases hk : m ≤ lk l.length
      · rw [if_pos hk, if_pos hk, ih (lk l.length) (by omega) (l.take (lk l.length)) m whole f g (by simp; omega) h1 hk (by omega) (by omega)]
      · rw [if_neg hk, if_neg hk, ih (l.length - lk l.length) (by omega) (l.drop (lk l.length)) (m - lk l.length) false f g (by simp) (by omega) (by omega) (by omega) (by omega)]
theorem ext_all (l : List B) (whole : Bool) : ext H l l.length whole = if whole then [] else [root H l] := by simp [ext, extF]
theorem ext_left {l : List B} {m : Nat} {whole : Bool} (h1 : 1 ≤ m) (hm : m < l.length) (hk : m ≤ lk l.length) : ext H l m whole = ext H (l.take (lk l.length)) m whole ++ [root H (l.drop (lk l.length))] := by
  have a1 := lk_lt (n := l.length) (by omega)
  unfold ext
  rw [extF, if_neg (by omega), if_pos hk, extF_eq H _ (l.take (lk l.length)) m whole l.length ((l.take (lk l.length)).length + 1) rfl h1 (by simp; omega) (by simp; omega) (by simp)]
theorem ext_right {l : List B} {m : Nat} {whole : Bool} (hm : m < l.length) (hk : ¬ m ≤ lk l.length) : ext H l m whole = ext H (l.drop (lk l.length)) (m - lk l.length) false ++ [root H (l.take (lk l.length))] := by
  have a2 := lk_pos l.length
  unfold ext
  rw [extF, if_neg (by omega), if_neg hk, extF_eq H _ (l.drop (lk l.length)) (m - lk l.length) false l.length ((l.drop (lk l.length)).length + 1) rfl (by omega) (by simp; omega) (by simp; omega) (by simp)]
theorem ext_digs (hH : ∀ s, (H s).size = 32) (n : Nat) : ∀ (l : List B) (m : Nat) (whole : Bool), l.length = n → 1 ≤ m → m ≤ n → Digs (ext H l m whole) := by
  induction n using Nat.strongRecOn with
  | _ n ih =>
    intro l m whole hn h1 hm
    by_cases hm' : m = l.length
    · subst hm'
      rw [ext_all]; intro x hx
      split at hx
      · cases hx
      · simp at hx; subst hx; exact root_size H hH _
    · have a1 := lk_lt (n := l.length) (by omega)
      have a2 := lk_pos l.length
      by_cases hk : m ≤ lk l.length
      · rw [ext_left H h1 (by omega) hk]
        intro x hx
        rcases List.mem_append.1 hx with h | h
        · exact ih (lk l.length) (by omega) _ _ _ (by simp; omega) h1 hk x h
        · simp at h; subst h; exact root_size H hH _
      · rw [ext_right H (by omega) hk]
        intro x hx
        rcases List.mem_append.1 hx with h | h
        · exact ih (l.length - lk l.length) (by omega) _ _ _ (by simp) (by omega) (by omega) x h
        · simp at h; subst h; exact root_size H hH _
theorem ext_len (j : Nat) : ∀ (l : List B) (m : Nat) (whole : Bool), l.length ≤ 2 ^ j → 1 ≤ m → m ≤ l.length → (ext H l m whole).length ≤ j + 1 := by
  induction j with
  | zero =>
    intro l m whole h h1 hm
    obtain rfl : m = l.length := by simp at h; omega
    rw [ext_all]; split <;> simp
  | succ j ih =>
    intro l m whole h h1 hm
    by_cases hm' : m = l.length
    · subst hm'; rw [ext_all]; split <;> simp
    · have b0 := lk_lt (n := l.length) (by omega)
      have b1 := lk_le_pow (n := l.length) (by omega) h
      have b2 := lk_half (n := l.length) (by omega)
      by_cases hk : m ≤ lk l.length
      · rw [ext_left H h1 (by omega) hk]
        have := ih (l.take (lk l.length)) m whole (by simp; omega) h1 (by simp; omega)
        simp; omega
      · rw [ext_right H (by omega) hk]
        have := ih (l.drop (lk l.length)) (m - lk l.length) false (by simp; omega) (by omega) (by simp; omega)
        simp; omega
theorem ext_bin (l : List B) (m : Nat) (whole : Bool) (h1 : 1 ≤ m) (hm : m ≤ l.length) : (ext H l m whole).length ≤ 2 * bin l.length := by
  have := ext_len H (bin l.length) l m whole (le_pow_bin _) h1 hm
  have h2 : 1 ≤ bin l.length := by unfold bin; rw [if_neg (by omega)]; omega
  omega

/-- The two values of m, n, a proof (its last element first) and whole; false if it has another size. -/
def valsR (old : B) : List B → Nat → Nat → Bool → B × B × Bool
  | [], m, n, whole => if m = n ∧ whole = true then (old, old, true) else (ByteArray.empty, ByteArray.empty, false)
  | x :: r, m, n, whole => if m = n then (if whole then (old, old, false) else ((x :: r).getLastD x, (x :: r).getLastD x, r.isEmpty)) else
    if m ≤ lk n then ((valsR old r m (lk n) whole).1, node H (valsR old r m (lk n) whole).2.1 x, (valsR old r m (lk n) whole).2.2)
    else (node H x (valsR old r (m - lk n) (n - lk n) false).1, node H x (valsR old r (m - lk n) (n - lk n) false).2.1, (valsR old r (m - lk n) (n - lk n) false).2.2)
theorem valsR_whole (old : B) (r : List B) (n : Nat) : valsR H old r n n true = (old, old, r.isEmpty) := by cases r <;> simp [valsR]
theorem valsR_none (old : B) {m n : Nat} {whole : Bool} (h : ¬ (m = n ∧ whole = true)) : valsR H old [] m n whole = (ByteArray.empty, ByteArray.empty, false) := by simp only [valsR, if_neg h]
theorem valsR_part (old x : B) (r : List B) (n : Nat) : valsR H old (x :: r) n n false = ((x :: r).getLastD x, (x :: r).getLastD x, r.isEmpty) := by simp [valsR]
theorem valsR_left (old x : B) (r : List B) {m n : Nat} (whole : Bool) (h : m ≠ n) (hk : m ≤ lk n) : valsR H old (x :: r) m n whole = ((valsR H old r m (lk n) whole).1, node H (valsR H old r m (lk n) whole).2.1 x, (valsR H old r m (lk n) whole).2.2) := by rw [valsR, if_neg h, if_pos hk]
theorem valsR_right (old x : B) (r : List B) {m n : Nat} (whole : Bool) (h : m ≠ n) (hk : ¬ m ≤ lk n) : valsR H old (x :: r) m n whole = (node H x (valsR H old r (m - lk n) (n - lk n) false).1, node H x (valsR H old r (m - lk n) (n - lk n) false).2.1, (valsR H old r (m - lk n) (n - lk n) false).2.2) := by rw [valsR, if_neg h, if_neg hk]

theorem vals_accepts (n : Nat) : ∀ (l : List B) (m : Nat) (whole : Bool) (old : B), l.length = n → 1 ≤ m → m ≤ n → (whole = true → old = root H (l.take m)) → valsR H old (ext H l m whole).reverse m n whole = (root H (l.take m), root H l, true) := by
  induction n using Nat.strongRecOn with
  | _ n ih =>
    intro l m whole old hn h1 hm ho
    by_cases hm' : m = n
    · subst hm'
      have e : ext H l m whole = if whole then [] else [root H l] := by rw [← hn]; exact ext_all H l whole
      rw [e]
      cases whole with
      | true => simp only [if_true, List.reverse_nil]; rw [valsR_whole, ho rfl, show l.take m = l from List.take_of_length_le (by omega)]; rfl
      | false => rw [show l.take m = l from List.take_of_length_le (by omega)]; simp [valsR]
    · have h2 : 2 ≤ l.length := by omega
      have a1 := lk_lt h2
      have a2 := lk_pos l.length
      by_cases hk : m ≤ lk l.length
      · rw [ext_left H h1 (by omega) hk, List.reverse_append, List.reverse_singleton, List.singleton_append, valsR_left H _ _ _ _ (by omega) (by rw [← hn]; exact hk)]
        have e : (l.take (lk l.length)).take m = l.take m := by rw [List.take_take]; congr 1; omega
        have := ih (lk l.length) (by omega) (l.take (lk l.length)) m whole old (by simp; omega) h1 hk (by rw [e]; exact ho)
        rw [← hn, this, e, ← root_more H h2]
      · rw [ext_right H (by omega) hk, List.reverse_append, List.reverse_singleton, List.singleton_append, valsR_right H _ _ _ _ (by omega) (by rw [← hn]; exact hk)]
        have := ih (l.length - lk l.length) (by omega) (l.drop (lk l.length)) (m - lk l.length) false old (by simp) (by omega) (by omega) (by intro h; cases h)
        have e1 : lk m = lk l.length := lk_between h2 (by omega) (by omega)
        have e2 : (l.take m).length = m := by simp; omega
        have e3 : root H (l.take m) = node H (root H (l.take (lk l.length))) (root H ((l.drop (lk l.length)).take (m - lk l.length))) := by
          rw [root_more H (by omega), e2, e1, List.take_take, List.drop_take, show min (lk l.length) m = lk l.length by omega]
        rw [← hn, this, ← root_more H h2, e3]

/-! ### Binding -/
/-- Two different strings at one index with the same digest. -/
def Coll (a b : List B) : Prop := ∃ i, i < a.length ∧ i < b.length ∧ a.getD i ByteArray.empty ≠ b.getD i ByteArray.empty ∧ H (a.getD i ByteArray.empty) = H (b.getD i ByteArray.empty)
theorem Coll.head {x y : B} {a b : List B} (h : x ≠ y) (he : H x = H y) : Coll H (x :: a) (y :: b) := ⟨0, by simp, by simp, by simpa using h, by simpa using he⟩
theorem Coll.tail {x y : B} {a b : List B} (h : Coll H a b) : Coll H (x :: a) (y :: b) := by
  obtain ⟨i, h1, h2, h3, h4⟩ := h
  exact ⟨i + 1, by simpa using h1, by simpa using h2, by simpa using h3, by simpa using h4⟩
/-- The strings that are digested for a proof, and the value. -/
def wayR (s : B) : List B → Nat → Nat → List B × B
  | [], _, _ => ([leafS s], leaf H s)
  | x :: r, n, i => if n ≤ 1 then ([leafS s], leaf H s) else
    if i < lk n then (nodeS (wayR s r (lk n) i).2 x :: (wayR s r (lk n) i).1, node H (wayR s r (lk n) i).2 x)
    else (nodeS x (wayR s r (n - lk n) (i - lk n)).2 :: (wayR s r (n - lk n) (i - lk n)).1, node H x (wayR s r (n - lk n) (i - lk n)).2)
theorem wayR_stop (s : B) (r : List B) (n i : Nat) (h : n ≤ 1 ∨ r = []) : wayR H s r n i = ([leafS s], leaf H s) := by
  rcases h with h | rfl
  · cases r <;> simp [wayR, h]
  · rfl
theorem wayR_left (s x : B) (r : List B) {n i : Nat} (h : 2 ≤ n) (hi : i < lk n) : wayR H s (x :: r) n i = (nodeS (wayR H s r (lk n) i).2 x :: (wayR H s r (lk n) i).1, node H (wayR H s r (lk n) i).2 x) := by rw [wayR, if_neg (by omega), if_pos hi]
theorem wayR_right (s x : B) (r : List B) {n i : Nat} (h : 2 ≤ n) (hi : ¬ i < lk n) : wayR H s (x :: r) n i = (nodeS x (wayR H s r (n - lk n) (i - lk n)).2 :: (wayR H s r (n - lk n) (i - lk n)).1, node H x (wayR H s r (n - lk n) (i - lk n)).2) := by rw [wayR, if_neg (by omega), if_neg hi]
theorem way_val (s : B) (r : List B) : ∀ (n i : Nat), 1 ≤ n → (valR H s r n i).2 = true → (wayR H s r n i).2 = (valR H s r n i).1 := by
  induction r with
  | nil => intro n i hn h; by_cases h1 : n = 1
           · subst h1; rfl
           · rw [valR_none H s h1] at h; cases h
  | cons x r ih =>
    intro n i hn h
    by_cases h1 : n = 1
    · subst h1; rw [valR_one] at h; cases h
    · have a1 := lk_lt (n := n) (by omega)
      have a2 := lk_pos n
      by_cases hk : i < lk n
      · rw [valR_left H _ _ _ h1 hk] at h ⊢
        rw [wayR_left H _ _ _ (by omega) hk, ih _ _ a2 h]
      · rw [valR_right H _ _ _ h1 hk] at h ⊢
        rw [wayR_right H _ _ _ (by omega) hk, ih _ _ (by omega) h]
theorem way_binds {s t : B} (hst : s ≠ t) (r : List B) : ∀ (r' : List B) (n i : Nat) (v : B), 1 ≤ n → Digs r → Digs r' → valR H s r n i = (v, true) → valR H t r' n i = (v, true) → Coll H (wayR H s r n i).1 (wayR H t r' n i).1 := by
  induction r with
  | nil =>
    intro r' n i v hn _ _ h h'
    by_cases h1 : n = 1
    · subst h1
      rw [valR_one] at h h'
      rw [wayR_stop H s _ _ _ (.inl (Nat.le_refl _)), wayR_stop H t _ _ _ (.inl (Nat.le_refl _))]
      exact Coll.head H (fun e => hst (leafS_inj e)) (by injection h with e1; injection h' with e2; unfold leaf at e1 e2; rw [e1, e2])
    · rw [valR_none H s h1] at h; cases h
  | cons x r ih =>
    intro r' n i v hn hd hd' h h'
    by_cases h1 : n = 1
    · subst h1; rw [valR_one] at h; cases h
    · cases r' with
      | nil => rw [valR_none H t h1] at h'; cases h'
      | cons y r' =>
        have a1 := lk_lt (n := n) (by omega)
        have a2 := lk_pos n
        have hx := hd x (by simp)
        have hy := hd' y (by simp)
        by_cases hk : i < lk n
        · rw [valR_left H _ _ _ h1 hk] at h h'
          injection h with e1 e2
          injection h' with e3 e4
          rw [wayR_left H _ _ _ (by omega) hk, wayR_left H _ _ _ (by omega) hk]
          have w1 := way_val H s r _ _ a2 e2
          have w2 := way_val H t r' _ _ a2 e4
          by_cases hne : nodeS (wayR H s r (lk n) i).2 x = nodeS (wayR H t r' (lk n) i).2 y
          · obtain ⟨q1, q2⟩ := nodeS_inj hne (by rw [hx, hy])
            refine Coll.tail H (ih r' _ _ (valR H s r (lk n) i).1 a2 (fun z hz => hd z (by simp [hz])) (fun z hz => hd' z (by simp [hz])) ?_ ?_)
            · rw [← e2]
            · rw [← e4, ← w1, q1, w2]
          · refine Coll.head H hne ?_
            rw [w1, w2]; unfold node at e1 e3; rw [e1, e3]
        · rw [valR_right H _ _ _ h1 hk] at h h'
          injection h with e1 e2
          injection h' with e3 e4
          rw [wayR_right H _ _ _ (by omega) hk, wayR_right H _ _ _ (by omega) hk]
          have w1 := way_val H s r _ _ (by omega) e2
          have w2 := way_val H t r' _ _ (by omega) e4
          by_cases hne : nodeS x (wayR H s r (n - lk n) (i - lk n)).2 = nodeS y (wayR H t r' (n - lk n) (i - lk n)).2
          · obtain ⟨q1, q2⟩ := nodeS_inj' hne (by rw [hx, hy])
            refine Coll.tail H (ih r' _ _ (valR H s r (n - lk n) (i - lk n)).1 (by omega) (fun z hz => hd z (by simp [hz])) (fun z hz => hd' z (by simp [hz])) ?_ ?_)
            · rw [← e2]
            · rw [← e4, ← w1, q2, w2]
          · refine Coll.head H hne ?_
            rw [w1, w2]; unfold node at e1 e3; rw [e1, e3]

/-- The strings that are digested for the new root of an extension, and the value. -/
def sidesR (old : B) : List B → Nat → Nat → Bool → List B × B
  | [], _, _, _ => ([], old)
  | x :: r, m, n, whole => if n ≤ m then (if whole then ([], old) else ([], (x :: r).getLastD x)) else
    if m ≤ lk n then (nodeS (sidesR old r m (lk n) whole).2 x :: (sidesR old r m (lk n) whole).1, node H (sidesR old r m (lk n) whole).2 x)
    else (nodeS x (sidesR old r (m - lk n) (n - lk n) false).2 :: (sidesR old r (m - lk n) (n - lk n) false).1, node H x (sidesR old r (m - lk n) (n - lk n) false).2)
theorem sidesR_left (old x : B) (r : List B) {m n : Nat} (whole : Bool) (h : m < n) (hk : m ≤ lk n) : sidesR H old (x :: r) m n whole = (nodeS (sidesR H old r m (lk n) whole).2 x :: (sidesR H old r m (lk n) whole).1, node H (sidesR H old r m (lk n) whole).2 x) := by rw [sidesR, if_neg (by omega), if_pos hk]
theorem sidesR_right (old x : B) (r : List B) {m n : Nat} (whole : Bool) (h : m < n) (hk : ¬ m ≤ lk n) : sidesR H old (x :: r) m n whole = (nodeS x (sidesR H old r (m - lk n) (n - lk n) false).2 :: (sidesR H old r (m - lk n) (n - lk n) false).1, node H x (sidesR H old r (m - lk n) (n - lk n) false).2) := by rw [sidesR, if_neg (by omega), if_neg hk]
theorem sides_val (old : B) (r : List B) : ∀ (m n : Nat) (whole : Bool), m ≤ n → (valsR H old r m n whole).2.2 = true → (sidesR H old r m n whole).2 = (valsR H old r m n whole).2.1 := by
  induction r with
  | nil =>
    intro m n whole hm h
    by_cases h1 : m = n ∧ whole = true
    · obtain ⟨rfl, rfl⟩ := h1; rw [valsR_whole]; rfl
    · rw [valsR_none H _ h1] at h; cases h
  | cons x r ih =>
    intro m n whole hm h
    by_cases h1 : m = n
    · subst h1
      cases whole with
      | true => rw [valsR_whole] at h; cases h
      | false => rw [valsR_part]; simp [sidesR]
    · by_cases hk : m ≤ lk n
      · rw [valsR_left H _ _ _ _ h1 hk] at h ⊢
        rw [sidesR_left H _ _ _ _ (by omega) hk, ih _ _ _ hk h]
      · rw [valsR_right H _ _ _ _ h1 hk] at h ⊢
        rw [sidesR_right H _ _ _ _ (by omega) hk, ih _ _ _ (by omega) h]
theorem sides_bind (a b : B) (r : List B) : ∀ (r' : List B) (m n : Nat) (whole : Bool) (f f' v : B), 1 ≤ m → m ≤ n → Digs r → Digs r' → valsR H a r m n whole = (f, v, true) → valsR H b r' m n whole = (f', v, true) → f ≠ f' → Coll H (sidesR H a r m n whole).1 (sidesR H b r' m n whole).1 := by
  induction r with
  | nil =>
    intro r' m n whole f f' v h0 hm _ _ h h' hf
    by_cases h1 : m = n ∧ whole = true
    · obtain ⟨rfl, rfl⟩ := h1
      rw [valsR_whole] at h h'
      injection h with e1 e2; injection e2 with e2
      injection h' with e3 e4; injection e4 with e4
      exact absurd (by rw [← e1, ← e3, e2, e4]) hf
    · rw [valsR_none H _ h1] at h; injection h with _ h; injection h with _ h; cases h
  | cons x r ih =>
    intro r' m n whole f f' v h0 hm hd hd' h h' hf
    by_cases h1 : m = n
    · subst h1
      cases whole with
      | true =>
        rw [valsR_whole] at h; injection h with _ h; injection h with _ h; cases h
      | false =>
        cases r' with
        | nil => rw [valsR_none H _ (by simp)] at h'; injection h' with _ h; injection h with _ h; cases h
        | cons y r' =>
          rw [valsR_part] at h h'
          injection h with e1 e2; injection e2 with e2
          injection h' with e3 e4; injection e4 with e4
          exact absurd (by rw [← e1, ← e3, e2, e4]) hf
    · cases r' with
      | nil => rw [valsR_none H _ (fun e => h1 e.1)] at h'; injection h' with _ h; injection h with _ h; cases h
      | cons y r' =>
        have a1 := lk_lt (n := n) (by omega)
        have a2 := lk_pos n
        have hx := hd x (by simp)
        have hy := hd' y (by simp)
        by_cases hk : m ≤ lk n
        · rw [valsR_left H _ _ _ _ h1 hk] at h h'
          injection h with e0 e2; injection e2 with e1 e2
          injection h' with e0' e4; injection e4 with e3 e4
          rw [sidesR_left H _ _ _ _ (by omega) hk, sidesR_left H _ _ _ _ (by omega) hk]
          have w1 := sides_val H a r _ _ _ hk e2
          have w2 := sides_val H b r' _ _ _ hk e4
          by_cases hne : nodeS (sidesR H a r m (lk n) whole).2 x = nodeS (sidesR H b r' m (lk n) whole).2 y
          · obtain ⟨q1, q2⟩ := nodeS_inj hne (by rw [hx, hy])
            refine Coll.tail H (ih r' _ _ _ f f' (valsR H a r m (lk n) whole).2.1 h0 hk (fun z hz => hd z (by simp [hz])) (fun z hz => hd' z (by simp [hz])) ?_ ?_ hf)
            · rw [← e0, ← e2]
            · rw [← e0', ← e4, ← w1, q1, w2]
          · refine Coll.head H hne ?_
            rw [w1, w2]; unfold node at e1 e3; rw [e1, e3]
        · rw [valsR_right H _ _ _ _ h1 hk] at h h'
          injection h with e0 e2; injection e2 with e1 e2
          injection h' with e0' e4; injection e4 with e3 e4
          rw [sidesR_right H _ _ _ _ (by omega) hk, sidesR_right H _ _ _ _ (by omega) hk]
          have w1 := sides_val H a r _ _ _ (by omega) e2
          have w2 := sides_val H b r' _ _ _ (by omega) e4
          by_cases hne : nodeS x (sidesR H a r (m - lk n) (n - lk n) false).2 = nodeS y (sidesR H b r' (m - lk n) (n - lk n) false).2
          · obtain ⟨q1, q2⟩ := nodeS_inj' hne (by rw [hx, hy])
            refine Coll.tail H (ih r' _ _ _ (valsR H a r (m - lk n) (n - lk n) false).1 (valsR H b r' (m - lk n) (n - lk n) false).1 (valsR H a r (m - lk n) (n - lk n) false).2.1 (by omega) (by omega) (fun z hz => hd z (by simp [hz])) (fun z hz => hd' z (by simp [hz])) ?_ ?_ ?_)
            · rw [← e2]
            · rw [← e4, ← w1, q2, w2]
            · intro e; rw [← e0, ← e0', q1, e] at hf; exact hf rfl
          · refine Coll.head H hne ?_
            rw [w1, w2]; unfold node at e1 e3; rw [e1, e3]

/-! ### Chains -/
/-- 32 zero bytes. -/
def zeros : B := ⟨#[0, 0, 0, 0, 0, 0, 0, 0, 0, 0, 0, 0, 0, 0, 0, 0, 0, 0, 0, 0, 0, 0, 0, 0, 0, 0, 0, 0, 0, 0, 0, 0]⟩
/-- The head of a list of records, of which the last one comes first. -/
def headR : List B → B
  | [] => zeros
  | s :: r => chain H (headR r) s
/-- The strings that are digested for it. -/
def headsR : List B → List B
  | [] => []
  | s :: r => chainS (headR H r) s :: headsR r
theorem headsR_len (r : List B) : (headsR H r).length = r.length := by induction r with
  | nil => rfl
  | cons s r ih => simp [headsR, ih]
theorem headR_size (hH : ∀ s, (H s).size = 32) (r : List B) : (headR H r).size = 32 := by cases r with
  | nil => rfl
  | cons s r => exact hH _
/-- The longer one of two lists. -/
def longer (x y : List B) : List B := if x.length < y.length then y else x
theorem heads_bind (hH : ∀ s, (H s).size = 32) (a : List B) : ∀ (b : List B), a ≠ b → headR H a = headR H b →
    Coll H (headsR H a) (headsR H b) ∨ (a.length ≠ b.length ∧ H ((longer (headsR H a) (headsR H b)).getD (min a.length b.length) ByteArray.empty) = zeros) := by
  induction a with
  | nil =>
    intro b hne he
    cases b with
    | nil => exact absurd rfl hne
    | cons t b =>
      refine .inr ⟨by simp, ?_⟩
      unfold longer
      rw [if_pos (by simp [headsR])]
      simp only [List.length_nil, Nat.zero_min, headsR, List.getD_cons_zero]
      exact he.symm
  | cons s a ih =>
    intro b hne he
    cases b with
    | nil =>
      refine .inr ⟨by simp, ?_⟩
      unfold longer
      rw [if_neg (by simp [headsR])]
      simp only [List.length_nil, Nat.min_zero, headsR, List.getD_cons_zero]
      exact he
    | cons t b =>
      by_cases hs : chainS (headR H a) s = chainS (headR H b) t
      · obtain ⟨q1, q2⟩ := chainS_inj hs (by rw [headR_size H hH, headR_size H hH])
        rcases ih b (fun e => hne (by rw [e, q2])) q1 with h | ⟨h1, h2⟩
        · exact .inl (Coll.tail H h)
        · refine .inr ⟨by simpa using h1, ?_⟩
          rw [← h2]
          congr 1
          have e1 : (longer (headsR H (s :: a)) (headsR H (t :: b))) = (if (headsR H a).length < (headsR H b).length then chainS (headR H b) t else chainS (headR H a) s) :: longer (headsR H a) (headsR H b) := by
            have c1 : headsR H (s :: a) = chainS (headR H a) s :: headsR H a := rfl
            have c2 : headsR H (t :: b) = chainS (headR H b) t :: headsR H b := rfl
            rw [c1, c2]
            unfold longer
            simp only [List.length_cons, Nat.add_lt_add_iff_right]
            split <;> rfl
          rw [e1, List.length_cons, List.length_cons, show min (a.length + 1) (b.length + 1) = min a.length b.length + 1 by omega, List.getD_cons_succ]
      · exact .inl (Coll.head H hs he)
end
end Dt
end Go.Proofs.YtlnlhjkdbpkaiaaDoor
