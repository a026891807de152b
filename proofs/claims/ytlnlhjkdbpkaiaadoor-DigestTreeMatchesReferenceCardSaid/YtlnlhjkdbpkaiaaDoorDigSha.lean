/- Plain facts on SHA-256: words as numbers, blocks and digests as lists of bytes. No condition of its own. -/
namespace Go.Proofs.YtlnlhjkdbpkaiaaDoor
namespace Ds

/-- A word rotated right by n bits. -/
def rotr (x n : Nat) : Nat := (x <<< (32 - n)) % 4294967296 ||| x >>> n
theorem xor_lt {a b : Nat} (ha : a < 4294967296) (hb : b < 4294967296) : a ^^^ b < 4294967296 := Nat.xor_lt_two_pow (n := 32) ha hb
theorem or_lt {a b : Nat} (ha : a < 4294967296) (hb : b < 4294967296) : a ||| b < 4294967296 := Nat.or_lt_two_pow (n := 32) ha hb
theorem and_lt {a b : Nat} (ha : a < 4294967296) : a &&& b < 4294967296 := Nat.lt_of_le_of_lt Nat.and_le_left ha
theorem shr_lt {a : Nat} (n : Nat) (ha : a < 4294967296) : a >>> n < 4294967296 := Nat.lt_of_le_of_lt (Nat.shiftRight_le a n) ha
theorem mod_lt (a : Nat) : a % 4294967296 < 4294967296 := Nat.mod_lt _ (by decide)
theorem rotr_lt {x : Nat} (n : Nat) (h : x < 4294967296) : rotr x n < 4294967296 := or_lt (mod_lt _) (shr_lt n h)

def sig0 (x : Nat) : Nat := rotr x 7 ^^^ rotr x 18 ^^^ x >>> 3
def sig1 (x : Nat) : Nat := rotr x 17 ^^^ rotr x 19 ^^^ x >>> 10
def big0 (x : Nat) : Nat := rotr x 2 ^^^ rotr x 13 ^^^ rotr x 22
def big1 (x : Nat) : Nat := rotr x 6 ^^^ rotr x 11 ^^^ rotr x 25
def chs (e f g : Nat) : Nat := (e &&& f) ^^^ ((4294967295 ^^^ e) &&& g)
def maj (a b c : Nat) : Nat := (a &&& b) ^^^ (a &&& c) ^^^ (b &&& c)
theorem sig0_lt {x : Nat} (h : x < 4294967296) : sig0 x < 4294967296 := xor_lt (xor_lt (rotr_lt _ h) (rotr_lt _ h)) (shr_lt _ h)
theorem sig1_lt {x : Nat} (h : x < 4294967296) : sig1 x < 4294967296 := xor_lt (xor_lt (rotr_lt _ h) (rotr_lt _ h)) (shr_lt _ h)
theorem big0_lt {x : Nat} (h : x < 4294967296) : big0 x < 4294967296 := xor_lt (xor_lt (rotr_lt _ h) (rotr_lt _ h)) (rotr_lt _ h)
theorem big1_lt {x : Nat} (h : x < 4294967296) : big1 x < 4294967296 := xor_lt (xor_lt (rotr_lt _ h) (rotr_lt _ h)) (rotr_lt _ h)
theorem chs_lt {e f g : Nat} (he : e < 4294967296) : chs e f g < 4294967296 := xor_lt (and_lt he) (and_lt (xor_lt (by decide) he))
theorem maj_lt {a b c : Nat} (ha : a < 4294967296) (hb : b < 4294967296) : maj a b c < 4294967296 := xor_lt (xor_lt (and_lt ha) (and_lt ha)) (and_lt hb)

/-! ### The schedule -/
/-- The word of four bytes from place i on. -/
def word (b : List UInt8) (i : Nat) : Nat := (b.getD i 0).toNat * 16777216 + (b.getD (i + 1) 0).toNat * 65536 + (b.getD (i + 2) 0).toNat * 256 + (b.getD (i + 3) 0).toNat
theorem word_lt (b : List UInt8) (i : Nat) : word b i < 4294967296 := by
  have h0 := (b.getD i 0).toNat_lt
  have h1 := (b.getD (i + 1) 0).toNat_lt
  have h2 := (b.getD (i + 2) 0).toNat_lt
  have h3 := (b.getD (i + 3) 0).toNat_lt
  unfold word; omega
def nextW (l : List Nat) : Nat := (((l.getD (l.length - 16) 0 + sig0 (l.getD (l.length - 15) 0)) % 4294967296 + l.getD (l.length - 7) 0) % 4294967296 + sig1 (l.getD (l.length - 2) 0)) % 4294967296
def extK (l : List Nat) : Nat → List Nat
  | 0 => l
  | k + 1 => extK l k ++ [nextW (extK l k)]
def words (b : List UInt8) : List Nat := (List.range 16).map fun i => word b (4 * i)
def sched (b : List UInt8) : List Nat := extK (words b) 48
def Small (l : List Nat) : Prop := ∀ i, l.getD i 0 < 4294967296
theorem small_append {l m : List Nat} (hl : Small l) (hm : Small m) : Small (l ++ m) := fun i => by
  have h1 := hl i
  have h2 := hm (i - l.length)
  simp only [List.getD, List.getElem?_append] at *
  split <;> assumption
theorem small_one {x : Nat} (h : x < 4294967296) : Small [x] := fun i => by
  cases i with
  | zero => simpa using h
  | succ i => simp
theorem extK_len (l : List Nat) (k : Nat) : (extK l k).length = l.length + k := by induction k with
  | zero => rfl
  | succ k ih => simp [extK, ih]; omega
theorem extK_small {l : List Nat} (h : Small l) (k : Nat) : Small (extK l k) := by induction k with
  | zero => exact h
  | succ k ih => exact small_append ih (small_one (mod_lt _))
theorem extK_add (l : List Nat) (j k : Nat) : extK (extK l j) k = extK l (j + k) := by induction k with
  | zero => rfl
  | succ k ih => rw [← Nat.add_assoc]; simp only [extK, ih]
theorem words_len (b : List UInt8) : (words b).length = 16 := by simp [words]
theorem words_small (b : List UInt8) : Small (words b) := fun i => by
  unfold words
  by_cases h : i < 16
  · simp [List.getD, h, word_lt]
  · simp [List.getD, h]
theorem sched_len (b : List UInt8) : (sched b).length = 64 := by unfold sched; rw [extK_len, words_len]
theorem sched_small (b : List UInt8) : Small (sched b) := extK_small (words_small b) 48

/-! ### The rounds -/
def kTab : List Nat := [0x428a2f98, 0x71374491, 0xb5c0fbcf, 0xe9b5dba5, 0x3956c25b, 0x59f111f1, 0x923f82a4, 0xab1c5ed5,
  0xd807aa98, 0x12835b01, 0x243185be, 0x550c7dc3, 0x72be5d74, 0x80deb1fe, 0x9bdc06a7, 0xc19bf174,
  0xe49b69c1, 0xefbe4786, 0x0fc19dc6, 0x240ca1cc, 0x2de92c6f, 0x4a7484aa, 0x5cb0a9dc, 0x76f988da,
  0x983e5152, 0xa831c66d, 0xb00327c8, 0xbf597fc7, 0xc6e00bf3, 0xd5a79147, 0x06ca6351, 0x14292967,
  0x27b70a85, 0x2e1b2138, 0x4d2c6dfc, 0x53380d13, 0x650a7354, 0x766a0abb, 0x81c2c92e, 0x92722c85,
  0xa2bfe8a1, 0xa81a664b, 0xc24b8b70, 0xc76c51a3, 0xd192e819, 0xd6990624, 0xf40e3585, 0x106aa070,
  0x19a4c116, 0x1e376c08, 0x2748774c, 0x34b0bcb5, 0x391c0cb3, 0x4ed8aa4a, 0x5b9cca4f, 0x682e6ff3,
  0x748f82ee, 0x78a5636f, 0x84c87814, 0x8cc70208, 0x90befffa, 0xa4506ceb, 0xbef9a3f7, 0xc67178f2]
theorem kTab_lt (i : Nat) : kTab.getD i 0 < 4294967296 := by
  rcases Nat.lt_or_ge i 64 with h | h
  · have all : ∀ i, i < 64 → kTab.getD i 0 < 4294967296 := by decide
    exact all i h
  · rw [List.getD, List.getElem?_eq_none (by exact h)]; decide
/-- The words a to h. -/
structure St where
  (a b c d e f g h : Nat)
def St.list (s : St) : List Nat := [s.a, s.b, s.c, s.d, s.e, s.f, s.g, s.h]
structure St.Ok (s : St) : Prop where
  a : s.a < 4294967296
  b : s.b < 4294967296
  c : s.c < 4294967296
  d : s.d < 4294967296
  e : s.e < 4294967296
  f : s.f < 4294967296
  g : s.g < 4294967296
  h : s.h < 4294967296
def iv : St := ⟨0x6a09e667, 0xbb67ae85, 0x3c6ef372, 0xa54ff53a, 0x510e527f, 0x9b05688c, 0x1f83d9ab, 0x5be0cd19⟩
theorem iv_ok : iv.Ok := ⟨by decide, by decide, by decide, by decide, by decide, by decide, by decide, by decide⟩
def tee (s : St) (k w : Nat) : Nat := ((((s.h + big1 s.e) % 4294967296 + chs s.e s.f s.g) % 4294967296 + k) % 4294967296 + w) % 4294967296
def you (s : St) : Nat := (big0 s.a + maj s.a s.b s.c) % 4294967296
def rnd (s : St) (k w : Nat) : St := ⟨(tee s k w + you s) % 4294967296, s.a, s.b, s.c, (s.d + tee s k w) % 4294967296, s.e, s.f, s.g⟩
theorem rnd_ok {s : St} (h : s.Ok) (k w : Nat) : (rnd s k w).Ok := ⟨mod_lt _, h.a, h.b, h.c, mod_lt _, h.e, h.f, h.g⟩
def rounds (s : St) (ws : List Nat) : Nat → St
  | 0 => s
  | i + 1 => rnd (rounds s ws i) (kTab.getD i 0) (ws.getD i 0)
theorem rounds_ok {s : St} (h : s.Ok) (ws : List Nat) (i : Nat) : (rounds s ws i).Ok := by induction i with
  | zero => exact h
  | succ i ih => exact rnd_ok ih _ _
def plus (s t : St) : St := ⟨(s.a + t.a) % 4294967296, (s.b + t.b) % 4294967296, (s.c + t.c) % 4294967296, (s.d + t.d) % 4294967296, (s.e + t.e) % 4294967296, (s.f + t.f) % 4294967296, (s.g + t.g) % 4294967296, (s.h + t.h) % 4294967296⟩
theorem plus_ok (s t : St) : (plus s t).Ok := ⟨mod_lt _, mod_lt _, mod_lt _, mod_lt _, mod_lt _, mod_lt _, mod_lt _, mod_lt _⟩
def comp (s : St) (b : List UInt8) : St := plus s (rounds s (sched b) 64)
def comps (bs : List (List UInt8)) : St := bs.foldl comp iv
theorem comps_ok (bs : List (List UInt8)) : (comps bs).Ok := by
  unfold comps
  have all : ∀ (bs : List (List UInt8)) (s : St), s.Ok → (bs.foldl comp s).Ok := by
    intro bs
    induction bs with
    | nil => intro s h; exact h
    | cons b bs ih => intro s h; exact ih _ (plus_ok _ _)
  exact all bs iv iv_ok
theorem comps_snoc (bs : List (List UInt8)) (b : List UInt8) : comps (bs ++ [b]) = comp (comps bs) b := by unfold comps; rw [List.foldl_append]; rfl

/-! ### The blocks -/
/-- The 8 bytes of a number, the highest one first. -/
def be8 (n : Nat) : List UInt8 := [UInt8.ofNat (n / 72057594037927936), UInt8.ofNat (n / 281474976710656), UInt8.ofNat (n / 1099511627776), UInt8.ofNat (n / 4294967296), UInt8.ofNat (n / 16777216), UInt8.ofNat (n / 65536), UInt8.ofNat (n / 256), UInt8.ofNat n]
def be4 (n : Nat) : List UInt8 := [UInt8.ofNat (n / 16777216), UInt8.ofNat (n / 65536), UInt8.ofNat (n / 256), UInt8.ofNat n]
def pad (m : List UInt8) : List UInt8 := m ++ 128 :: (List.replicate ((119 - m.length % 64) % 64) 0 ++ be8 (8 * m.length))
theorem pad_len (m : List UInt8) : (pad m).length % 64 = 0 := by
  unfold pad be8; simp; omega
def chunks : Nat → List UInt8 → List (List UInt8)
  | 0, _ => []
  | f + 1, l => if l.length < 64 then [] else l.take 64 :: chunks f (l.drop 64)
theorem chunks_flatten (xs : List (List UInt8)) : ∀ (f : Nat), xs.length ≤ f → (∀ x ∈ xs, x.length = 64) → chunks f xs.flatten = xs := by
  induction xs with
  | nil => intro f _ _; cases f <;> simp [chunks]
  | cons x xs ih =>
    intro f hf hx
    obtain ⟨f, rfl⟩ : ∃ k, f = k + 1 := ⟨f - 1, by simp at hf; omega⟩
    have h64 : x.length = 64 := hx x (by simp)
    rw [chunks, if_neg (by simp [h64])]
    rw [List.flatten_cons, List.take_left' h64, List.drop_left' h64, ih f (by simpa using hf) (fun y hy => hx y (by simp [hy]))]
theorem flatten_len (xs : List (List UInt8)) (hx : ∀ x ∈ xs, x.length = 64) : xs.flatten.length = 64 * xs.length := by
  induction xs with
  | nil => rfl
  | cons x xs ih => rw [List.flatten_cons, List.length_append, hx x (by simp), ih (fun y hy => hx y (by simp [hy])), List.length_cons]; omega
def final (s : St) : List UInt8 := be4 s.a ++ be4 s.b ++ be4 s.c ++ be4 s.d ++ be4 s.e ++ be4 s.f ++ be4 s.g ++ be4 s.h
theorem final_len (s : St) : (final s).length = 32 := rfl
def sha (m : List UInt8) : List UInt8 := final (comps (chunks ((pad m).length / 64) (pad m)))
theorem sha_len (m : List UInt8) : (sha m).length = 32 := final_len _
/-- Whatever blocks make up the extended string: the digest is what comes of them. -/
theorem sha_of {m : List UInt8} {xs : List (List UInt8)} (h : xs.flatten = pad m) (hx : ∀ x ∈ xs, x.length = 64) : sha m = final (comps xs) := by
  unfold sha
  rw [← h, chunks_flatten xs _ (by rw [flatten_len xs hx]; omega) hx]
end Ds
end Go.Proofs.YtlnlhjkdbpkaiaaDoor
