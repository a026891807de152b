/- What the laws choose: values that integers choose, a table with one of its formats. Conditions: the table is one that the laws make, the integers can be read. Plain facts on the reference's way to the least lengths. No condition of its own. The reference's ranges, numbers and least lengths. Conditions: the lists are readable; their numbers are ints. The reference's numbers. Conditions: the fields are readable; their numbers are ints. -/
import Derived.Test.YtdndmhlmbpgdeaaGreatDoorPb16
import Derived.Test.YtdndmhlmbpgdeaaGreatDoorPb14
import Derived.Test.YtdndmhlmbpgdeaaGreatDoorPb01
namespace Go.Proofs.YtdndmhlmbpgdeaaGreatDoor
section MakE
open Go.RowKit Fx Rec

/-- Ints that can be read. -/
def IntsR (w : World) (v : Value) : Prop := IntsV (fun b => b < w.heap.size) w v
theorem IntsR.below {w w' : World} {v : Value} (h : IntsR w v) (hb : Below w.heap.size w w') : IntsR w' v := IntsV.keep h hb.size fun b hB => ⟨Nat.lt_of_lt_of_le hB hb.size, hb.block b hB⟩
theorem bb_top : bb 6 ≤ 100000000 := by decide
theorem findO_none {L : List Fm} {id : Int} (h : ∀ i, ¬ At L id i) : findO L id = none := by
  unfold findO
  rw [List.find?_eq_none]
  intro x hx
  obtain ⟨i, hi, rfl⟩ := List.getElem_of_mem hx
  simp only [decide_eq_true_eq]
  exact fun e => h i ⟨hi, by rw [List.getD_eq_getElem?_getD, List.getElem?_eq_getElem hi]; exact e⟩
set_option maxRecDepth 20000 in
set_option maxHeartbeats 4000000 in
theorem chosen_any (lv xv : Value) (L : List Fm) (id : Int) (w : World) (hL : Nice L) (hV : FmsAt (· < w.heap.size) w lv L) (hX : IntsR w xv) :
    Calls Tryz.prog 16 #[lv, .int .i64 id, xv] w fun e w' => Below w.heap.size w w' ∧ ∃ ov out, e = .returned ov ∧ w'.ownsRow 0 9 1 ov out.length (strsV out) ∧ (∀ x, x ∈ out → x.size ≤ 8) ∧ (∀ b, ov.ownBlock = some b → w.heap.size ≤ b) ∧ out.length ≤ 100000000 := by
  obtain ⟨la, lc, rfl, -⟩ := hV.slice_
  have hF := rFind3_any _ L id w hV (fun j hj => by have := hL.fs j hj; omega)
  have hX' := hX
  obtain ⟨xa, xn, xc, rfl, -⟩ := hX'
  have HV := Lib.hid (And.intro hV hX)
  clear hV hX
  by_cases hat : ∃ i, At L id i
  · obtain ⟨i, hi⟩ := hat
    rw [find_at hL.ok hi] at hF
    have HF := Lib.hid hF
    clear hF
    go_enter Tryz.func16, Tryz.ntmps16
    go_wp2_with fail
    refine HF.out.mono ?_
    rintro e w5 ⟨⟨v, rfl, hv1, hv2⟩, hB5⟩
    obtain ⟨fa, fc, rfl, -⟩ := hv1.slice_
    obtain ⟨fq, hfq⟩ : ∃ fq, fq = (L.getD i zm).fs := ⟨_, rfl⟩
    obtain ⟨mq, hmq⟩ : ∃ mq, mq = fq.length := ⟨_, rfl⟩
    rw [← hfq] at hv1 ⊢
    rw [← hmq] at hv1 ⊢
    rw [← hfq, ← hmq] at hv2
    have HQ := Lib.hid (And.intro hfq hmq)
    clear hfq hmq
    obtain ⟨W6, hW6⟩ : ∃ W6, W6 = (w5.alloc (.cells #[.int .i64 id, .slice fa mq fc] 52)).alloc (.cells #[.slice la L.length lc, .slice xa xn xc, .slice none 0 0, .int .i64 0] 77) := ⟨_, rfl⟩
    have hs6 : W6.heap.size = w5.heap.size + 2 := by rw [hW6]; simp
    have hb6 : Below w5.heap.size w5 W6 := by rw [hW6]; exact (bx _).trans ((bx _).mono (by simp))
    have hfb : Blk W6 w5.heap.size 52 #[.int .i64 id, .slice fa mq fc] := by rw [hW6]; exact (Blk.new w5 _ _).alloc_ _
    have hmb : Blk W6 (w5.heap.size + 1) 77 #[.slice la L.length lc, .slice xa xn xc, .slice none 0 0, .int .i64 0] := by
      have := Blk.new (w5.alloc (.cells #[.int .i64 id, .slice fa mq fc] 52)) 77 #[.slice la L.length lc, .slice xa xn xc, .slice none 0 0, .int .i64 0]
      rw [World.size_alloc] at this
      rw [hW6]; exact this
    have hB56 : Below w.heap.size w W6 := hB5.trans (hb6.mono hB5.size)
    have hsafe : ∀ b, b < w5.heap.size → SafeK W6 (w5.heap.size + 1) b := fun b hb => ⟨by omega, fun h => by
      rcases (ownK_iff hmb b).1 h with h | h
      · omega
      · cases h⟩
    have hM : MkA W6 (w5.heap.size + 1) w5.heap.size L (.slice la L.length lc) [] 0 := by
      refine ⟨.slice xa xn xc, .slice none 0 0, { blk := hmb, tab := ?_, ints := ?_, row := ⟨rfl, .inl ⟨rfl, rfl⟩⟩, few := Nat.le_refl _, cnt9 := by omega, small := fun x hx => absurd hx (List.not_mem_nil), tp := by omega }⟩
      · exact (HV.out.1.kept (Kept.of_below hB56 fun _ h => h)).mono fun g hg => by
          have hg2 : g < w.heap.size := hg
          have := hB5.size
          exact ⟨hsafe g (by omega), by omega⟩
      · exact IntsV.keep HV.out.2 hB56.size fun b hB => by
          have := hB5.size
          exact ⟨⟨hsafe b (by omega), by omega⟩, hB56.block b hB⟩
    have h6 : i < 6 := by have := hL.few; have := hi.1; omega
    have hval := makV (w5.heap.size + 1) w5.heap.size L (.slice la L.length lc) hL 6 W6 [] 0 id i (.slice fa mq fc) hM hi h6 (by rw [← HQ.out.1]; exact hv1.below hb6) (fun b hb => hsafe b (hv2 b hb).2) (by have := bb_top; omega)
    have HW := Lib.hid (And.intro hB5 (And.intro hB56 (And.intro hs6 hsafe)))
    have HVL := Lib.hid hval
    have f0 : W6.cell? ⟨w5.heap.size, 0, none⟩ = some (.int .i64 id) := by rw [hfb.cell]; rfl
    have f1 : W6.cell? ⟨w5.heap.size, 1, none⟩ = some (.slice fa mq fc) := by rw [hfb.cell]; rfl
    have f0x := f0
    have f1x := f1
    rw [hW6] at f0x f1x
    clear hB5 hv1 hv2 hs6 hb6 hfb hmb hB56 hsafe hM hval
    go_wp2_with fail
    rw [← hW6]
    clear hW6 f0x f1x
    refine HVL.out.mono ?_
    rintro e w8 ⟨rfl, s8, o8, c8, hc8, xv', ov', hm8⟩
    have c2 : w8.cell? ⟨w5.heap.size + 1, 2, none⟩ = some ov' := by rw [hm8.blk.cell]; rfl
    obtain ⟨oa, oc, rfl⟩ : ∃ oa oc, ov' = .slice oa o8.length oc := by
      rcases hm8.row.2 with ⟨rfl, h0⟩ | ⟨g, cap, cur, rfl, _⟩
      · exact ⟨none, 0, by rw [h0]⟩
      · exact ⟨_, _, rfl⟩
    have HE := Lib.hid (And.intro s8 hm8)
    clear s8 hm8 f0 f1
    go_wp2_with fail
    first | go_end0 | go_ret
    have hsz := HW.out.1.size
    refine ⟨HW.out.2.1.trans (HE.out.1.base.below fun k hk => HW.out.2.2.2 k (by omega)), _, o8, rfl, HE.out.2.row, HE.out.2.small, fun b hb => ?_, by have := HE.out.2.few; have := HE.out.2.cnt9; omega⟩
    apply Classical.byContradiction
    intro hlt
    have h1 := HE.out.1.safe b (HW.out.2.2.2 b (by omega))
    exact h1.no ((HE.out.2.own_ b).2 (.inr hb))
  · rw [findO_none (fun i hi => hat ⟨i, hi⟩)] at hF
    have HF := Lib.hid hF
    clear hF
    go_enter Tryz.func16, Tryz.ntmps16
    go_wp2_with fail
    refine HF.out.mono ?_
    rintro e w5 ⟨rfl, hB5⟩
    have hb : Below w.heap.size w ((w5.alloc (.cells #[.int .i64 0, .slice none 0 0] 52)).alloc (.cells #[.slice la L.length lc, .slice xa xn xc, .slice none 0 0, .int .i64 0] 77)) := hB5.trans (((bx _).trans ((bx _).mono (by simp))).mono hB5.size)
    have HB := Lib.hid hb
    clear hb hB5
    go_wp2_with fail
    first | go_end0 | go_ret
    exact ⟨HB.out, _, [], rfl, ⟨rfl, .inl ⟨rfl, rfl⟩⟩, fun x hx => absurd hx (List.not_mem_nil), fun b hb => (by cases hb), Nat.zero_le _⟩
end MakE
section RefPlain
namespace Fx

/-- A sum of ints, as far as an int can hold it. -/
def w64 (n : Int) : Int := (n + 9223372036854775808) % 18446744073709551616 - 9223372036854775808
theorem w64_in {n : Int} (h1 : -9223372036854775808 ≤ n) (h2 : n ≤ 9223372036854775807) : w64 n = n := by unfold w64; omega
theorem w64_lo (n : Int) : -9223372036854775808 ≤ w64 n := by unfold w64; omega
theorem w64_hi (n : Int) : w64 n ≤ 9223372036854775807 := by unfold w64; omega
/-- What formats with an ID add to a number. -/
def rin (q : Int) : List (Int × Int) → Int → Int
  | [], n => n
  | p :: t, n => rin q t (if p.1 = q then w64 (n + p.2) else n)
/-- What a field adds. -/
def rfield (acc : List (Int × Int)) (n : Int) (f : Fld) : Int :=
  if f.kind = 1 then w64 (n + f.text.size) else if f.kind = 2 then w64 (n + f.n) else if f.kind = 6 then w64 (n + f.n) else if f.kind = 3 then w64 (n + f.n) else if f.kind = 5 then rin f.n acc n else n
def rsum (acc : List (Int × Int)) (fs : List Fld) : Int := fs.foldl (rfield acc) 0
/-- The reference's least lengths, in the formats' order. -/
def rls : List Fm → List (Int × Int) → List (Int × Int)
  | [], acc => acc
  | f :: t, acc => rls t (acc ++ [(f.id, rsum acc f.fs)])
theorem rls_append : ∀ (a b : List Fm) (acc : List (Int × Int)), rls (a ++ b) acc = rls b (rls a acc)
  | [], _, _ => rfl
  | f :: a, b, acc => by rw [List.cons_append, rls, rls_append a b, rls]
theorem rls_snoc (a : List Fm) (f : Fm) : rls (a ++ [f]) [] = rls a [] ++ [(f.id, rsum (rls a []) f.fs)] := by rw [rls_append]; rfl
theorem rls_len : ∀ (l : List Fm) (acc : List (Int × Int)), (rls l acc).length = acc.length + l.length
  | [], acc => by simp [rls]
  | f :: t, acc => by rw [rls, rls_len t]; simp; omega
theorem rls_take : ∀ (l : List Fm) (acc : List (Int × Int)) (k : Nat), (rls l acc).take (acc.length + k) = rls (l.take k) acc
  | [], acc, k => by rw [List.take_nil, rls]; exact List.take_of_length_le (by omega)
  | f :: t, acc, 0 => by
    have h := rls_take t (acc ++ [(f.id, rsum acc f.fs)]) 0
    have h2 := congrArg (List.take acc.length) h
    simp [rls] at h2 ⊢
    rw [List.take_take] at h2
    rw [Nat.min_eq_left (by omega)] at h2
    exact h2
  | f :: t, acc, k + 1 => by
    have h := rls_take t (acc ++ [(f.id, rsum acc f.fs)]) k
    rw [List.take_succ_cons, rls, rls]
    rw [← h]
    congr 1
    simp; omega
theorem rls_map : ∀ (l : List Fm) (acc : List (Int × Int)), (rls l acc).map (·.1) = acc.map (·.1) ++ l.map (·.id)
  | [], acc => by simp [rls]
  | f :: t, acc => by rw [rls, rls_map t]; simp
theorem rin_append (q : Int) : ∀ (a b : List (Int × Int)) (n : Int), rin q (a ++ b) n = rin q b (rin q a n)
  | [], _, _ => rfl
  | p :: a, b, n => by rw [List.cons_append, rin, rin_append q a b, rin]
theorem rin_none {q : Int} : ∀ {a : List (Int × Int)} {n : Int}, (∀ p ∈ a, p.1 ≠ q) → rin q a n = n
  | [], _, _ => rfl
  | p :: a, n, h => by rw [rin, if_neg (h p (by simp)), rin_none fun x hx => h x (List.mem_cons_of_mem _ hx)]
theorem snoc_ind {α : Type} {P : List α → Prop} (h0 : P []) (h1 : ∀ l x, P l → P (l ++ [x])) (l : List α) : P l := by
  have h : ∀ r : List α, P r.reverse := by
    intro r
    induction r with
    | nil => exact h0
    | cons x r ih => rw [List.reverse_cons]; exact h1 _ _ ih
  have := h l.reverse
  rwa [List.reverse_reverse] at this
theorem lm_ids (d : List Fm) : ∀ p ∈ lm d, ∃ f ∈ d, p.1 = f.id := by
  refine snoc_ind (P := fun d => ∀ p ∈ lm d, ∃ f ∈ d, p.1 = f.id) ?_ ?_ d
  · intro p hp; simp [lm] at hp
  · intro d f ih p hp
    rw [lm_snoc] at hp
    rcases List.mem_cons.1 hp with rfl | hp
    · exact ⟨f, by simp, rfl⟩
    · obtain ⟨g, hg, h⟩ := ih p hp
      exact ⟨g, by simp [hg], h⟩
theorem lk_ids {d : List Fm} {q v : Int} (h : lk (lm d) q = some v) : ∃ f ∈ d, f.id = q := by
  unfold lk at h
  obtain ⟨p, hp, _⟩ := Option.map_eq_some_iff.1 h
  have h1 := List.find?_some hp
  obtain ⟨f, hf, he⟩ := lm_ids d p (List.mem_of_find?_eq_some hp)
  exact ⟨f, hf, he ▸ of_decide_eq_true h1⟩
theorem lk_has {d : List Fm} {q : Int} (h : ∃ f ∈ d, f.id = q) : ∃ v, lk (lm d) q = some v := by
  revert h
  refine snoc_ind (P := fun d => (∃ f ∈ d, f.id = q) → ∃ v, lk (lm d) q = some v) ?_ ?_ d
  · rintro ⟨f, hf, _⟩; simp at hf
  · rintro d f ih ⟨g, hg, he⟩
    rw [lm_snoc, lk_cons]
    split
    · exact ⟨_, rfl⟩
    · rename_i hne
      rcases List.mem_append.1 hg with hg | hg
      · exact ih ⟨g, hg, he⟩
      · simp at hg; subst hg; exact absurd he hne
/-- The ids of valid formats rise. -/
theorem Ok.ids {d : List Fm} {f : Fm} (h : Ok (d ++ [f])) : ∀ g ∈ d, g.id < f.id := by
  have key : ∀ i j, i < j → j < (d ++ [f]).length → ((d ++ [f]).getD i zm).id < ((d ++ [f]).getD j zm).id := by
    intro i j hij hj
    induction j with
    | zero => omega
    | succ j ih =>
      have h1 := h.asc j hj
      rcases Nat.lt_succ_iff_lt_or_eq.1 hij with h2 | rfl
      · exact Int.lt_trans (ih h2 (by omega)) h1
      · exact h1
  intro g hg
  obtain ⟨i, hi, rfl⟩ := List.getElem_of_mem hg
  have := key i d.length hi (by simp)
  rw [getD_snoc_eq, getD_snoc_lt hi] at this
  simpa [List.getD, List.getElem?_eq_getElem hi] using this
/-- What valid formats add: the one with the ID. -/
theorem rin_ok {d : List Fm} (q n : Int) : Ok d → rin q (lm d).reverse n = match lk (lm d) q with
    | some v => w64 (n + v)
    | none => n := by
  refine snoc_ind (P := fun d => Ok d → rin q (lm d).reverse n = match lk (lm d) q with
    | some v => w64 (n + v)
    | none => n) ?_ ?_ d
  · intro _; rfl
  · intro d f ih h
    rw [lm_snoc, List.reverse_cons, rin_append, lk_cons, rin, rin]
    have hids := h.ids
    by_cases e : f.id = q
    · rw [if_pos e, if_pos e]
      simp only
      rw [rin_none fun p hp hq => ?_]
      obtain ⟨g, hg, he⟩ := lm_ids d p (List.mem_reverse.1 hp)
      have := hids g hg
      omega
    · rw [if_neg e, if_neg e]
      exact ih h.snoc_inv.1
theorem rfield_ok {d : List Fm} (h : Ok d) {fs : List Fld} {f : Fld} {n : Int} (hr : right (lm d) fs f = true) (h0 : 0 ≤ n) (h1 : n ≤ 1000000000000) : rfield (lm d).reverse n f = n + lf (lm d) f := by
  have hl := right_lf h.fine hr
  have hk := right_kind hr
  unfold rfield
  unfold lf at hl ⊢
  by_cases k1 : f.kind = 1
  · rw [if_pos k1] at hl ⊢
    rw [if_pos k1, w64_in (by omega) (by omega)]
  · rw [if_neg k1] at hl ⊢
    rw [if_neg k1]
    by_cases k5 : f.kind = 5
    · rw [if_neg (by omega), if_pos k5] at hl ⊢
      rw [if_neg (by omega), if_neg (by omega), if_neg (by omega), if_pos k5, rin_ok f.n n h]
      unfold lkz at hl ⊢
      cases hk : lk (lm d) f.n with
      | none => simp
      | some v =>
        rw [hk] at hl
        simp only [Option.getD_some] at hl ⊢
        rw [w64_in (by omega) (by omega)]
    · by_cases k4 : f.kind = 4
      · rw [if_pos k4]
        rw [if_neg (by omega), if_neg (by omega), if_neg (by omega), if_neg (by omega)]; omega
      · rw [if_neg k4, if_neg k5] at hl ⊢
        have hw : w64 (n + f.n) = n + f.n := w64_in (by omega) (by omega)
        rw [hw, if_neg k5]
        obtain h2 | h2 | h2 : f.kind = 2 ∨ f.kind = 3 ∨ f.kind = 6 := by omega
        · rw [if_pos h2]
        · rw [if_neg (by omega), if_neg (by omega), if_pos h2]
        · rw [if_neg (by omega), if_pos h2]
theorem rsum_snoc (acc : List (Int × Int)) (fs : List Fld) (f : Fld) : rsum acc (fs ++ [f]) = rfield acc (rsum acc fs) f := by unfold rsum; rw [List.foldl_append]; rfl
theorem rsum_ok {d : List Fm} (h : Ok d) (fs : List Fld) : fs.length ≤ 1000 → (∀ k, k < fs.length → right (lm d) (fs.take k) (fs.getD k zf) = true) → rsum (lm d).reverse fs = ls (lm d) fs ∧ 0 ≤ ls (lm d) fs ∧ ls (lm d) fs ≤ 65536 * fs.length := by
  refine snoc_ind (P := fun fs => fs.length ≤ 1000 → (∀ k, k < fs.length → right (lm d) (fs.take k) (fs.getD k zf) = true) → rsum (lm d).reverse fs = ls (lm d) fs ∧ 0 ≤ ls (lm d) fs ∧ ls (lm d) fs ≤ 65536 * fs.length) ?_ ?_ fs
  · intro _ _
    exact ⟨rfl, by simp [ls], by simp [ls]⟩
  · intro fs f ih hl hr
    simp only [List.length_append, List.length_cons, List.length_nil] at hl
    obtain ⟨i1, i2, i3⟩ := ih (by omega) fun k hk => by
      have := hr k (by simp; omega)
      rwa [take_snoc_le (by omega), getD_snoc_lt hk] at this
    have h1 := hr fs.length (by simp)
    rw [take_snoc_le (Nat.le_refl _), getD_snoc_eq, List.take_length] at h1
    have h2 := right_lf h.fine h1
    rw [rsum_snoc, i1, rfield_ok h h1 i2 (by omega), ls_snoc]
    refine ⟨rfl, by omega, ?_⟩
    simp only [List.length_append, List.length_cons, List.length_nil]
    omega
theorem rls_ok {d : List Fm} : Ok d → rls d [] = (lm d).reverse := by
  refine snoc_ind (P := fun d => Ok d → rls d [] = (lm d).reverse) ?_ ?_ d
  · intro _; rfl
  · intro d f ih h
    have h1 := h.snoc_inv
    rw [rls_snoc, ih h1.1, lm_snoc, List.reverse_cons, (rsum_ok h1.1 f.fs (by have := h1.2.few; omega) h1.2.each).1]
/-- The least length of the last format, whose fields are right, behind valid ones. -/
theorem rls_last {d : List Fm} {f : Fm} (h : Ok d) (hl : f.fs.length ≤ 1000) (hr : ∀ k, k < f.fs.length → right (lm d) (f.fs.take k) (f.fs.getD k zf) = true) : ((rls (d ++ [f]) []).getD d.length (0, 0)).2 = ls (lm d) f.fs := by
  rw [rls_snoc, rls_ok h, (rsum_ok h f.fs hl hr).1]
  have hlen : (lm d).reverse.length = d.length := by rw [← rls_ok h, rls_len]; simp
  rw [← hlen]
  simp [List.getD]
/-- The least length of a format among valid ones. -/
theorem rls_at {d : List Fm} : Ok d → ∀ {i : Nat}, i < d.length → ((rls d []).getD i (0, 0)).2 = lkz (lm d) (d.getD i zm).id ∧ knows (lm d) (d.getD i zm).id = true := by
  refine snoc_ind (P := fun d => Ok d → ∀ {i : Nat}, i < d.length → ((rls d []).getD i (0, 0)).2 = lkz (lm d) (d.getD i zm).id ∧ knows (lm d) (d.getD i zm).id = true) ?_ ?_ d
  · intro _ i hi; simp at hi
  · intro d f ih h i hi
    have h1 := h.snoc_inv
    have hids := h.ids
    have hlen : (rls d []).length = d.length := by rw [rls_len]; simp
    rw [rls_snoc]
    by_cases hd : i < d.length
    · have e1 : (rls d [] ++ [(f.id, rsum (rls d []) f.fs)]).getD i (0, 0) = (rls d []).getD i (0, 0) := getD_snoc_lt (by omega)
      have e2 : (d ++ [f]).getD i zm = d.getD i zm := getD_snoc_lt hd
      obtain ⟨i1, i2⟩ := ih h1.1 hd
      have hlt : (d.getD i zm).id < f.id := hids _ (by simp [List.getD, List.getElem?_eq_getElem hd])
      rw [e1, e2, lm_snoc, lkz_cons, if_neg (by simp only; omega), i1]
      refine ⟨rfl, ?_⟩
      unfold knows at i2 ⊢
      rw [lk_cons, if_neg (by simp only; omega)]
      exact i2
    · have hi2 : i = d.length := by simp at hi; omega
      subst hi2
      have e2 : (d ++ [f]).getD d.length zm = f := getD_snoc_eq
      have e1 := rls_last (d := d) (f := f) h1.1 (by have := h1.2.few; omega) h1.2.each
      rw [rls_snoc] at e1
      rw [e1, e2, lm_snoc, lkz_cons, if_pos rfl]
      refine ⟨rfl, ?_⟩
      unfold knows
      rw [lk_cons, if_pos rfl]; rfl
end Fx
end RefPlain
section RefA
open Go.RowKit Go.Shelf Fx Go.Sort

theorem rwithin_any (n lo hi : Int) (v : Bool) (w : World) (hv : withinB n lo hi = v) :
    Calls Tryz.prog 85 #[.int .i64 n, .int .i64 lo, .int .i64 hi] w fun e w' => e = .returned (.bool v) ∧ w' = w := by
  subst hv
  unfold withinB
  by_cases h1 : lo ≤ n
  · have h2 : decide (lo ≤ n) = true := decide_eq_true h1
    go_enter Tryz.func85, Tryz.ntmps85
    go_wp2_with fail
    go_ret
    exact ⟨by simp [h1], rfl⟩
  · have h2 : decide (lo ≤ n) = false := decide_eq_false h1
    go_enter Tryz.func85, Tryz.ntmps85
    go_wp2_with fail
    go_ret
    exact ⟨by simp, rfl⟩
theorem wrap64_w64 (n : Int) : wrap64 n = w64 n := by rw [← IntWalk.i64_left, IntKind.wrap_i64]; rfl
/-- A row of the call's own ints. -/
abbrev OwnI (w : World) (B : Nat) (v : Value) (l : List Int) : Prop := w.ownsRow B 3 1 v l.length (l.map fun n => Value.int .i64 n)
theorem OwnI.at_ {w : World} {B : Nat} {v : Value} {l : List Int} (h : OwnI w B v l) : ∃ a c, v = .slice a l.length c ∧ (l.length = 0 ∨ ∃ b, a = some ⟨b, 0, none⟩ ∧ B ≤ b ∧ b < w.heap.size ∧ l.length ≤ c ∧ c ≤ maxLen ∧ ∀ j, j < l.length → w.cell? ⟨b, j, none⟩ = some (.int .i64 (l.getD j 0))) := by
  rcases h.2 with ⟨rfl, h0⟩ | ⟨g, cap, cur, rfl, hg, hh, hl, hm, hsz, ht⟩
  · exact ⟨none, 0, by rw [h0], .inl h0⟩
  · refine ⟨_, _, rfl, .inr ⟨g, rfl, hg, lt_of_heap hh, hl, hm, fun j hj => ?_⟩⟩
    rw [cell_of_row w g j cur _ (0, 0) hh]
    have e : (cur.toList.take (l.length * 1))[j]? = (l.map fun n => Value.int .i64 n)[j]? := by rw [ht]
    rw [List.getElem?_take, if_pos (by omega)] at e
    simp only [Array.getElem?_toList] at e
    rw [e]
    simp [List.getElem?_eq_getElem hj, List.getD]
theorem infoInt : (Tryz.prog.info? 3).map (fun i => (i.zero, i.size, i.bytes)) = some (some (.int .i64 0), 1, 8) := by kernel_rfl
theorem run_append_int (w : World) (B : Nat) (ty : TypeId) (v : Value) (n : Nat) (xs : List Value) (hown : w.ownsRow B 3 1 v n xs) (hB : B ≤ w.heap.size) (hn : n ≤ 1000) (g : Nat) (x : Int) (hg : w.heap[g]? = some (.cells #[.int .i64 x] 3 (0, 0))) :
    ∃ v' w', (Builtin.append_ #[24, 24] ty #[v, .slice (some ⟨g, 0, none⟩) 1 1]).run Tryz.prog w = .ok v' w' ∧ Grew w w' B 3 1 v v' (n + 1) (xs ++ [.int .i64 x]) := by
  obtain ⟨i0, hi, hz0, hz1, hz2⟩ := info_parts infoInt
  obtain ⟨v', w', h1, h2, h3, _, h5⟩ := run_append_own_at (P := Tryz.prog) w B 24 ty 3 i0 _ 1 8 Tryz.underlying24 hi hz0 hz1 hz2 rfl (by decide) v n xs hown ⟨g, 0, none⟩ 1 1 [.int .i64 x] rfl
    (fun j y hy => by
      have hadd : (⟨g, 0, none⟩ : Addr).add j = ⟨g, j, none⟩ := by unfold Addr.add; split <;> simp_all
      rw [hadd, cell_of_row w g j _ _ _ hg]; simpa using hy)
    (fun y hy => by simp at hy; subst hy; rfl) (by unfold maxLen; omega) (by omega) hB
  exact ⟨v', w', h1, h2, h3, h5⟩
theorem wpList_append_int {ops : Array Oper} {rest : List Oper} {o : Oper} {a : Act} {w : World} {Q : Exit → Act → World → Prop}
    (hg : o.guard = none) (s x : Operand) (hop : o.op = Op.call { callee := Callee.builtin Builtin.append, args := #[s, x], argTypes := #[24, 24] })
    (B : Nat) (v : Value) (n : Nat) (xs : List Value) (hs : a.eval s = v) (hown : w.ownsRow B 3 1 v n xs) (hB : B ≤ w.heap.size) (hn : n ≤ 1000) (g : Nat) (y : Int) (hx : a.eval x = .slice (some ⟨g, 0, none⟩) 1 1)
    (hb : w.heap[g]? = some (.cells #[.int .i64 y] 3 (0, 0)))
    (hK : ∀ v' w', Grew w w' B 3 1 v v' (n + 1) (xs ++ [.int .i64 y]) → wpList Tryz.prog ops Q rest (a.put o.dst v') w') : wpList Tryz.prog ops Q (o :: rest) a w :=
  wpList_plain hg fun _ hK' => by
    obtain ⟨v', w', hr, h2⟩ := run_append_int w B o.type v n xs hown hB hn g y hb
    unfold Oper.wp
    simp [execOp, hop, resolve, invoke, builtin, hs, hx, hr, Result.andThen]
    exact hK' _ _ (hK _ _ h2)
set_option maxHeartbeats 1000000 in
set_option maxRecDepth 100000 in
theorem leasts_any (v : Value) (l : List Fm) (w : World) (hV : FmsAt (· < w.heap.size) w v l) (hl : l.length ≤ 1000) :
    Calls Tryz.prog 84 #[v] w fun e w' => (∃ u, e = .returned u ∧ OwnI w' w.heap.size u ((rls l []).map (·.2))) ∧ Below w.heap.size w w' := by
  obtain ⟨a, c, rfl, hlc⟩ := hV.slice_
  obtain ⟨n, hn⟩ : ∃ n, n = l.length := ⟨_, rfl⟩
  rw [← hn] at hV hlc hl ⊢
  have HV := Lib.hid (And.intro hV hn)
  clear hV hn
  go_enter Tryz.func84, Tryz.ntmps84
  go_wp2_with fail
  go_loopw [3, 4] (fun o i wr => ∃ k : Nat, k ≤ n ∧ i = .int .i64 k ∧ Hid (Below w.heap.size w wr ∧ OwnI wr w.heap.size o ((rls (l.take k) []).map (·.2)))) (fun _ i _ => n - (intOf i).toNat)
  case atStart => exact ⟨0, Nat.zero_le _, rfl, Lib.hid ⟨Below.refl _ _, World.ownsRow_nil _ _ _ _⟩⟩
  case round =>
    obtain ⟨k, hk, rfl, HI⟩ := hrel
    obtain ⟨wo, rfl⟩ : ∃ wo : World, wo = wr := ⟨_, rfl⟩
    obtain ⟨acc, hacc⟩ : ∃ acc, acc = rls (l.take k) [] := ⟨_, rfl⟩
    rw [← hacc] at HI
    have hacl : acc.length = k := by
      rw [hacc, rls_len, List.length_take]
      have := HV.out.2
      simp; omega
    obtain ⟨oa, oc, ho, hoc⟩ := HI.out.2.at_
    have hl2 : (acc.map (·.2)).length = k := by rw [List.length_map, hacl]
    rw [hl2] at ho
    subst ho
    have HACC := Lib.hid hacc
    clear hacc
    by_cases hlt : k < n
    · have hkl : k < l.length := by have := HV.out.2; omega
      obtain ⟨b, off, rfl, -, hbl, -, m1, m2, hfm⟩ := HV.out.1.at_ (by omega)
      obtain ⟨u, hu⟩ := hfm k hkl
      obtain ⟨f, hf⟩ : ∃ f, f = l.getD k zm := ⟨_, rfl⟩
      rw [← hf] at hu
      obtain ⟨ua, uc, rfl, hucl⟩ := hu.fs.slice_
      obtain ⟨m, hm⟩ : ∃ m, m = f.fs.length := ⟨_, rfl⟩
      rw [← hm] at hucl hu
      have HF := Lib.hid (And.intro hu (And.intro hf (And.intro hm hfm)))
      have hmx : m ≤ 9223372036854775807 := by unfold maxLen at hucl; omega
      have lb := hbl
      unfold maxLen at m2
      clear hf hm hfm hu
      go_wp2_with fail
      go_loopw [5, 6] (fun q i wr => ∃ j : Nat, j ≤ m ∧ i = .int .i64 j ∧ q = .int .i64 (rsum acc (f.fs.take j)) ∧ Hid (Below wo.heap.size wo wr)) (fun _ i _ => m - (intOf i).toNat)
      case atStart => exact ⟨0, Nat.zero_le _, rfl, rfl, Lib.hid (Below.refl _ _)⟩
      case round =>
        obtain ⟨j, hj, rfl, rfl, HJ⟩ := hrel
        obtain ⟨wt, rfl⟩ : ∃ wt : World, wt = wr := ⟨_, rfl⟩
        have hbw : Below w.heap.size w wt := HI.out.1.trans (HJ.out.mono HI.out.1.size)
        have hu' := HF.out.1.kept (Kept.of_below hbw fun _ h => h) hbl
        have c1 := hu'.c1
        have lb2 := World.block_lt_of_cell? (h := c1)
        by_cases hjm : j < m
        · have hjl : j < f.fs.length := by have := HF.out.2.2.1; omega
          obtain ⟨fb, fo, rfl, -, lfb, n1, n2, hfl⟩ := hu'.fs.at_ (by omega)
          obtain ⟨⟨gk, gn, gf, gt⟩, hg⟩ : ∃ g, g = f.fs.getD j zf := ⟨_, rfl⟩
          have hgA := hfl j hjl
          rw [← hg] at hgA
          obtain ⟨g0, g1, g2, g3⟩ := hgA
          have HG : Hid (rsum acc (f.fs.take (j + 1)) = rfield acc (rsum acc (f.fs.take j)) ⟨gk, gn, gf, gt⟩) := Lib.hid (by
            rw [take_succ_getD _ zf j hjl, ← hg, rsum_snoc])
          obtain ⟨N, hN⟩ : ∃ N, N = rsum acc (f.fs.take j) := ⟨_, rfl⟩
          rw [← hN] at HG ⊢
          obtain ⟨wc, hwc⟩ : ∃ wc, wc = wt.alloc (.cells #[.int .i64 gk, .int .i64 gn, .int .i64 gf, .string gt] 56) := ⟨_, rfl⟩
          have hBc : Below wt.heap.size wt wc := by rw [hwc]; exact bx _
          have hc0 : wc.heap[wt.heap.size]? = some (.cells #[.int .i64 gk, .int .i64 gn, .int .i64 gf, .string gt] 56 (0, 0)) := by rw [hwc]; exact heap_alloc_new _ _
          have k0 : wc.cell? ⟨wt.heap.size, 0, none⟩ = some (.int .i64 gk) := cell_of_row _ _ _ _ _ _ hc0
          have k1 : wc.cell? ⟨wt.heap.size, 1, none⟩ = some (.int .i64 gn) := cell_of_row _ _ _ _ _ _ hc0
          have k3 : wc.cell? ⟨wt.heap.size, 3, none⟩ = some (.string gt) := cell_of_row _ _ _ _ _ _ hc0
          have HC := Lib.hid (And.intro (HJ.out.trans (hBc.mono HJ.out.size)) hc0)
          unfold maxLen at n2
          clear hfl hg hu' hbw hBc hc0 HJ hN
          by_cases K1 : gk = 1
          · subst K1
            have e1 : rfield acc N ⟨1, gn, gf, gt⟩ = w64 (N + gt.size) := rfl
            go_wp2_with fail
            refine ⟨⟨j + 1, by omega, by go_num, by rw [HG.out, e1]; simp only [wrap64_w64], Lib.hid (by rw [← hwc]; exact HC.out.1)⟩, by simp [intOf]; omega⟩
          · by_cases K2 : gk = 2
            · subst K2
              have e1 : rfield acc N ⟨2, gn, gf, gt⟩ = w64 (N + gn) := rfl
              go_wp2_with fail
              refine ⟨⟨j + 1, by omega, by go_num, by rw [HG.out, e1]; simp only [wrap64_w64], Lib.hid (by rw [← hwc]; exact HC.out.1)⟩, by simp [intOf]; omega⟩
            · by_cases K6 : gk = 6
              · subst K6
                have e1 : rfield acc N ⟨6, gn, gf, gt⟩ = w64 (N + gn) := rfl
                go_wp2_with fail
                refine ⟨⟨j + 1, by omega, by go_num, by rw [HG.out, e1]; simp only [wrap64_w64], Lib.hid (by rw [← hwc]; exact HC.out.1)⟩, by simp [intOf]; omega⟩
              · by_cases K3 : gk = 3
                · subst K3
                  have e1 : rfield acc N ⟨3, gn, gf, gt⟩ = w64 (N + gn) := rfl
                  go_wp2_with fail
                  refine ⟨⟨j + 1, by omega, by go_num, by rw [HG.out, e1]; simp only [wrap64_w64], Lib.hid (by rw [← hwc]; exact HC.out.1)⟩, by simp [intOf]; omega⟩
                · by_cases K5 : gk = 5
                  · subst K5
                    have HE : Hid (rfield acc N ⟨5, gn, gf, gt⟩ = rin gn acc N) := Lib.hid rfl
                    go_wp2_with fail
                    rw [← hwc]
                    clear hwc
                    go_loopw [5, 8] (fun q i wr => ∃ (t : Nat) (M : Int), t ≤ k ∧ i = .int .i64 t ∧ q = .int .i64 M ∧ Hid (Below wc.heap.size wc wr ∧ rin gn (acc.drop t) M = rin gn acc N)) (fun _ i _ => k - (intOf i).toNat)
                    case atStart => exact ⟨0, N, Nat.zero_le _, rfl, rfl, Lib.hid ⟨Below.refl _ _, rfl⟩⟩
                    case round =>
                      obtain ⟨t, M, ht, rfl, rfl, HT⟩ := hrel
                      by_cases htk : t < k
                      · have htl : t < l.length := by omega
                        have hta : t < acc.length := by omega
                        have bcw : Below w.heap.size w wc := HI.out.1.trans (HC.out.1.mono HI.out.1.size)
                        have btw : Below w.heap.size w wr := bcw.trans (HT.out.1.mono bcw.size)
                        obtain ⟨ut, hut⟩ := HF.out.2.2.2 t htl
                        have hut' := hut.kept (Kept.of_below btw fun _ h => h) hbl
                        have p0 := hut'.c0
                        have lb3 := World.block_lt_of_cell? (h := p0)
                        have hX := (HT.out.1.block _ (lt_of_heap HC.out.2)).trans HC.out.2
                        have p1 : wr.cell? ⟨wt.heap.size, 1, none⟩ = some (.int .i64 gn) := cell_of_row _ _ _ _ _ _ hX
                        have hown : OwnI wr w.heap.size (.slice oa k oc) (acc.map (·.2)) := ownsRow_below (ownsRow_below HI.out.2 HC.out.1) (HT.out.1.mono (Nat.le_refl _))
                        obtain ⟨_, _, he, h0⟩ := hown.at_
                        rw [hl2] at he h0
                        cases he
                        rcases h0 with h0 | ⟨ob, rfl, hob1, hob2, hol, hoc2, hoat⟩
                        · exact absurd h0 (by omega)
                        have p2 := hoat t (by omega)
                        obtain ⟨⟨pi, pv⟩, hp⟩ : ∃ p, p = acc[t] := ⟨_, rfl⟩
                        have hpd : (acc.map (·.2)).getD t 0 = pv := by simp [List.getD, List.getElem?_eq_getElem hta, ← hp]
                        have hpi : (l.getD t zm).id = pi := by
                          have h1 : (acc.map (·.1))[t]? = ((l.take k).map (·.id))[t]? := by rw [HACC.out, rls_map]; rfl
                          rw [List.getElem?_map, List.getElem?_eq_getElem hta, List.getElem?_map, List.getElem?_take, if_pos htk, List.getElem?_eq_getElem htl, ← hp] at h1
                          simp at h1
                          simp [List.getD, List.getElem?_eq_getElem htl, h1]
                        have hdr : acc.drop t = (pi, pv) :: acc.drop (t + 1) := by rw [List.drop_eq_getElem_cons hta, ← hp]
                        rw [hpd] at p2
                        rw [hpi] at p0
                        have hr := HT.out.2
                        rw [hdr, rin] at hr
                        simp only at hr
                        have lla : (acc.map (·.2)).length = acc.length := by simp
                        have HTB := Lib.hid HT.out.1
                        have HR := Lib.hid hr
                        clear hut hut' hX hown hoat hp hpd hpi hdr hr HT bcw btw
                        by_cases hq : pi = gn
                        · have d1 : ((pi : Int) == gn) = true := by rw [beq_iff_eq]; exact hq
                          have HR1 : Hid (rin gn (acc.drop (t + 1)) (w64 (M + pv)) = rin gn acc N) := Lib.hid (by rw [← HR.out, if_pos hq])
                          clear hq HR
                          go_wp2_with fail
                          go_region
                          go_wp2_with fail
                          refine ⟨⟨t + 1, w64 (M + pv), by omega, by go_num, by simp only [wrap64_w64], Lib.hid ⟨HTB.out.drew, HR1.out⟩⟩, by simp [intOf]; omega⟩
                        · have d1 : ((pi : Int) == gn) = false := by rw [beq_eq_false_iff_ne]; exact hq
                          have HR1 : Hid (rin gn (acc.drop (t + 1)) M = rin gn acc N) := Lib.hid (by rw [← HR.out, if_neg hq])
                          clear hq HR
                          go_wp2_with fail
                          go_region
                          go_wp2_with fail
                          refine ⟨⟨t + 1, M, by omega, by go_num, rfl, Lib.hid ⟨HTB.out.drew, HR1.out⟩⟩, by simp [intOf]; omega⟩
                      · obtain rfl : t = k := by omega
                        have HM : Hid (M = rin gn acc N) := Lib.hid (by
                          have h := HT.out.2
                          rw [List.drop_eq_nil_of_le (by omega)] at h
                          exact h)
                        have HB := Lib.hid (HC.out.1.trans (HT.out.1.mono HC.out.1.size))
                        clear HT
                        go_wp2_with fail
                        go_roundw
                        case rel => exact ⟨j + 1, by omega, by go_num, by rw [HG.out, HE.out, HM.out], Lib.hid HB.out⟩
                        case measure => simp [intOf]; omega
                  · have e1 : rfield acc N ⟨gk, gn, gf, gt⟩ = N := by unfold rfield; rw [if_neg K1, if_neg K2, if_neg K6, if_neg K3, if_neg K5]
                    go_wp2_with fail
                    refine ⟨⟨j + 1, by omega, by go_num, by rw [HG.out, e1], Lib.hid (by rw [← hwc]; exact HC.out.1)⟩, by simp [intOf]; omega⟩
        · obtain rfl : j = m := by omega
          have eT : f.fs.take j = f.fs := by rw [HF.out.2.2.1, List.take_length]
          rw [eT]
          have hown : OwnI wt w.heap.size (.slice oa k oc) (acc.map (·.2)) := ownsRow_below HI.out.2 HJ.out
          have eR : rls (l.take (k + 1)) [] = acc ++ [(f.id, rsum acc f.fs)] := by
            rw [take_succ_getD _ zm k hkl, ← HF.out.2.1, rls_snoc, ← HACC.out]
          have HO := Lib.hid (And.intro hown (And.intro hbw eR))
          have HOA : Hid ((wt.alloc (.cells #[.int .i64 (rsum acc f.fs)] 3)).ownsRow w.heap.size 3 1 (.slice oa k oc) k ((acc.map (·.2)).map fun n => Value.int .i64 n)) := Lib.hid (by
            have h : OwnI (wt.alloc (.cells #[.int .i64 (rsum acc f.fs)] 3)) w.heap.size (.slice oa k oc) (acc.map (·.2)) := ownsRow_below hown (bx _)
            unfold OwnI at h
            rwa [hl2] at h)
          have HBA : Hid ((wt.alloc (.cells #[.int .i64 (rsum acc f.fs)] 3)).heap[wt.heap.size]? = some (.cells #[.int .i64 (rsum acc f.fs)] 3 (0, 0)) ∧ w.heap.size ≤ (wt.alloc (.cells #[.int .i64 (rsum acc f.fs)] 3)).heap.size ∧ Below w.heap.size w (wt.alloc (.cells #[.int .i64 (rsum acc f.fs)] 3))) := Lib.hid ⟨heap_alloc_new _ _, by have := hbw.size; simp; omega, hbw.alloc hbw.size _⟩
          have hownlt := hown.lt
          have HLT := Lib.hid hownlt
          clear hown hbw eR HI HJ hu' hoc hownlt
          go_wp2_with (at_builtin; refine wpList_append_int rfl (.tmp 76) (.tmp 78) rfl w.heap.size (.slice oa k oc) k ((acc.map (·.2)).map fun n => Value.int .i64 n) rfl HOA.out HBA.out.2.1 (by omega) wt.heap.size (rsum acc f.fs) rfl HBA.out.1 ?_; intro v1 wA hGr)
          refine ⟨⟨k + 1, by omega, by go_num, Lib.hid ⟨?_, ?_⟩⟩, by simp [intOf]; omega⟩
          · exact HBA.out.2.2.grown hGr.grown HBA.out.2.1 (fun g hg => (HLT.out g hg).1)
          · have h := hGr.own
            rw [HO.out.2.2]
            unfold OwnI
            have e1 : ((acc ++ [(f.id, rsum acc f.fs)]).map (·.2)).length = k + 1 := by simp [hacl]
            rw [e1]
            simpa using h
    · obtain rfl : k = n := by omega
      have HP : Hid (Below w.heap.size w wo ∧ OwnI wo w.heap.size (.slice oa k oc) ((rls l []).map (·.2))) := Lib.hid (by
        have h := HI.out
        have e : l.take k = l := by rw [HV.out.2, List.take_length]
        have ea := HACC.out
        rw [e] at ea
        rw [← ea]
        exact h)
      clear HI hoc
      go_wp2_with fail
      go_ret
      exact ⟨⟨_, rfl, HP.out.2⟩, HP.out.1⟩
end RefA
section RefB
open Go.RowKit Go.Shelf Fx Go.Sort

theorem counts_lo {fs : List Fld} {q : Int} (h : q < 0) : counts fs q = false := by unfold counts; rw [decide_eq_false (by omega)]; rfl
theorem counts_hi {fs : List Fld} {q : Int} (h : (fs.length : Int) ≤ q) : counts fs q = false := by unfold counts; rw [decide_eq_false (p := q < (fs.length : Int)) (by omega)]; simp
theorem counts_kind {fs : List Fld} {q : Int} (h : (fs.getD q.toNat zf).kind ≠ 2) : counts fs q = false := by unfold counts; rw [decide_eq_false h]; simp
theorem counts_used {fs : List Fld} {q : Int} {i : Nat} (hi : i < fs.length) (h : (fs.getD i zf).frm = q) : counts fs q = false := by
  unfold counts
  have : (fs.any fun g => decide (g.frm = q)) = true := by
    rw [List.any_eq_true]
    refine ⟨fs[i], List.getElem_mem hi, ?_⟩
    simp [List.getD, List.getElem?_eq_getElem hi] at h
    exact decide_eq_true h
  rw [this]; simp
theorem counts_true {fs : List Fld} {q : Int} (h0 : 0 ≤ q) (h1 : q < fs.length) (h2 : (fs.getD q.toNat zf).kind = 2) (h3 : ∀ i, i < fs.length → (fs.getD i zf).frm ≠ q) : counts fs q = true := by
  unfold counts
  have : (fs.any fun g => decide (g.frm = q)) = false := by
    rw [List.any_eq_false]
    intro x hx
    obtain ⟨i, hi, rfl⟩ := List.getElem_of_mem hx
    have := h3 i hi
    simp [List.getD, List.getElem?_eq_getElem hi] at this
    simpa using this
  rw [this, decide_eq_true h0, decide_eq_true h1, decide_eq_true h2]; rfl
theorem getD_take {α : Type} {l : List α} {z : α} {i k : Nat} (h : i < k) : (l.take k).getD i z = l.getD i z := by
  simp [List.getD, h]
set_option maxHeartbeats 1000000 in
theorem rnumber_any (v : Value) (fs : List Fld) (k : Nat) (q : Bool) (w : World) (hV : FldsAt w v fs) (hk : k < fs.length) (hI : ∀ i, i < fs.length → Ints (fs.getD i zf)) (hq : counts (fs.take k) (fs.getD k zf).frm = q) :
    Calls Tryz.prog 103 #[v, .int .i64 k] w fun e w' => e = .returned (.bool q) ∧ w' = w := by
  obtain ⟨a, c, rfl, hlc⟩ := hV.slice_
  obtain ⟨n, hn⟩ : ∃ n, n = fs.length := ⟨_, rfl⟩
  rw [← hn] at hV hlc ⊢
  obtain ⟨b, off, rfl, -, lb, m1, m2, hfl⟩ := hV.at_ (by omega)
  obtain ⟨Q, hQ⟩ : ∃ Q, Q = (fs.getD k zf).frm := ⟨_, rfl⟩
  have hkn : k < n := by omega
  have hQr := hI k hk
  have hQ1 : -9223372036854775808 ≤ Q := by rw [hQ]; exact hQr.f1
  have hQ2 : Q ≤ 9223372036854775807 := by rw [hQ]; exact hQr.f2
  have c2 := (hfl k hk).c2
  rw [← hQ] at c2 hq
  have HF := Lib.hid (And.intro hfl (And.intro hn hq))
  have lk : (fs.take k).length = k := by rw [List.length_take]; omega
  have HLK := Lib.hid lk
  unfold maxLen at m2
  clear hV hlc hfl hI hQr hQ hn hq hk lk
  by_cases q0 : Q < 0
  · have HP : Hid (q = false) := Lib.hid (by rw [← HF.out.2.2]; exact counts_lo q0)
    go_enter Tryz.func103, Tryz.ntmps103
    go_wp2_with fail
    go_ret
    exact ⟨by rw [HP.out]; rfl, rfl⟩
  · by_cases q1 : (k : Int) ≤ Q
    · have HP : Hid (q = false) := Lib.hid (by rw [← HF.out.2.2]; exact counts_hi (by rw [HLK.out]; exact q1))
      go_enter Tryz.func103, Tryz.ntmps103
      go_wp2_with fail
      go_ret
      exact ⟨by rw [HP.out]; rfl, rfl⟩
    · obtain ⟨Qn, hQn⟩ : ∃ Qn : Nat, Q = Qn := ⟨Q.toNat, by omega⟩
      subst hQn
      have hqk : Qn < k := by omega
      have cK := (HF.out.1 Qn (by have := HF.out.2.1; omega)).c0
      obtain ⟨KD, hKD⟩ : ∃ KD, KD = (fs.getD Qn zf).kind := ⟨_, rfl⟩
      rw [← hKD] at cK
      have HKD := Lib.hid hKD
      clear hKD
      by_cases hk2 : KD = 2
      · subst hk2
        go_enter Tryz.func103, Tryz.ntmps103
        go_wp2_with fail
        go_loop [6] (fun i => ∃ j : Nat, j ≤ k ∧ i = .int .i64 j ∧ Hid (∀ x, x < j → (fs.getD x zf).frm ≠ (Qn : Int))) (fun i => k - (intOf i).toNat)
        case atStart => exact ⟨0, Nat.zero_le _, rfl, Lib.hid fun x hx => absurd hx (by omega)⟩
        case round =>
          obtain ⟨j, hj, rfl, HJ⟩ := hrel
          by_cases hjk : j < k
          · have cF := (HF.out.1 j (by have := HF.out.2.1; omega)).c2
            obtain ⟨X, hX⟩ : ∃ X, X = (fs.getD j zf).frm := ⟨_, rfl⟩
            rw [← hX] at cF
            have HXX := Lib.hid hX
            clear hX
            by_cases hx : X = (Qn : Int)
            · have d1 : (X == (Qn : Int)) = true := by rw [beq_iff_eq]; exact hx
              have HP : Hid (q = false) := Lib.hid (by
                rw [← HF.out.2.2]
                exact counts_used (i := j) (by rw [HLK.out]; exact hjk) (by rw [getD_take hjk, ← HXX.out, hx]))
              clear hx HJ
              go_wp2_with fail
              go_ret
              exact ⟨by rw [HP.out]; rfl, rfl⟩
            · have d1 : (X == (Qn : Int)) = false := by rw [beq_eq_false_iff_ne]; exact hx
              have HN : Hid (∀ x, x < j + 1 → (fs.getD x zf).frm ≠ (Qn : Int)) := Lib.hid fun x h => by
                rcases Nat.lt_succ_iff_lt_or_eq.1 h with h | rfl
                · exact HJ.out x h
                · rw [← HXX.out]; exact hx
              clear hx HJ
              go_wp2_with fail
              refine ⟨⟨j + 1, by omega, by go_num, HN⟩, by simp [intOf]; omega⟩
          · obtain rfl : j = k := by omega
            have HP : Hid (q = true) := Lib.hid (by
              rw [← HF.out.2.2]
              refine counts_true (by omega) (by rw [HLK.out]; omega) ?_ fun i hi => ?_
              · rw [Int.toNat_natCast, getD_take hqk]; exact HKD.out.symm
              · rw [HLK.out] at hi
                rw [getD_take hi]; exact HJ.out i hi)
            clear HJ
            go_wp2_with fail
            go_ret
            exact ⟨by rw [HP.out]; rfl, rfl⟩
      · have HP : Hid (q = false) := Lib.hid (by
          rw [← HF.out.2.2]
          refine counts_kind ?_
          rw [Int.toNat_natCast, getD_take hqk, ← HKD.out]; exact hk2)
        go_enter Tryz.func103, Tryz.ntmps103
        go_wp2_with fail
        go_ret
        exact ⟨by rw [HP.out]; rfl, rfl⟩
end RefB
end Go.Proofs.YtdndmhlmbpgdeaaGreatDoor
