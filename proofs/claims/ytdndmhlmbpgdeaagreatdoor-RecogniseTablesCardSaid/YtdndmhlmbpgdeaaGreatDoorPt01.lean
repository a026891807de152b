/- Formats that are put behind those of a table make no difference to the others. Plain facts. No condition of its own. The law RecogniseTables: it returns true. Conditions: rows of four numbers, three numbers, a list of numbers and a string that can be read; the variables of the errors are laid. -/
import Derived.Test.YtdndmhlmbpgdeaaGreatDoorPb14
import Derived.Test.YtdndmhlmbpgdeaaGreatDoorPb10
import Derived.Test.YtdndmhlmbpgdeaaGreatDoorPb20
import Derived.Lib.QuietBelow
import Derived.BigQuiet
namespace Go.Proofs.YtdndmhlmbpgdeaaGreatDoor
section TabP
open Fx Rec
namespace Tb

theorem reps_congr {sub sub' : Sub} {id : Int} (h : ∀ d a l c, sub id d a l c = sub' id d a l c) (depth : Int) (limit at_ cnt : Nat) : ∀ n, reps sub id depth limit at_ cnt n = reps sub' id depth limit at_ cnt n
  | 0 => rfl
  | n + 1 => by simp only [reps, reps_congr h depth limit at_ cnt n, h]
theorem kind_congr {s : ByteArray} {sub sub' : Sub} {id depth : Int} {start limit k : Nat} {f : Fld} {nums : List Int} {at_ cnt : Nat} (h : f.kind = 4 ∨ f.kind = 5 → ∀ d a l c, sub f.n d a l c = sub' f.n d a l c) :
    kind s sub id depth start limit k f nums at_ cnt = kind s sub' id depth start limit k f nums at_ cnt := by
  unfold kind
  split
  · rfl
  · split
    · rfl
    · split
      · rfl
      · split
        · rename_i h4
          rw [reps_congr (h (.inl h4))]
        · split
          · rename_i h5
            rw [h (.inr h5)]
          · rfl
theorem next_congr {s : ByteArray} {sub sub' : Sub} {id depth : Int} {start limit k : Nat} {f : Fld} {nums : List Int} {at_ cnt : Nat} (h : f.kind = 4 ∨ f.kind = 5 → ∀ d a l c, sub f.n d a l c = sub' f.n d a l c) :
    next s sub id depth start limit k f nums at_ cnt = next s sub' id depth start limit k f nums at_ cnt := by
  unfold next
  rw [kind_congr h]
theorem flds_congr {s : ByteArray} {sub sub' : Sub} {id depth : Int} {start limit cnt m : Nat} {fs : List Fld} (h : ∀ i, i < m → ((fs.getD i zf).kind = 4 ∨ (fs.getD i zf).kind = 5) → ∀ d a l c, sub (fs.getD i zf).n d a l c = sub' (fs.getD i zf).n d a l c) :
    ∀ k, k ≤ m → flds s sub id depth start limit cnt fs k = flds s sub' id depth start limit cnt fs k
  | 0, _ => rfl
  | k + 1, hk => by
    have e : ∀ nums at_ c, next s sub id depth start limit k (fs.getD k zf) nums at_ c = next s sub' id depth start limit k (fs.getD k zf) nums at_ c := fun nums at_ c => next_congr (h k (by omega))
    simp only [flds, flds_congr h k (by omega), e]
theorem at_first {L : List Fm} {id : Int} {i k : Nat} (h : At L id i) (hik : i < k) : At (L.take k) id i := by
  obtain ⟨hi, e⟩ := h
  refine ⟨by rw [List.length_take]; omega, ?_⟩
  rw [List.getD_eq_getElem?_getD, List.getElem?_take, if_pos hik, ← List.getD_eq_getElem?_getD]
  exact e
theorem fieldsOf_first {L : List Fm} (h : Ok L) {id : Int} {i k : Nat} (ha : At L id i) (hik : i < k) : fieldsOf (L.take k) id = fieldsOf L id := by
  rw [fieldsOf_at h ha, fieldsOf_at (h.take k) (at_first ha hik), List.getD_eq_getElem?_getD, List.getElem?_take, if_pos hik, ← List.getD_eq_getElem?_getD]
theorem val_first {L : List Fm} (h : Ok L) (s : ByteArray) (k : Nat) : ∀ n id i, At L id i → i < k → ∀ d a l c, val (L.take k) s n id d a l c = val L s n id d a l c
  | 0, _, _, _, _, _, _, _, _ => rfl
  | n + 1, id, i, ha, hik, d, a, l, c => by
    show Rec.ends (flds s (val (L.take k) s n) id d a l c (fieldsOf (L.take k) id) (fieldsOf (L.take k) id).length) = Rec.ends (flds s (val L s n) id d a l c (fieldsOf L id) (fieldsOf L id).length)
    rw [fieldsOf_first h ha hik]
    congr 1
    refine flds_congr (m := (fieldsOf L id).length) (fun j hj hkd => ?_) _ (Nat.le_refl _)
    rw [fieldsOf_at h ha] at hj hkd ⊢
    obtain ⟨_, i', ha', hi'⟩ := (fok_of h ha.1 (Nat.le_refl i) hj).k4 hkd
    exact val_first h s k n _ i' ha' (by omega)
theorem mtch_first {L : List Fm} (h : Ok L) (s : ByteArray) {k i : Nat} {id : Int} (ha : At L id i) (hik : i < k) : mtch (L.take k) id s = mtch L id s := by
  have v1 : vd L = true := vd_iff.2 h
  have v2 : vd (L.take k) = true := vd_iff.2 (h.take k)
  have h1 : has L id = true := has_iff.2 ⟨i, ha⟩
  have h2 : has (L.take k) id = true := has_iff.2 ⟨i, at_first ha hik⟩
  unfold mtch whole
  rw [v1, v2, h1, h2, val_first h s k _ _ _ ha hik, fieldsOf_first h ha hik]
/-! writing -/
theorem wreps_congr {sub sub' : WSub} {id : Int} (h : ∀ σ, sub id σ = sub' id σ) : ∀ n σ, wreps sub id n σ = wreps sub' id n σ
  | 0, _ => rfl
  | n + 1, σ => by simp only [wreps, h, wreps_congr h n]
theorem wnext_congr {sub sub' : WSub} {fs : List Fld} {start k : Nat} {f : Fld} {d : Dr} {σ : Ws} (h : f.kind = 4 ∨ f.kind = 5 → ∀ σ, sub f.n σ = sub' f.n σ) : wnext sub fs start k f d σ = wnext sub' fs start k f d σ := by
  unfold wnext wkind
  split
  · split
    · rfl
    · split
      · rfl
      · split
        · rfl
        · split
          · rename_i h4
            unfold wlist
            rw [wreps_congr (h (.inl h4))]
          · split
            · rename_i h5
              unfold winside
              rw [h (.inr h5)]
            · rfl
  · rfl
theorem wflds_congr {sub sub' : WSub} {fs : List Fld} {start : Nat} : ∀ (t : List Fld), (∀ f, f ∈ t → f.kind = 4 ∨ f.kind = 5 → ∀ σ, sub f.n σ = sub' f.n σ) → ∀ k d σ, wflds sub fs start t k d σ = wflds sub' fs start t k d σ
  | [], _, _, _, _ => rfl
  | f :: t, h, k, d, σ => by
    rw [wflds, wflds, wnext_congr (h f (List.mem_cons_self ..))]
    congr 1
    funext p
    exact wflds_congr t (fun g hg => h g (List.mem_cons_of_mem _ hg)) _ _ _
theorem wval_first {L : List Fm} (h : Ok L) (k : Nat) : ∀ n id i, At L id i → i < k → ∀ σ, wval (L.take k) n id σ = wval L n id σ
  | 0, _, _, _, _, _ => rfl
  | n + 1, id, i, ha, hik, σ => by
    show wflds (wval (L.take k) n) (fieldsOf (L.take k) id) σ.st.length (fieldsOf (L.take k) id) 0 ⟨[], []⟩ σ = wflds (wval L n) (fieldsOf L id) σ.st.length (fieldsOf L id) 0 ⟨[], []⟩ σ
    rw [fieldsOf_first h ha hik]
    refine wflds_congr _ (fun f hf hkd => ?_) _ _ _
    rw [fieldsOf_at h ha] at hf
    obtain ⟨j, hj, e⟩ := List.getElem_of_mem hf
    have e2 : (L.getD i zm).fs.getD j zf = f := by rw [List.getD_eq_getElem?_getD, List.getElem?_eq_getElem hj]; exact e
    have hk4 := (fok_of h ha.1 (Nat.le_refl i) hj).k4
    rw [e2] at hk4
    obtain ⟨_, i', ha', hi'⟩ := hk4 hkd
    exact wval_first h k n _ i' ha' (by omega)
theorem writ_first {L : List Fm} (h : Ok L) (vs : List ByteArray) {k i : Nat} {id : Int} (ha : At L id i) (hik : i < k) : writ (L.take k) id vs = writ L id vs := by
  have v1 : vd L = true := vd_iff.2 h
  have v2 : vd (L.take k) = true := vd_iff.2 (h.take k)
  have h1 : has L id = true := has_iff.2 ⟨i, ha⟩
  have h2 : has (L.take k) id = true := has_iff.2 ⟨i, at_first ha hik⟩
  unfold writ wwhole
  rw [v1, v2, h1, h2, wval_first h k _ _ _ ha hik]
/-! all formats -/
theorem at_mem {L : List Fm} {f : Fm} (hf : f ∈ L) : ∃ i, At L f.id i ∧ L.getD i zm = f := by
  obtain ⟨i, hi, rfl⟩ := List.getElem_of_mem hf
  have e : L.getD i zm = L[i] := by rw [List.getD_eq_getElem?_getD, List.getElem?_eq_getElem hi]; rfl
  exact ⟨i, ⟨hi, by rw [e]⟩, e⟩
theorem isOf_first {L : List Fm} (h : Ok L) (s : ByteArray) {k i : Nat} {id : Int} (ha : At L id i) (hik : i < k) : isOf (L.take k) s id = isOf L s id := by
  have h1 : has L id = true := has_iff.2 ⟨i, ha⟩
  have h2 : has (L.take k) id = true := has_iff.2 ⟨i, at_first ha hik⟩
  unfold isOf whole
  rw [h1, h2, val_first h s k _ _ _ ha hik, fieldsOf_first h ha hik]
theorem all_first {L : List Fm} (h : Ok L) (s : ByteArray) {k : Nat} (hk1 : 1 ≤ k) (hk : k ≤ L.length) : ∃ r, allIds L s = allIds (L.take k) s ++ r ∧ ∀ x, x ∈ r → (L.getD (k - 1) zm).id < x := by
  have v1 : vd L = true := vd_iff.2 h
  have v2 : vd (L.take k) = true := vd_iff.2 (h.take k)
  unfold allIds
  by_cases hs : s.size ≤ 65536
  · rw [if_pos ⟨v1, hs⟩, if_pos ⟨v2, hs⟩]
    unfold idsTo
    refine ⟨((L.drop k).filter fun f => isOf L s f.id).map (·.id), ?_, fun x hx => ?_⟩
    · rw [List.take_of_length_le (Nat.le_refl _), List.take_of_length_le (Nat.le_refl _), ← List.map_append]
      congr 1
      have e : ((L.take k).filter fun f => isOf (L.take k) s f.id) = (L.take k).filter fun f => isOf L s f.id := by
        refine List.filter_congr fun f hf => ?_
        obtain ⟨i, ha, _⟩ := at_mem hf
        obtain ⟨ha2, hik⟩ := at_take ha
        exact isOf_first h s ha2 hik
      rw [e, ← List.filter_append, List.take_append_drop]
    · rw [List.mem_map] at hx
      obtain ⟨f, hf, rfl⟩ := hx
      obtain ⟨j, hj, e⟩ := List.getElem_of_mem (List.mem_filter.1 hf).1
      rw [List.length_drop] at hj
      rw [List.getElem_drop] at e
      have e2 : (L.getD (k + j) zm) = f := by rw [List.getD_eq_getElem?_getD, List.getElem?_eq_getElem (by omega)]; exact e
      rw [← e2]
      exact asc_lt h.asc (by omega) (by omega)
  · rw [if_neg fun h => hs h.2, if_neg fun h => hs h.2]
    exact ⟨[], rfl, fun _ hx => absurd hx (List.not_mem_nil)⟩
end Tb
end TabP
section TabL
open Go.RowKit Go.Sort Fx Rec Tb

theorem qs_below {w w' : World} {v : Value} {n : Nat} (h : QsAt w v n) (hb : Below w.heap.size w w') : QsAt w' v n := by
  rcases h with h | ⟨b, off, cap, rfl, h1, h2, h3, h4, h5⟩
  · exact .inl h
  · refine .inr ⟨b, off, cap, rfl, h1, h2, h3, Nat.lt_of_lt_of_le h4 hb.size, fun i j hi hj => ?_⟩
    obtain ⟨z, e, h6⟩ := h5 i j hi hj
    exact ⟨z, (hb.cell (p := ⟨b, off + i * 4 + j, none⟩) h4).trans e, h6⟩
theorem one_of_two {a b : Value} {j : Nat} (hj : j < 2) (ha : ∃ s, a = .string s) (hb : ∃ s, b = .string s) : ∃ s : ByteArray, (#[a, b] : Array Value)[j]? = some (.string s) := by
  obtain ⟨x, rfl⟩ := ha
  obtain ⟨y, rfl⟩ := hb
  obtain rfl | rfl : j = 0 ∨ j = 1 := by omega
  · exact ⟨x, rfl⟩
  · exact ⟨y, rfl⟩
theorem idsV_ints (l : List Int) : ∀ j, j < l.length → ∃ z : Int, idsG l j = some (.int .i64 z) := fun j hj => ⟨l[j], by simp [idsG, idsV, List.getElem?_eq_getElem hj]⟩
theorem ptsG_ints (ps : List Pt) : ∀ j, j < ps.length → ∃ z0 z1 z2 z3 z4 z5 : Int, ptsG ps (j * 6 + 0) = some (.int .i64 z0) ∧ ptsG ps (j * 6 + 1) = some (.int .i64 z1) ∧ ptsG ps (j * 6 + 2) = some (.int .i64 z2) ∧ ptsG ps (j * 6 + 3) = some (.int .i64 z3) ∧ ptsG ps (j * 6 + 4) = some (.int .i64 z4) ∧ ptsG ps (j * 6 + 5) = some (.int .i64 z5) := fun j hj => by
  have e := List.getElem?_eq_getElem hj
  exact ⟨_, _, _, _, _, _, by rw [ptsG, flatP_get ps j 0 _ e (by omega)]; rfl, by rw [ptsG, flatP_get ps j 1 _ e (by omega)]; rfl, by rw [ptsG, flatP_get ps j 2 _ e (by omega)]; rfl, by rw [ptsG, flatP_get ps j 3 _ e (by omega)]; rfl, by rw [ptsG, flatP_get ps j 4 _ e (by omega)]; rfl, by rw [ptsG, flatP_get ps j 5 _ e (by omega)]; rfl⟩
theorem idsG_app {l r : List Int} {j : Nat} (h : j < l.length) : idsG (l ++ r) j = idsG l j := by
  unfold idsG idsV
  rw [List.map_append, List.getElem?_append_left (by simpa using h)]
theorem RowA.congr {w : World} {K : Nat} {v : Value} {n : Nat} {g h : Nat → Option Value} (a : RowA w K v n g) (e : ∀ j, j < n * K → g j = h j) : RowA w K v n h := by
  obtain ⟨x, c, rfl, h1, h2, h3⟩ := a
  refine ⟨x, c, rfl, h1, h2, h3.imp_right ?_⟩
  rintro ⟨b, off, rfl, hl, hc⟩
  exact ⟨b, off, rfl, hl, fun j hj => (hc j hj).trans (e j hj)⟩
set_option maxRecDepth 100000 in
set_option maxHeartbeats 4000000 in
theorem tables_law (xv vv : Value) (xn : Nat) (a b : Int) (s : ByteArray) (er : Addr) (w : World) (hQ : QsAt w xv xn) (hV : IntsR w vv) (a1 : -9223372036854775808 ≤ a) (a2 : a ≤ 9223372036854775807) (b1 : -9223372036854775808 ≤ b) (b2 : b ≤ 9223372036854775807) (hR : Ready w er) :
    Calls Tryz.prog 9 #[xv, .int .i64 a, .int .i64 b, vv, .string s] w fun e w' => e = .returned (.bool true) ∧ Below w.heap.size w w' := by
  obtain ⟨xa, xc, rfl, -⟩ := hQ.slice_
  have hV' := hV
  obtain ⟨va, vn, vc, rfl, -⟩ := hV'
  have HA := Lib.hid (And.intro (And.intro a1 a2) (And.intro b1 b2))
  have Q1 : Hid (Below w.heap.size w w ∧ Ready w er ∧ IntsR w (.slice va vn vc) ∧ QsAt w (.slice xa xn xc) xn) := Lib.hid ⟨Below.refl _ _, hR, hV, hQ⟩
  clear hR hV hQ a1 a2 b1 b2
  go_enter Tryz.func9, Tryz.ntmps9
  go_wp2_with fail
  refine (sane_any er w Q1.out.2.1).mono ?_
  rintro e w1 ⟨rfl, hB⟩
  have Q2 : Hid (Below w.heap.size w w1 ∧ Ready w1 er ∧ IntsR w1 (.slice va vn vc) ∧ QsAt w1 (.slice xa xn xc) xn) := Lib.hid ⟨below_more Q1.out.1 (Nat.le_refl _) hB, Q1.out.2.1.below hB, Q1.out.2.2.1.below hB, qs_below Q1.out.2.2.2 hB⟩
  clear hB
  go_wp2_with fail
  refine (formats_any _ xn b w1 Q2.out.2.2.2 HA.out.2.1 HA.out.2.2).mono ?_
  rintro e w2 ⟨u, L, id0, i0, rfl, hF⟩
  obtain ⟨bb, off, lc, rfl⟩ := hF.sl
  obtain ⟨-, m2, m3⟩ := hF.tab.caps (by have := hF.at_.1; omega)
  obtain ⟨m, hm⟩ : ∃ m, m = L.length := ⟨_, rfl⟩
  have m1 : 1 ≤ m := by have := hF.at_.1; omega
  have m6 : m ≤ 6 := by rw [hm]; exact hF.nice.few
  have hT := hF.tab
  rw [← hm] at hT m2 ⊢
  obtain ⟨kk, hkk, kk2⟩ := cpick_nat a m m1
  obtain ⟨k1, hk1⟩ : ∃ k1, k1 = 1 + kk := ⟨_, rfl⟩
  obtain ⟨ki, hki, ki2⟩ := cpick_nat b k1 (by omega)
  obtain ⟨id, hid⟩ : ∃ id, id = (L.getD ki zm).id := ⟨_, rfl⟩
  have Q3 : Hid (Below w.heap.size w w2 ∧ Ready w2 er ∧ IntsR w2 (.slice va vn vc) ∧ TabW w2 (.slice (some ⟨bb, off, none⟩) m lc) L ∧ Nice L ∧ m = L.length ∧ pickI a (m : Nat) = (kk : Nat) ∧ k1 = 1 + kk ∧ pickI b (k1 : Nat) = (ki : Nat) ∧ id = (L.getD ki zm).id) := Lib.hid ⟨Q2.out.1.trans (hF.b.mono Q2.out.1.size), Q2.out.2.1.below hF.b, Q2.out.2.2.1.below hF.b, hT, hF.nice, hm, hkk, hk1, hki, hid⟩
  have hkm : k1 ≤ m := by omega
  have e1 : (1 : Int) + (kk : Int) = (k1 : Nat) := by omega
  have e2 : (0 : Int) ≤ (k1 : Int) ∧ (k1 : Int) ≤ (lc : Int) := by omega
  have e3 : (0 : Int) ≤ (ki : Int) ∧ (ki : Int) < (k1 : Int) := by omega
  have ck : w2.cell? ⟨bb, off + ki * 2, none⟩ = some (.int .i64 id) := by rw [hid]; exact hT.id_ (by omega)
  have lb := World.block_lt_of_cell? (h := ck)
  clear hF hT hkk hk1 hki hid hm
  go_wp2_with fail
  refine (fpick_any a m kk w2 HA.out.1.1 HA.out.1.2 (by omega) (by omega) Q3.out.2.2.2.2.2.2.1).mono ?_
  rintro e w3 ⟨rfl, e3w⟩
  subst e3w
  obtain ⟨w2, rfl⟩ : ∃ q, q = w3 := ⟨_, rfl⟩
  go_wp2_with fail
  refine (fpick_any b k1 ki w2 HA.out.2.1 HA.out.2.2 (by omega) (by omega) Q3.out.2.2.2.2.2.2.2.2.1).mono ?_
  rintro e w3 ⟨rfl, e3w⟩
  subst e3w
  obtain ⟨w2, rfl⟩ : ∃ q, q = w3 := ⟨_, rfl⟩
  have hat : At L id ki := ⟨by rw [← Q3.out.2.2.2.2.2.1]; omega, Q3.out.2.2.2.2.2.2.2.2.2.symm⟩
  go_wp2_with fail
  clear ck lb
  refine (chosen_use (Q3.out.2.2.2.2.1.take k1) (Q3.out.2.2.2.1.take (by rw [← Q3.out.2.2.2.2.2.1]; exact hkm)) Q3.out.2.2.1).mono ?_
  rintro e w3 ⟨l, n, x, y, rfl, hB, hn, hn9, hs, hA⟩
  obtain ⟨⟨S, E⟩, hw⟩ : ∃ r, wres (writ L id l) = r := ⟨_, rfl⟩
  have Q4 : Hid (Below w.heap.size w w3 ∧ Ready w3 er ∧ TabW w3 (.slice (some ⟨bb, off, none⟩) m lc) L ∧ Nice L ∧ m = L.length ∧ k1 = 1 + kk ∧ RowA w3 1 (.slice x n y) n (strG l) ∧ n = l.length ∧ Short l ∧ At L id ki ∧ wres (writ L id l) = (S, E)) := Lib.hid ⟨Q3.out.1.trans (hB.mono Q3.out.1.size), Q3.out.2.1.below hB, Q3.out.2.2.2.1.below hB, Q3.out.2.2.2.2.1, Q3.out.2.2.2.2.2.1, Q3.out.2.2.2.2.2.2.2.1, hA, hn, hs, hat, hw⟩
  clear hB hA hn hs hat hw
  go_wp2_with fail
  refine (write_use (S := S) (E := E) Q4.out.2.1 (Q4.out.2.2.1.take (by rw [← Q4.out.2.2.2.2.1]; exact hkm)) Q4.out.2.2.2.2.2.2.2.1 Q4.out.2.2.2.2.2.2.1 Q4.out.2.2.2.2.2.2.2.2.1 (by rw [writ_first Q4.out.2.2.2.1.ok l Q4.out.2.2.2.2.2.2.2.2.2.1 (by omega)]; exact Q4.out.2.2.2.2.2.2.2.2.2.2)).mono ?_
  rintro e w4 ⟨rfl, hB⟩
  have Q5 : Hid (Below w.heap.size w w4 ∧ Ready w4 er ∧ TabW w4 (.slice (some ⟨bb, off, none⟩) m lc) L ∧ Nice L ∧ m = L.length ∧ k1 = 1 + kk ∧ RowA w4 1 (.slice x n y) n (strG l) ∧ n = l.length ∧ Short l ∧ At L id ki ∧ wres (writ L id l) = (S, E)) := Lib.hid ⟨Q4.out.1.trans (hB.mono Q4.out.1.size), Q4.out.2.1.below hB, Q4.out.2.2.1.below hB, Q4.out.2.2.2.1, Q4.out.2.2.2.2.1, Q4.out.2.2.2.2.2.1, Q4.out.2.2.2.2.2.2.1.below hB, Q4.out.2.2.2.2.2.2.2.1, Q4.out.2.2.2.2.2.2.2.2.1, Q4.out.2.2.2.2.2.2.2.2.2.1, Q4.out.2.2.2.2.2.2.2.2.2.2⟩
  clear hB
  go_wp2_with fail
  refine (write_use (S := S) (E := E) Q5.out.2.1 Q5.out.2.2.1 Q5.out.2.2.2.2.2.2.2.1 Q5.out.2.2.2.2.2.2.1 Q5.out.2.2.2.2.2.2.2.2.1 Q5.out.2.2.2.2.2.2.2.2.2.2).mono ?_
  rintro e w5 ⟨rfl, hB⟩
  have Q6 : Hid (Below w.heap.size w w5 ∧ Ready w5 er ∧ TabW w5 (.slice (some ⟨bb, off, none⟩) m lc) L ∧ Nice L ∧ m = L.length ∧ k1 = 1 + kk ∧ At L id ki) := Lib.hid ⟨Q5.out.1.trans (hB.mono Q5.out.1.size), Q5.out.2.1.below hB, Q5.out.2.2.1.below hB, Q5.out.2.2.2.1, Q5.out.2.2.2.2.1, Q5.out.2.2.2.2.2.1, Q5.out.2.2.2.2.2.2.2.2.2.1⟩
  clear hB
  have hSS : (S.toList == S.toList) = true := by simp
  have hEE : ((E : Int) == E) = true := by simp
  obtain ⟨c3, hc3⟩ : ∃ c3 : Nat, c3 = min s.size 300 := ⟨_, rfl⟩
  have hmn : ∀ t ts W, (Builtin.min_ ts t #[.int .i64 (s.size : Nat), .int .i64 300]).run Tryz.prog W = .ok (.int .i64 (c3 : Nat)) W := fun t ts W => by
    subst hc3
    simp [Builtin.min_, Builtin.min2]
    first | omega | (split <;> simp <;> omega) | skip
  have hc4 : (0 : Int) ≤ (c3 : Int) ∧ (c3 : Int) ≤ (s.size : Int) := by omega
  clear hc3
  go_wp2_with fail
  obtain ⟨Y0, hY0⟩ : ∃ Y0, Y0 = s.extract 0 c3 := ⟨_, rfl⟩
  rw [← hY0]
  clear hY0 hmn hSS hEE hc4 e2 e1 e3 m3 m2 m1 hn9
  have hn := Blk.new w5 9 #[.string Y0, .string S]
  have hb := bx (w := w5) (.cells #[.string Y0, .string S] 9)
  generalize w5.alloc (.cells #[.string Y0, .string S] 9) = w6 at *
  obtain ⟨rb, hrb⟩ : ∃ r, r = w5.heap.size := ⟨_, rfl⟩
  rw [← hrb] at hn ⊢
  have Q7 : Hid (Below w.heap.size w w6 ∧ Ready w6 er ∧ TabW w6 (.slice (some ⟨bb, off, none⟩) m lc) L ∧ Nice L ∧ m = L.length ∧ k1 = 1 + kk ∧ At L id ki ∧ Blk w6 rb 9 #[.string Y0, .string S]) := Lib.hid ⟨Q6.out.1.trans (hb.mono Q6.out.1.size), Q6.out.2.1.below hb, Q6.out.2.2.1.below hb, Q6.out.2.2.2.1, Q6.out.2.2.2.2.1, Q6.out.2.2.2.2.2.1, Q6.out.2.2.2.2.2.2, hn⟩
  clear hn hb hrb
  go_loopw [87] (fun c wr => ∃ j : Nat, j ≤ 2 ∧ c = .int .i64 j ∧ Hid (Below w.heap.size w wr ∧ Ready wr er ∧ TabW wr (.slice (some ⟨bb, off, none⟩) m lc) L ∧ Nice L ∧ m = L.length ∧ k1 = 1 + kk ∧ At L id ki ∧ Blk wr rb 9 #[.string Y0, .string S])) (fun c _ => 2 - (intOf c).toNat)
  case atStart => exact ⟨0, by omega, rfl, Q7⟩
  case round =>
    obtain ⟨j, hj, rfl, HJ⟩ := hrel
    obtain ⟨wq, rfl⟩ : ∃ wq, wq = wr := ⟨_, rfl⟩
    by_cases hlt : j < 2
    · obtain ⟨Y, hY⟩ := one_of_two hlt (a := .string Y0) (b := .string S) ⟨_, rfl⟩ ⟨_, rfl⟩
      have cy : wq.cell? ⟨rb, j, none⟩ = some (.string Y) := by rw [HJ.out.2.2.2.2.2.2.2.cell]; exact hY
      have ly := HJ.out.2.2.2.2.2.2.2.lt
      obtain ⟨⟨ps, ⟨r0, r1, r2, r3⟩, E1⟩, hm⟩ : ∃ r, mres (mtch L id Y) = r := ⟨_, rfl⟩
      obtain ⟨np, hnp⟩ : ∃ np, np = ps.length := ⟨_, rfl⟩
      obtain ⟨rr, har, hrr⟩ := all_first HJ.out.2.2.2.1.ok Y (k := k1) (by omega) (by rw [← HJ.out.2.2.2.2.1]; exact hkm)
      obtain ⟨lf, hlf⟩ : ∃ lf, lf = allIds (L.take k1) Y := ⟨_, rfl⟩
      obtain ⟨nf, hnf⟩ : ∃ nf, nf = lf.length := ⟨_, rfl⟩
      obtain ⟨nm, hnm⟩ : ∃ nm, nm = (lf ++ rr).length := ⟨_, rfl⟩
      rw [← hlf] at har
      have HM := Lib.hid (And.intro hm (And.intro hnp (And.intro har (And.intro hrr (And.intro hlf (And.intro hnf hnm))))))
      clear hY hm hnp har hrr hlf hnf hnm
      go_wp2_with fail
      clear cy ly
      refine (match_use HJ.out.2.1 (HJ.out.2.2.1.take (by rw [← HJ.out.2.2.2.2.1]; exact hkm)) (by rw [mtch_first HJ.out.2.2.2.1.ok Y HJ.out.2.2.2.2.2.2.1 (by omega)]; exact HM.out.1) HM.out.2.1).mono ?_
      rintro e w7 ⟨pa, pc, rfl, hB, hA⟩
      have Q8 : Hid (Below w.heap.size w w7 ∧ Ready w7 er ∧ TabW w7 (.slice (some ⟨bb, off, none⟩) m lc) L ∧ Nice L ∧ m = L.length ∧ k1 = 1 + kk ∧ At L id ki ∧ Blk w7 rb 9 #[.string Y0, .string S] ∧ RowA w7 6 (.slice pa np pc) np (ptsG ps)) := Lib.hid ⟨HJ.out.1.trans (hB.mono HJ.out.1.size), HJ.out.2.1.below hB, HJ.out.2.2.1.below hB, HJ.out.2.2.2.1, HJ.out.2.2.2.2.1, HJ.out.2.2.2.2.2.1, HJ.out.2.2.2.2.2.2.1, HJ.out.2.2.2.2.2.2.2.stays hB, hA⟩
      clear hB hA
      go_wp2_with fail
      have hn := Blk.new w7 40 #[.int .i64 r0, .int .i64 r1, .int .i64 r2, .int .i64 r3]
      have hb := bx (w := w7) (.cells #[.int .i64 r0, .int .i64 r1, .int .i64 r2, .int .i64 r3] 40)
      generalize w7.alloc (.cells #[.int .i64 r0, .int .i64 r1, .int .i64 r2, .int .i64 r3] 40) = x7 at *
      obtain ⟨rx, hrx⟩ : ∃ r, r = w7.heap.size := ⟨_, rfl⟩
      rw [← hrx] at hn ⊢
      have Q9 : Hid (Below w.heap.size w x7 ∧ Ready x7 er ∧ TabW x7 (.slice (some ⟨bb, off, none⟩) m lc) L ∧ Nice L ∧ m = L.length ∧ k1 = 1 + kk ∧ At L id ki ∧ Blk x7 rb 9 #[.string Y0, .string S] ∧ RowA x7 6 (.slice pa np pc) np (ptsG ps) ∧ Blk x7 rx 40 #[.int .i64 r0, .int .i64 r1, .int .i64 r2, .int .i64 r3]) := Lib.hid ⟨Q8.out.1.trans (hb.mono Q8.out.1.size), Q8.out.2.1.below hb, Q8.out.2.2.1.below hb, Q8.out.2.2.2.1, Q8.out.2.2.2.2.1, Q8.out.2.2.2.2.2.1, Q8.out.2.2.2.2.2.2.1, Q8.out.2.2.2.2.2.2.2.1.stays hb, Q8.out.2.2.2.2.2.2.2.2.below hb, hn⟩
      clear hn hb hrx
      refine (match_use Q9.out.2.1 Q9.out.2.2.1 HM.out.1 HM.out.2.1).mono ?_
      rintro e w8 ⟨qa, qc, rfl, hB, hA⟩
      have Q10 : Hid (Below w.heap.size w w8 ∧ Ready w8 er ∧ TabW w8 (.slice (some ⟨bb, off, none⟩) m lc) L ∧ Nice L ∧ m = L.length ∧ k1 = 1 + kk ∧ At L id ki ∧ Blk w8 rb 9 #[.string Y0, .string S] ∧ RowA w8 6 (.slice pa np pc) np (ptsG ps) ∧ Blk w8 rx 40 #[.int .i64 r0, .int .i64 r1, .int .i64 r2, .int .i64 r3] ∧ RowA w8 6 (.slice qa np qc) np (ptsG ps)) := Lib.hid ⟨Q9.out.1.trans (hB.mono Q9.out.1.size), Q9.out.2.1.below hB, Q9.out.2.2.1.below hB, Q9.out.2.2.2.1, Q9.out.2.2.2.2.1, Q9.out.2.2.2.2.2.1, Q9.out.2.2.2.2.2.2.1, Q9.out.2.2.2.2.2.2.2.1.stays hB, Q9.out.2.2.2.2.2.2.2.2.1.below hB, Q9.out.2.2.2.2.2.2.2.2.2.stays hB, hA⟩
      clear hB hA
      go_wp2_with fail
      have hn := Blk.new w8 40 #[.int .i64 r0, .int .i64 r1, .int .i64 r2, .int .i64 r3]
      have hb := bx (w := w8) (.cells #[.int .i64 r0, .int .i64 r1, .int .i64 r2, .int .i64 r3] 40)
      generalize w8.alloc (.cells #[.int .i64 r0, .int .i64 r1, .int .i64 r2, .int .i64 r3] 40) = x8 at *
      obtain ⟨ry, hry⟩ : ∃ r, r = w8.heap.size := ⟨_, rfl⟩
      rw [← hry] at hn ⊢
      have Q11 : Hid (Below w.heap.size w x8 ∧ Ready x8 er ∧ TabW x8 (.slice (some ⟨bb, off, none⟩) m lc) L ∧ Nice L ∧ m = L.length ∧ k1 = 1 + kk ∧ At L id ki ∧ Blk x8 rb 9 #[.string Y0, .string S] ∧ RowA x8 6 (.slice pa np pc) np (ptsG ps) ∧ Blk x8 rx 40 #[.int .i64 r0, .int .i64 r1, .int .i64 r2, .int .i64 r3] ∧ RowA x8 6 (.slice qa np qc) np (ptsG ps) ∧ Blk x8 ry 40 #[.int .i64 r0, .int .i64 r1, .int .i64 r2, .int .i64 r3]) := Lib.hid ⟨Q10.out.1.trans (hb.mono Q10.out.1.size), Q10.out.2.1.below hb, Q10.out.2.2.1.below hb, Q10.out.2.2.2.1, Q10.out.2.2.2.2.1, Q10.out.2.2.2.2.2.1, Q10.out.2.2.2.2.2.2.1, Q10.out.2.2.2.2.2.2.2.1.stays hb, Q10.out.2.2.2.2.2.2.2.2.1.below hb, Q10.out.2.2.2.2.2.2.2.2.2.1.stays hb, Q10.out.2.2.2.2.2.2.2.2.2.2.below hb, hn⟩
      clear hn hb hry
      refine (all_use Q11.out.2.1 (Q11.out.2.2.1.take (by rw [← Q11.out.2.2.2.2.1]; exact hkm)) HM.out.2.2.2.2.1.symm HM.out.2.2.2.2.2.1).mono ?_
      rintro e w9 ⟨ia, ic, rfl, hB, hA⟩
      have Q12 : Hid (Below w.heap.size w w9 ∧ Ready w9 er ∧ TabW w9 (.slice (some ⟨bb, off, none⟩) m lc) L ∧ Nice L ∧ m = L.length ∧ k1 = 1 + kk ∧ At L id ki ∧ Blk w9 rb 9 #[.string Y0, .string S] ∧ RowA w9 6 (.slice pa np pc) np (ptsG ps) ∧ Blk w9 rx 40 #[.int .i64 r0, .int .i64 r1, .int .i64 r2, .int .i64 r3] ∧ RowA w9 6 (.slice qa np qc) np (ptsG ps) ∧ Blk w9 ry 40 #[.int .i64 r0, .int .i64 r1, .int .i64 r2, .int .i64 r3] ∧ RowA w9 1 (.slice ia nf ic) nf (idsG lf)) := Lib.hid ⟨Q11.out.1.trans (hB.mono Q11.out.1.size), Q11.out.2.1.below hB, Q11.out.2.2.1.below hB, Q11.out.2.2.2.1, Q11.out.2.2.2.2.1, Q11.out.2.2.2.2.2.1, Q11.out.2.2.2.2.2.2.1, Q11.out.2.2.2.2.2.2.2.1.stays hB, Q11.out.2.2.2.2.2.2.2.2.1.below hB, Q11.out.2.2.2.2.2.2.2.2.2.1.stays hB, Q11.out.2.2.2.2.2.2.2.2.2.2.1.below hB, Q11.out.2.2.2.2.2.2.2.2.2.2.2.stays hB, hA⟩
      clear hB hA
      go_wp2_with fail
      refine (all_use Q12.out.2.1 Q12.out.2.2.1 HM.out.2.2.1 HM.out.2.2.2.2.2.2).mono ?_
      rintro e wz ⟨ka, kc, rfl, hB, hA⟩
      have Q13 : Hid (Below w.heap.size w wz ∧ Ready wz er ∧ TabW wz (.slice (some ⟨bb, off, none⟩) m lc) L ∧ Nice L ∧ m = L.length ∧ k1 = 1 + kk ∧ At L id ki ∧ Blk wz rb 9 #[.string Y0, .string S] ∧ RowA wz 6 (.slice pa np pc) np (ptsG ps) ∧ Blk wz rx 40 #[.int .i64 r0, .int .i64 r1, .int .i64 r2, .int .i64 r3] ∧ RowA wz 6 (.slice qa np qc) np (ptsG ps) ∧ Blk wz ry 40 #[.int .i64 r0, .int .i64 r1, .int .i64 r2, .int .i64 r3] ∧ RowA wz 1 (.slice ia nf ic) nf (idsG lf) ∧ RowA wz 1 (.slice ka nm kc) nm (idsG (lf ++ rr))) := Lib.hid ⟨Q12.out.1.trans (hB.mono Q12.out.1.size), Q12.out.2.1.below hB, Q12.out.2.2.1.below hB, Q12.out.2.2.2.1, Q12.out.2.2.2.2.1, Q12.out.2.2.2.2.2.1, Q12.out.2.2.2.2.2.2.1, Q12.out.2.2.2.2.2.2.2.1.stays hB, Q12.out.2.2.2.2.2.2.2.2.1.below hB, Q12.out.2.2.2.2.2.2.2.2.2.1.stays hB, Q12.out.2.2.2.2.2.2.2.2.2.2.1.below hB, Q12.out.2.2.2.2.2.2.2.2.2.2.2.1.stays hB, Q12.out.2.2.2.2.2.2.2.2.2.2.2.2.below hB, hA⟩
      clear hB hA
      obtain ⟨j1, hj1⟩ : ∃ j1 : Nat, k1 = j1 + 1 := ⟨k1 - 1, by omega⟩
      obtain ⟨idl, hidl⟩ : ∃ z, z = (L.getD j1 zm).id := ⟨_, rfl⟩
      have cl : wz.cell? ⟨bb, off + j1 * 2, none⟩ = some (.int .i64 idl) := by rw [hidl]; exact Q13.out.2.2.1.id_ (by rw [← Q13.out.2.2.2.2.1]; omega)
      have e5 : (k1 : Int) - 1 = (j1 : Int) := by omega
      have e6 : (0 : Int) ≤ (j1 : Int) ∧ (j1 : Int) < (k1 : Int) := by omega
      have hz : ∀ z, z ∈ rr → idl < z := fun z hz => by
        have := HM.out.2.2.2.1 z hz
        rw [hj1, Nat.add_sub_cancel] at this
        rw [hidl]; exact this
      have hPS := fun d os => sameParts_eq (.slice pa np pc) (.slice qa np qc) np _ (grow (redrawn wz d) os) (Q13.out.2.2.2.2.2.2.2.2.1.below (below_regrown wz d os)) (Q13.out.2.2.2.2.2.2.2.2.2.2.1.below (below_regrown wz d os)) (by rw [HM.out.2.1]; exact ptsG_ints ps)
      have hnle : nf ≤ nm := by rw [HM.out.2.2.2.2.2.1, HM.out.2.2.2.2.2.2, List.length_append]; omega
      have hIS := fun d os => sameInts_eq (.slice ia nf ic) (.slice ka nf kc) nf _ (grow (redrawn wz d) os) (Q13.out.2.2.2.2.2.2.2.2.2.2.2.2.1.below (below_regrown wz d os)) (((Q13.out.2.2.2.2.2.2.2.2.2.2.2.2.2.take hnle).congr (fun j hj => idsG_app (by rw [← HM.out.2.2.2.2.2.1]; omega))).below (below_regrown wz d os)) (by rw [HM.out.2.2.2.2.2.1]; exact idsV_ints lf)
      obtain ⟨ka', kc', kae, kc1, kc2, hka⟩ := Q13.out.2.2.2.2.2.2.2.2.2.2.2.2.2
      obtain ⟨rfl, rfl⟩ : ka = ka' ∧ kc = kc' := by simpa using kae
      unfold maxLen at kc2
      have HPS := Lib.hid hPS
      have HIS := Lib.hid hIS
      have HR := Lib.hid (And.intro hz (And.intro hka hidl))
      have hee : ((E1 : Int) == E1) = true := by simp
      clear hPS hIS hz hka hj1 hidl kae
      have crx0 : wz.cell? ⟨rx, 0, none⟩ = some (.int .i64 r0) := by rw [Q13.out.2.2.2.2.2.2.2.2.2.1.cell]; rfl
      have crx1 : wz.cell? ⟨rx, 1, none⟩ = some (.int .i64 r1) := by rw [Q13.out.2.2.2.2.2.2.2.2.2.1.cell]; rfl
      have crx2 : wz.cell? ⟨rx, 2, none⟩ = some (.int .i64 r2) := by rw [Q13.out.2.2.2.2.2.2.2.2.2.1.cell]; rfl
      have crx3 : wz.cell? ⟨rx, 3, none⟩ = some (.int .i64 r3) := by rw [Q13.out.2.2.2.2.2.2.2.2.2.1.cell]; rfl
      have cry0 : wz.cell? ⟨ry, 0, none⟩ = some (.int .i64 r0) := by rw [Q13.out.2.2.2.2.2.2.2.2.2.2.2.1.cell]; rfl
      have cry1 : wz.cell? ⟨ry, 1, none⟩ = some (.int .i64 r1) := by rw [Q13.out.2.2.2.2.2.2.2.2.2.2.2.1.cell]; rfl
      have cry2 : wz.cell? ⟨ry, 2, none⟩ = some (.int .i64 r2) := by rw [Q13.out.2.2.2.2.2.2.2.2.2.2.2.1.cell]; rfl
      have cry3 : wz.cell? ⟨ry, 3, none⟩ = some (.int .i64 r3) := by rw [Q13.out.2.2.2.2.2.2.2.2.2.2.2.1.cell]; rfl
      by_cases hr0 : rr = []
      · obtain rfl : nf = nm := by rw [HM.out.2.2.2.2.2.1, HM.out.2.2.2.2.2.2, hr0, List.append_nil]
        have t1 : decide ((nf : Int) < (nf : Int)) = false := by simp
        have t2 : decide ((nf : Int) > (nf : Int)) = false := by simp
        clear hr0 e5 e6
        have y_crx0 := fun d os => cell_regrown crx0 d os
        have y_crx1 := fun d os => cell_regrown crx1 d os
        have y_crx2 := fun d os => cell_regrown crx2 d os
        have y_crx3 := fun d os => cell_regrown crx3 d os
        have y_cry0 := fun d os => cell_regrown cry0 d os
        have y_cry1 := fun d os => cell_regrown cry1 d os
        have y_cry2 := fun d os => cell_regrown cry2 d os
        have y_cry3 := fun d os => cell_regrown cry3 d os
        clear crx0 crx1 crx2 crx3 cry0 cry1 cry2 cry3
        go_wp2_with fail
        refine wp_region_quiet_below (by kernel_rfl) (by kernel_rfl) ?_
        repeat (first | go_big_quiet_step (first | (go_at_call 21; exact Calls.regrown_of (HPS.out _ _)) | (go_at_call 22; exact Calls.regrown_of (HIS.out _ _))) | quiet_step (first | (go_at_call 21; exact Calls.regrown_of (HPS.out _ _)) | (go_at_call 22; exact Calls.regrown_of (HIS.out _ _))))
        refine wpQuiet_nil ?_
        intro _ hw'
        obtain ⟨⟨dq, osq⟩, hw''⟩ := hw'
        subst hw''
        have hb := below_regrown wz dq osq
        have Q14 : Hid (Below w.heap.size w (grow (redrawn wz dq) osq) ∧ Ready (grow (redrawn wz dq) osq) er ∧ TabW (grow (redrawn wz dq) osq) (.slice (some ⟨bb, off, none⟩) m lc) L ∧ Nice L ∧ m = L.length ∧ k1 = 1 + kk ∧ At L id ki ∧ Blk (grow (redrawn wz dq) osq) rb 9 #[.string Y0, .string S]) := Lib.hid ⟨Q13.out.1.trans (hb.mono Q13.out.1.size), Q13.out.2.1.below hb, Q13.out.2.2.1.below hb, Q13.out.2.2.2.1, Q13.out.2.2.2.2.1, Q13.out.2.2.2.2.2.1, Q13.out.2.2.2.2.2.2.1, Q13.out.2.2.2.2.2.2.2.1.stays hb⟩
        clear y_crx0 y_crx1 y_crx2 y_crx3 y_cry0 y_cry1 y_cry2 y_cry3 hb HPS HIS HR
        go_wp2_with fail
        exact ⟨⟨j + 1, by omega, by go_num, Q14⟩, by simp [intOf]; omega⟩
      · obtain ⟨z, rt, rfl⟩ : ∃ z rt, rr = z :: rt := List.exists_cons_of_ne_nil hr0
        have hlt2 : nf < nm := by rw [HM.out.2.2.2.2.2.1, HM.out.2.2.2.2.2.2, List.length_append, List.length_cons]; omega
        obtain ⟨kb, ko, rfl, -, hkc⟩ := HR.out.2.1.resolve_left (by omega)
        have cz : wz.cell? ⟨kb, ko + nf, none⟩ = some (.int .i64 z) := by
          rw [hkc nf (by omega), HM.out.2.2.2.2.2.1]
          simp [idsG, idsV]
        have t1 : decide ((nm : Int) < (nf : Int)) = false := by simp; omega
        have t2 : decide ((nm : Int) > (nf : Int)) = true := by simp; omega
        have t2' : decide ((nf : Int) < (nm : Int)) = true := by simp; omega
        have t3 : decide ((z : Int) ≤ idl) = false := by
          have := HR.out.1 z (List.mem_cons_self ..)
          simp; omega
        have e7 : (0 : Int) ≤ (nf : Int) ∧ (nf : Int) < (nm : Int) := by omega
        have e8 : (nf : Int) ≤ (kc : Int) := by omega
        clear hkc hr0
        have y_crx0 := fun d os => cell_regrown crx0 d os
        have y_crx1 := fun d os => cell_regrown crx1 d os
        have y_crx2 := fun d os => cell_regrown crx2 d os
        have y_crx3 := fun d os => cell_regrown crx3 d os
        have y_cry0 := fun d os => cell_regrown cry0 d os
        have y_cry1 := fun d os => cell_regrown cry1 d os
        have y_cry2 := fun d os => cell_regrown cry2 d os
        have y_cry3 := fun d os => cell_regrown cry3 d os
        have y_cz := fun d os => cell_regrown cz d os
        have y_cl := fun d os => cell_regrown cl d os
        clear crx0 crx1 crx2 crx3 cry0 cry1 cry2 cry3 cz cl
        go_wp2_with fail
        refine wp_region_quiet_below (by kernel_rfl) (by kernel_rfl) ?_
        repeat (first | go_big_quiet_step (first | (go_at_call 21; exact Calls.regrown_of (HPS.out _ _)) | (go_at_call 22; exact Calls.regrown_of (HIS.out _ _))) | quiet_step (first | (go_at_call 21; exact Calls.regrown_of (HPS.out _ _)) | (go_at_call 22; exact Calls.regrown_of (HIS.out _ _))))
        refine wpQuiet_nil ?_
        intro _ hw'
        obtain ⟨⟨dq, osq⟩, hw''⟩ := hw'
        subst hw''
        have hb := below_regrown wz dq osq
        have Q15 : Hid (Below w.heap.size w (grow (redrawn wz dq) osq) ∧ Ready (grow (redrawn wz dq) osq) er ∧ TabW (grow (redrawn wz dq) osq) (.slice (some ⟨bb, off, none⟩) m lc) L ∧ Nice L ∧ m = L.length ∧ k1 = 1 + kk ∧ At L id ki ∧ Blk (grow (redrawn wz dq) osq) rb 9 #[.string Y0, .string S]) := Lib.hid ⟨Q13.out.1.trans (hb.mono Q13.out.1.size), Q13.out.2.1.below hb, Q13.out.2.2.1.below hb, Q13.out.2.2.2.1, Q13.out.2.2.2.2.1, Q13.out.2.2.2.2.2.1, Q13.out.2.2.2.2.2.2.1, Q13.out.2.2.2.2.2.2.2.1.stays hb⟩
        clear y_crx0 y_crx1 y_crx2 y_crx3 y_cry0 y_cry1 y_cry2 y_cry3 y_cz y_cl hb HPS HIS HR
        go_wp2_with fail
        exact ⟨⟨j + 1, by omega, by go_num, Q15⟩, by simp [intOf]; omega⟩
    · obtain rfl : j = 2 := by omega
      go_wp2_with fail
      first | go_end0 | go_ret
      exact ⟨rfl, HJ.out.1⟩
end TabL
end Go.Proofs.YtdndmhlmbpgdeaaGreatDoor
