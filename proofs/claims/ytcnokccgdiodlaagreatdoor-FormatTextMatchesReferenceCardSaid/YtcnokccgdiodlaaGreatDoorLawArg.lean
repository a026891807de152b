/- The law's few: a table with at most 62 formats, 18 fields each, texts of at most 20 bytes. Conditions: the formats are readable, their numbers are ints. Arguments of the laws: slices of rows of four ints, slices of formats, read as lists. No condition of its own. -/
import Derived.Test.YtcnokccgdiodlaaGreatDoorRefRow
import Derived.Test.YtcnokccgdiodlaaGreatDoorRefF
import Derived.DataReads
import Derived.ChangeArms
import Derived.OpenShut
namespace Go.Proofs.YtcnokccgdiodlaaGreatDoor
section LawFew
open Go.RowKit Go.Shelf Fx Go.Sort

/-- A field of a small table. -/
structure SmF (g : Fld) : Prop where
  ints : Ints g
  t : g.text.size ≤ 20
/-- A small table. -/
structure Sm (l : List Fm) : Prop where
  few : l.length ≤ 62
  id : ∀ i, i < l.length → -9223372036854775808 ≤ (l.getD i zm).id ∧ (l.getD i zm).id ≤ 9223372036854775807
  fs : ∀ i, i < l.length → (l.getD i zm).fs.length ≤ 19
  each : ∀ i, i < l.length → ∀ k, k < (l.getD i zm).fs.length → SmF ((l.getD i zm).fs.getD k zf)
theorem Sm.ints {l : List Fm} (h : Sm l) : IntsL l := fun i hi => ⟨h.id i hi, fun k hk => (h.each i hi k hk).ints⟩
theorem sm_nil : Sm [] := ⟨by simp, fun i h => by simp at h, fun i h => by simp at h, fun i h => by simp at h⟩
theorem Sm.snoc {l : List Fm} {f : Fm} (h : Sm l) (hl : l.length < 62) (hid : -9223372036854775808 ≤ f.id ∧ f.id ≤ 9223372036854775807) (hf : f.fs.length ≤ 19) (hg : ∀ k, k < f.fs.length → SmF (f.fs.getD k zf)) : Sm (l ++ [f]) := by
  refine ⟨by simp; omega, fun j hj => ?_, fun j hj => ?_, fun j hj => ?_⟩
  · rcases getD_snoc (z := zm) hj with ⟨h1, e⟩ | ⟨rfl, e⟩
    · rw [e]; exact h.id j h1
    · rw [e]; exact hid
  · rcases getD_snoc (z := zm) hj with ⟨h1, e⟩ | ⟨rfl, e⟩
    · rw [e]; exact h.fs j h1
    · rw [e]; exact hf
  · rcases getD_snoc (z := zm) hj with ⟨h1, e⟩ | ⟨rfl, e⟩
    · rw [e]; exact h.each j h1
    · rw [e]; exact hg
/-- Formats that can be read. -/
def ArgM (w : World) (v : Value) (l : List Fm) : Prop := (∃ a c, v = .slice a 0 c ∧ l = []) ∨ ∃ b off cap, v = .slice (some ⟨b, off, none⟩) l.length cap ∧ 1 ≤ l.length ∧ l.length ≤ cap ∧ cap ≤ maxLen ∧ b < w.heap.size ∧
  ∀ i, i < l.length → ∃ u, w.cell? ⟨b, off + i * 2, none⟩ = some (.int .i64 (l.getD i zm).id) ∧ w.cell? ⟨b, off + i * 2 + 1, none⟩ = some u ∧ FldsAt w u (l.getD i zm).fs
theorem ArgM.of_fms {w : World} {v : Value} {l : List Fm} {P : Nat → Prop} (h : FmsAt P w v l) : ArgM w v l := by
  rcases h with h | ⟨b, off, cap, e, h1, h2, h3, _, h5, h6⟩
  · exact .inl h
  · exact .inr ⟨b, off, cap, e, h1, h2, h3, h5, fun i hi => by
      obtain ⟨u, hu⟩ := h6 i hi
      exact ⟨u, hu.c0, hu.c1, hu.fs⟩⟩
theorem ArgM.slice_ {w : World} {v : Value} {l : List Fm} (h : ArgM w v l) : ∃ a c, v = .slice a l.length c ∧ (l.length = 0 ∨ (l.length ≤ c ∧ c ≤ maxLen)) := by
  rcases h with ⟨a, c, rfl, rfl⟩ | ⟨b, off, cap, rfl, h1, h2, h3, _⟩
  · exact ⟨a, c, rfl, .inl rfl⟩
  · exact ⟨_, _, rfl, .inr ⟨h2, h3⟩⟩
theorem ArgM.at_ {w : World} {a : Option Addr} {n c : Nat} {l : List Fm} (h : ArgM w (.slice a n c) l) (h1 : 1 ≤ l.length) : ∃ b off, a = some ⟨b, off, none⟩ ∧ n = l.length ∧ b < w.heap.size ∧ n ≤ c ∧ c ≤ maxLen ∧
    ∀ i, i < l.length → ∃ u, w.cell? ⟨b, off + i * 2, none⟩ = some (.int .i64 (l.getD i zm).id) ∧ w.cell? ⟨b, off + i * 2 + 1, none⟩ = some u ∧ FldsAt w u (l.getD i zm).fs := by
  rcases h with ⟨a, c, _, rfl⟩ | ⟨b, off, cap, h0, h2, h3, h4, h5, h6⟩
  · simp at h1
  · cases h0
    exact ⟨b, off, rfl, rfl, h5, h3, h4, h6⟩
theorem ArgM.below {w w' : World} {v : Value} {l : List Fm} (h : ArgM w v l) (hb : Below w.heap.size w w') : ArgM w' v l := by
  rcases h with h | ⟨b, off, cap, e, h1, h2, h3, h5, h6⟩
  · exact .inl h
  · exact .inr ⟨b, off, cap, e, h1, h2, h3, Nat.lt_of_lt_of_le h5 hb.size, fun i hi => by
      obtain ⟨u, q0, q1, q2⟩ := h6 i hi
      exact ⟨u, (hb.cell (p := ⟨b, off + i * 2, none⟩) h5).trans q0, (hb.cell (p := ⟨b, off + i * 2 + 1, none⟩) h5).trans q1, q2.below hb⟩⟩
/-- The rows of fields lie in blocks of their own. -/
def Dist (vs : List Value) : Prop := ∀ i j g, i < vs.length → j < vs.length → i ≠ j → (vs.getD i undef).ownBlock = some g → (vs.getD j undef).ownBlock ≠ some g
theorem dist_nil : Dist [] := fun i j g hi => by simp at hi
theorem Dist.snoc {vs : List Value} {x : Value} (h : Dist vs) (hx : ∀ g, x.ownBlock = some g → ∀ i, i < vs.length → (vs.getD i undef).ownBlock ≠ some g) : Dist (vs ++ [x]) := by
  intro i j g hi hj hij h1 h2
  rcases getD_snoc (z := undef) hi with ⟨a1, e1⟩ | ⟨a1, e1⟩
  · rw [e1] at h1
    rcases getD_snoc (z := undef) hj with ⟨a2, e2⟩ | ⟨a2, e2⟩
    · rw [e2] at h2; exact h i j g a1 a2 hij h1 h2
    · rw [e2] at h2; exact hx g h2 i a1 h1
  · rw [e1] at h1
    rcases getD_snoc (z := undef) hj with ⟨a2, e2⟩ | ⟨a2, e2⟩
    · rw [e2] at h2; exact hx g h1 j a2 h2
    · omega
theorem own_raise {w : World} {B C : Nat} {e : TypeId} {sz : Nat} {v : Value} {n : Nat} {xs : List Value} (h : w.ownsRow B e sz v n xs) (hc : ∀ g, v.ownBlock = some g → C ≤ g) : w.ownsRow C e sz v n xs := by
  refine ⟨h.1, ?_⟩
  rcases h.2 with hn | ⟨g, cap, cur, rfl, hg, hh, r⟩
  · exact .inl hn
  · exact .inr ⟨g, cap, cur, rfl, hc g rfl, hh, r⟩
/-- What stands while a format's fields are copied. -/
structure FS (w0 w : World) (B gb : Nat) (ID : Int) (u : Value) (L : List Fm) (vs : List Value) (j : Nat) (fs : List Fld) (fv : Value) : Prop where
  b : Below B w0 w
  m : OwnM w B u L vs
  g : w.heap[gb]? = some (.cells #[.int .i64 ID, fv] 34 (0, 0))
  fl : fs.length = j
  row : w.ownsRow B 56 4 fv j (flat fs)
  each : ∀ i, i < j → SmF (fs.getD i zf)
  apart : ∀ g, fv.ownBlock = some g → ∀ i, i < L.length → (vs.getD i undef).ownBlock ≠ some g
  hB : B ≤ w.heap.size
  lb : B ≤ gb
  ug : ∀ g, u.ownBlock = some g → g ≠ gb
theorem FS.below {w0 w w' : World} {B gb : Nat} {ID : Int} {u : Value} {L : List Fm} {vs : List Value} {j : Nat} {fs : List Fld} {fv : Value} (h : FS w0 w B gb ID u L vs j fs fv) (hb : Below w.heap.size w w') : FS w0 w' B gb ID u L vs j fs fv :=
  ⟨h.b.trans (hb.mono h.hB), h.m.below hb, (hb.block _ (lt_of_heap h.g)).trans h.g, h.fl, ownsRow_below h.row hb, h.each, h.apart, Nat.le_trans h.hB hb.size, h.lb, h.ug⟩
theorem FS.grew {w0 w w' : World} {B gb : Nat} {ID : Int} {u : Value} {L : List Fm} {vs : List Value} {j : Nat} {fs : List Fld} {fv v' : Value} {g : Fld} (h : FS w0 w B gb ID u L vs j fs fv) (hg : SmF g) (hGr : Grew w w' 0 56 4 fv v' (j + 1) (flat fs ++ fldC g)) :
    (∃ a1 c1, v' = .slice a1 (j + 1) c1) ∧ (∃ x, w'.cell? ⟨gb, 1, none⟩ = some x) ∧ w'.frozen? ⟨gb, 1, none⟩ = false ∧ FS w0 (w'.setCell ⟨gb, 1, none⟩ v') B gb ID u L vs (j + 1) (fs ++ [g]) v' := by
  have h0 := ownsRow_lower h.row (Nat.zero_le B)
  obtain ⟨a1, c1, e1, _, _⟩ := own_slice hGr.own
  have hG : Blk w gb 34 #[.int .i64 ID, fv] := h.g
  have g1 := hGr.blkOther h0 hG (by decide)
  have ne : ∀ k, k ≠ gb → (w'.setCell ⟨gb, 1, none⟩ v').heap[k]? = w'.heap[k]? := fun k hk => Below.heap_setCell _ _ _ _ hk
  have hlow : ∀ k, v'.ownBlock = some k → B ≤ k := fun k hk => by
    rcases hGr.blk with e | e
    · exact (h.row.lt k (e ▸ hk)).1
    · rw [e] at hk; cases hk; exact h.hB
  refine ⟨⟨a1, c1, e1⟩, ⟨_, g1.cell 1⟩, g1.frozen 1, ⟨?_, ⟨?_, h.m.vsl, fun i hi => ?_⟩, g1.set_ 1 _, by rw [List.length_append, h.fl]; rfl, ?_, ?_, ?_, ?_, h.lb, h.ug⟩⟩
  · exact (h.b.grown hGr.grown h.hB fun k hk => (h.row.lt k hk).1).setCell (p := ⟨gb, 1, none⟩) h.lb _
  · exact own_keep h.m.row fun k cur hk hh => (ne k (h.ug k hk)).trans (hGr.grown.block k (lt_of_heap hh) fun e => by
      obtain ⟨cur', h2⟩ := own_heap h.row e.symm
      rw [hh] at h2; cases h2)
  · exact own_keep (h.m.each i hi) fun k cur hk hh => (ne k (fun e => by
      have hG2 := h.g
      rw [e, hG2] at hh; cases hh)).trans (hGr.grown.block k (lt_of_heap hh) fun e => h.apart k e.symm i hi hk)
  · have e : flat (fs ++ [g]) = flat fs ++ fldC g := by simp [flat]
    rw [e]
    exact own_keep (own_raise hGr.own hlow) fun k cur _ hh => ne k (fun e => by
      have h2 : w'.heap[gb]? = _ := g1
      rw [e, h2] at hh; cases hh)
  · intro i hi
    rcases Nat.lt_succ_iff_lt_or_eq.1 hi with h1 | rfl
    · rw [getD_snoc_lt (by rw [h.fl]; exact h1)]; exact h.each i h1
    · rw [← h.fl, getD_snoc_eq]; exact hg
  · intro k hk i hi he
    rcases hGr.blk with e | e
    · exact h.apart k (e ▸ hk) i hi he
    · rw [e] at hk; cases hk
      have := own_lt (h.m.each i hi) he
      omega
  · have := hGr.grown.size
    have := h.hB
    simp [World.setCell]; omega
/-- The format joins the row. -/
theorem FS.join {w0 w wZ : World} {B gb : Nat} {ID : Int} {u v' : Value} {L : List Fm} {vs : List Value} {j : Nat} {fs : List Fld} {fv : Value} (h : FS w0 w B gb ID u L vs j fs fv) (o : Obj) (hG : Grew (w.alloc o) wZ 0 34 2 u v' (L.length + 1) (flatM L vs ++ [.int .i64 ID, fv])) :
    OwnM wZ B v' (L ++ [⟨ID, fs⟩]) (vs ++ [fv]) ∧ Below B w0 wZ := by
  have h2 := h.below (bx o)
  have sz : (w.alloc o).heap.size = w.heap.size + 1 := by simp
  refine ⟨⟨?_, by simp [h.m.vsl], fun i hi => ?_⟩, h2.b.grown hG.grown h2.hB fun g hg => (h.m.row.lt g hg).1⟩
  · rw [flatM_snoc h.m.vsl, List.length_append]
    refine own_raise hG.own fun g hg => ?_
    rcases hG.blk with e | e
    · exact (h.m.row.lt g (e ▸ hg)).1
    · rw [e] at hg; cases hg; have := h.hB; omega
  · rcases getD_snoc (z := zm) hi with ⟨h1, e⟩ | ⟨rfl, e⟩
    · rw [e, getD_snoc_lt (by have := h.m.vsl; omega)]
      exact own_keep (h2.m.each i h1) fun g cur hg hh => hG.grown.block g (lt_of_heap hh) fun e1 => (h2.m.apart h1 g hg).2 e1.symm
    · rw [e, ← h.m.vsl, getD_snoc_eq]
      show wZ.ownsRow B 56 4 fv fs.length (flat fs)
      rw [h.fl]
      refine own_keep h2.row fun g cur hg hh => hG.grown.block g (lt_of_heap hh) fun e1 => ?_
      obtain ⟨cur', h3⟩ := own_heap h2.m.row e1.symm
      rw [hh] at h3
      cases h3
theorem run_min2 (ts : Array TypeId) (t : TypeId) (x y : Int) (W : World) : (Builtin.min_ ts t #[.int .i64 x, .int .i64 y]).run Tryz.prog W = .ok (.int .i64 (if y < x then y else x)) W := by
  simp [Builtin.min_, Builtin.min2]
set_option maxRecDepth 100000 in
set_option maxHeartbeats 4000000 in
theorem few_any (v : Value) (l : List Fm) (w : World) (hV : ArgM w v l) (hI : IntsL l) :
    Calls Tryz.prog 13 #[v] w fun e w' => (∃ u L, e = .returned u ∧ Sm L ∧ (∀ i, i < L.length → (L.getD i zm).fs.length ≤ 18) ∧ ∃ vs, OwnM w' w.heap.size u L vs ∧ Dist vs) ∧ Below w.heap.size w w' := by
  obtain ⟨a, c, rfl, hlc⟩ := hV.slice_
  obtain ⟨n, hn⟩ : ∃ n, n = l.length := ⟨_, rfl⟩
  rw [← hn] at hV hlc ⊢
  have HV := Lib.hid (And.intro hV (And.intro hn hI))
  have hn2 : n ≤ 9223372036854775807 := by unfold maxLen at hlc; omega
  clear hV hlc hn hI
  go_enter Tryz.func13, Tryz.ntmps13
  go_wp2_with fail
  go_loopw [3, 4] (fun u i wr => ∃ (k : Nat) (L : List Fm) (vs : List Value), k ≤ n ∧ k ≤ 62 ∧ i = .int .i64 k ∧ Hid (Below w.heap.size w wr ∧ (Sm L ∧ ∀ i, i < L.length → (L.getD i zm).fs.length ≤ 18) ∧ L.length = k ∧ OwnM wr w.heap.size u L vs ∧ Dist vs)) (fun _ i _ => n - (intOf i).toNat)
  case atStart => exact ⟨0, [], [], Nat.zero_le _, by omega, rfl, Lib.hid ⟨Below.refl _ _, ⟨sm_nil, fun i h => by simp at h⟩, rfl, OwnM.nil _ _, dist_nil⟩⟩
  case round =>
    obtain ⟨k, L, vs, hk, hk6, rfl, HI⟩ := hrel
    obtain ⟨wo, rfl⟩ : ∃ wo : World, wo = wr := ⟨_, rfl⟩
    by_cases hkn : k < n ∧ k < 62
    · obtain ⟨hk1, hk5⟩ := hkn
      have hkl : k < l.length := by have := HV.out.2.1; omega
      obtain ⟨b, off, rfl, -, lb, m1, m2, hfm⟩ := HV.out.1.at_ (by omega)
      obtain ⟨fu, hc0, hc1, hfs⟩ := hfm k hkl
      obtain ⟨fa, fcap, rfl, hfl⟩ := hfs.slice_
      obtain ⟨nf, hnf⟩ : ∃ nf, nf = (l.getD k zm).fs.length := ⟨_, rfl⟩
      rw [← hnf] at hfl hfs hc1
      have a0 := (HI.out.1.cell (p := ⟨b, off + k * 2, none⟩) lb).trans hc0
      obtain ⟨ID, hID⟩ : ∃ ID, ID = (l.getD k zm).id := ⟨_, rfl⟩
      rw [← hID] at a0
      have lb2 := World.block_lt_of_cell? (h := a0)
      have HF := Lib.hid (And.intro hfs (And.intro hnf (And.intro hc1 hID)))
      have HIK := Lib.hid (HV.out.2.2 k hkl)
      obtain ⟨ua, uc, rfl, huc⟩ := own_slice HI.out.2.2.2.1.row
      unfold maxLen at m2 hfl
      clear hfs hc0 hc1 hfm hnf hID
      go_wp2_with fail
      obtain ⟨Z, hZ⟩ : ∃ Z, Z = wo.alloc (.cells #[.int .i64 ID, .slice none 0 0] 34) := ⟨_, rfl⟩
      rw [← hZ]
      obtain ⟨Gb, hGb⟩ : ∃ Gb, Gb = wo.heap.size := ⟨_, rfl⟩
      rw [← hGb]
      have hLk := HI.out.2.2.1
      rw [hLk] at huc ⊢
      have HSm := Lib.hid HI.out.2.1
      have HD := Lib.hid HI.out.2.2.2.2
      have HS0 : Hid (FS w Z w.heap.size Gb ID (.slice ua k uc) L vs 0 [] (.slice none 0 0)) := Lib.hid (by
        have hb : Below wo.heap.size wo Z := by rw [hZ]; exact bx _
        have s0 := HI.out.1.size
        have hO := HI.out.2.2.2.1
        rw [hLk] at hO
        exact ⟨HI.out.1.trans (hb.mono s0), hO.below hb, by rw [hZ, hGb]; exact heap_alloc_new _ _, rfl, World.ownsRow_nil _ _ _ _, fun i hi => absurd hi (by omega), by simp [Value.ownBlock], Nat.le_trans s0 hb.size, by omega, fun g hg => by have := own_lt hO.row hg; omega⟩)
      clear hZ hGb a0 lb2 HI
      go_loopw [6] (fun j wr => ∃ (x : Nat) (fs : List Fld) (fv : Value), x ≤ nf ∧ x ≤ 18 ∧ j = .int .i64 x ∧ Hid (FS w wr w.heap.size Gb ID (.slice ua k uc) L vs x fs fv)) (fun j _ => nf - (intOf j).toNat)
      case atStart => exact ⟨0, [], .slice none 0 0, Nat.zero_le _, by omega, rfl, HS0⟩
      case round =>
        obtain ⟨x, fs, fv, hx, hx18, rfl, HS⟩ := hrel
        obtain ⟨wq, rfl⟩ : ∃ wq : World, wq = wr := ⟨_, rfl⟩
        obtain ⟨va, vc, rfl, hvc⟩ := own_slice HS.out.row
        have a1 := (HS.out.b.cell (p := ⟨b, off + k * 2 + 1, none⟩) lb).trans HF.out.2.2.1
        have z1 : wq.cell? ⟨Gb, 1, none⟩ = some (.slice va x vc) := cell_of_row _ _ _ _ _ _ HS.out.g
        have z0 : wq.cell? ⟨Gb, 0, none⟩ = some (.int .i64 ID) := cell_of_row _ _ _ _ _ _ HS.out.g
        have lG := lt_of_heap HS.out.g
        have lb2 := World.block_lt_of_cell? (h := a1)
        by_cases hxn : x < nf ∧ x < 18
        · obtain ⟨hx1, hx2⟩ := hxn
          obtain ⟨fb, fo, rfl, -, lfb, -, -, hfl2⟩ := HF.out.1.at_ (by have := HF.out.2.1; omega)
          have hxf : x < (l.getD k zm).fs.length := by have := HF.out.2.1; omega
          obtain ⟨⟨gk, gn, gf, gt⟩, hg⟩ : ∃ g, g = (l.getD k zm).fs.getD x zf := ⟨_, rfl⟩
          have hgA := (hfl2 x hxf).of_block (w' := wq) (HS.out.b.block fb lfb)
          have hgi := HIK.out.2 x hxf
          rw [← hg] at hgA hgi
          obtain ⟨g0, g1, g2, g3⟩ := hgA
          have lgb := World.block_lt_of_cell? (h := g0)
          have hgt : gt.size ≤ 9223372036854775807 := hgi.t
          obtain ⟨M, hM⟩ : ∃ M, M = min gt.size 20 := ⟨_, rfl⟩
          have hM1 : M ≤ gt.size := by omega
          have hM2 : M ≤ 20 := by omega
          have hmin : ∀ ts t (W : World), (Builtin.min_ ts t #[.int .i64 (gt.size : Int), .int .i64 20]).run Tryz.prog W = .ok (.int .i64 (M : Int)) W := fun ts t W => by
            rw [run_min2, hM]
            congr 2
            split <;> omega
          have hsm : SmF ⟨gk, gn, gf, gt.extract 0 M⟩ := by
            have hsz : (gt.extract 0 M).size ≤ 20 := by rw [ByteArray.size_extract]; omega
            exact ⟨⟨hgi.k1, hgi.k2, hgi.n1, hgi.n2, hgi.f1, hgi.f2, by show (gt.extract 0 M).size ≤ _; omega⟩, hsz⟩
          have HA : Hid (FS w ((wq.alloc (.cells #[.int .i64 gk, .int .i64 gn, .int .i64 gf, .string (gt.extract 0 M)] 56)).alloc (.cells (fldC ⟨gk, gn, gf, gt.extract 0 M⟩).toArray 56)) w.heap.size Gb ID (.slice ua k uc) L vs x fs (.slice va x vc) ∧ ((wq.alloc (.cells #[.int .i64 gk, .int .i64 gn, .int .i64 gf, .string (gt.extract 0 M)] 56)).alloc (.cells (fldC ⟨gk, gn, gf, gt.extract 0 M⟩).toArray 56)).heap[wq.heap.size + 1]? = some (.cells (fldC ⟨gk, gn, gf, gt.extract 0 M⟩).toArray 56 (0, 0))) := Lib.hid ⟨HS.out.below ((bx _).alloc (by simp) _), heap_alloc2_new _ _ _⟩
          have HSM := Lib.hid hsm
          unfold maxLen at hvc
          clear hM hsm HS hfl2 hg hgi
          go_wp2_with (at_builtin; refine wpList_append_fld rfl (.tmp 55) (.tmp 57) rfl (.slice va x vc) x (flat fs) rfl (ownsRow_lower HA.out.1.row (Nat.zero_le _)) (by omega) (wq.heap.size + 1) ⟨gk, gn, gf, gt.extract 0 M⟩ rfl HA.out.2 ?_; intro v1 wA hGr; obtain ⟨⟨a1, cc1, rfl⟩, ⟨p1, p2⟩, p3, p4⟩ := HA.out.1.grew HSM.out hGr)
          exact ⟨⟨x + 1, fs ++ [⟨gk, gn, gf, gt.extract 0 M⟩], _, by omega, by omega, by go_num, Lib.hid p4⟩, by simp [intOf]; omega⟩
        · have HX := Lib.hid hxn
          have HJ : Hid (∀ v' wZ, Grew (wq.alloc (.cells #[.int .i64 ID, .slice va x vc] 34)) wZ 0 34 2 (.slice ua k uc) v' (L.length + 1) (flatM L vs ++ [.int .i64 ID, .slice va x vc]) → Hid (Below w.heap.size w wZ ∧ (Sm (L ++ [(⟨ID, fs⟩ : Fm)]) ∧ ∀ i, i < (L ++ [(⟨ID, fs⟩ : Fm)]).length → ((L ++ [(⟨ID, fs⟩ : Fm)]).getD i zm).fs.length ≤ 18) ∧ (L ++ [(⟨ID, fs⟩ : Fm)]).length = k + 1 ∧ OwnM wZ w.heap.size v' (L ++ [⟨ID, fs⟩]) (vs ++ [.slice va x vc]) ∧ Dist (vs ++ [.slice va x vc]))) := Lib.hid fun v' wZ hG => Lib.hid (by
            obtain ⟨j1, j2⟩ := HS.out.join _ hG
            have hfl := HS.out.fl
            refine ⟨j2, ⟨HSm.out.1.snoc (by omega) ?_ (by show fs.length ≤ 19; omega) fun q hq => HS.out.each q (by have hq2 : q < fs.length := hq; omega), fun i hi => ?_⟩, by rw [List.length_append, hLk]; rfl, j1, HD.out.snoc fun g hg i hi => HS.out.apart g hg i (by have := HS.out.m.vsl; omega)⟩
            · have h := HIK.out.1
              rw [← HF.out.2.2.2] at h
              exact h
            · rcases getD_snoc (z := zm) hi with ⟨h1, e⟩ | ⟨rfl, e⟩
              · rw [e]; exact HSm.out.2 i h1
              · rw [e]; show fs.length ≤ 18; omega)
          have HO : Hid ((wq.alloc (.cells #[.int .i64 ID, .slice va x vc] 34)).ownsRow 0 34 2 (.slice ua k uc) L.length (flatM L vs)) := Lib.hid (ownsRow_below (ownsRow_lower HS.out.m.row (Nat.zero_le _)) (bx _))
          by_cases hxf : x < nf
          · obtain rfl : x = 18 := by
              have := HX.out
              omega
            clear HX hxn HS
            go_wp2_with (at_builtin; refine wpList_append_fmt rfl (.tmp 60) (.tmp 62) rfl (.slice ua k uc) L.length (flatM L vs) rfl HO.out (by omega) wq.heap.size ID _ rfl rfl (heap_alloc_new _ _) ?_; intro v2 wB hG; have HE := HJ.out v2 wB hG; clear hG)
            go_roundw
            case rel => exact ⟨k + 1, L ++ [⟨ID, fs⟩], _, by omega, by omega, by go_num, HE⟩
            case measure => simp [intOf]; omega
          · clear HX hxn HS
            go_wp2_with (at_builtin; refine wpList_append_fmt rfl (.tmp 60) (.tmp 62) rfl (.slice ua k uc) L.length (flatM L vs) rfl HO.out (by omega) wq.heap.size ID _ rfl rfl (heap_alloc_new _ _) ?_; intro v2 wB hG; have HE := HJ.out v2 wB hG; clear hG)
            go_roundw
            case rel => exact ⟨k + 1, L ++ [⟨ID, fs⟩], _, by omega, by omega, by go_num, HE⟩
            case measure => simp [intOf]; omega
    · have HE := Lib.hid (And.intro HI.out.1 (And.intro HI.out.2.1 HI.out.2.2.2))
      clear HI
      by_cases hk7 : k < n
      · obtain rfl : k = 62 := by omega
        go_wp2_with fail
        go_ret
        exact ⟨⟨_, L, rfl, HE.out.2.1.1, HE.out.2.1.2, vs, HE.out.2.2.1, HE.out.2.2.2⟩, HE.out.1⟩
      · go_wp2_with fail
        go_ret
        exact ⟨⟨_, L, rfl, HE.out.2.1.1, HE.out.2.1.2, vs, HE.out.2.2.1, HE.out.2.2.2⟩, HE.out.1⟩
end LawFew
section LawArg
open Go.RowKit Go.ChangeShapes Go.WideShapes Fx

theorem cellsInt : Tryz.prog.cellsOf 3 = 1 := by kernel_rfl
theorem cellsStr1 : Tryz.prog.cellsOf 9 = 1 := by kernel_rfl
theorem cellsFour : Tryz.prog.cellsOf 58 = 4 := by kernel_rfl
theorem cellsFld : Tryz.prog.cellsOf 56 = 4 := by kernel_rfl
theorem cellsFmt : Tryz.prog.cellsOf 34 = 2 := by kernel_rfl
theorem cellsFlds : Tryz.prog.cellsOf 32 = 1 := by kernel_rfl
theorem one_at {cs : List Value} {i : Nat} {v : Value} (h : (cs.drop i).take 1 = [v]) : cs[i]? = some v := by
  have h2 := congrArg (fun l => l[0]?) h
  simpa using h2
theorem exists_list {α : Type} (z : α) {P : Nat → α → Prop} : ∀ n : Nat, (∀ i, i < n → ∃ f, P i f) → ∃ l : List α, l.length = n ∧ ∀ i, i < n → P i (l.getD i z)
  | 0, _ => ⟨[], rfl, fun i hi => by omega⟩
  | n + 1, h => by
    obtain ⟨l, h1, h2⟩ := exists_list z n fun i hi => h i (by omega)
    obtain ⟨f, hf⟩ := h n (by omega)
    refine ⟨l ++ [f], by simp [h1], fun i hi => ?_⟩
    rcases Nat.lt_succ_iff_lt_or_eq.1 hi with h3 | rfl
    · rw [getD_snoc_lt (by omega)]; exact h2 i h3
    · rw [← h1, getD_snoc_eq, h1]; exact hf
section
variable {H : Type} {enc : TypeId × Value → H} {W : World} {base : Nat} {sp : Nat → Bool} {held : Bool}
theorem four_of_trod {fuel : Nat} {cs : List Value} {x : DataW H × List MemPlace} (h : DataW.trod enc Tryz.prog W base sp held fuel 58 cs = some x) : ∀ j, j < 4 → ∃ z : Int, cs[j]? = some (.int .i64 z) ∧ -9223372036854775808 ≤ z ∧ z ≤ 9223372036854775807 := by
  obtain ⟨xs, m, _, _, _, hl, he⟩ := DataW.trod_array Tryz.underlying58 h
  intro j hj
  have h1 := he j hj
  rw [List.getElem?_eq_getElem (by omega)] at h1
  obtain ⟨z, e, _, hw⟩ := DataW.trod_int Tryz.underlying3 h1
  rw [cellsInt, Nat.mul_one] at e
  exact ⟨z, one_at e, bounds_i64 hw⟩
theorem fld_of_trod {fuel : Nat} {cs : List Value} {x : DataW H × List MemPlace} (h : DataW.trod enc Tryz.prog W base sp held fuel 56 cs = some x) :
    ∃ f : Fld, cs[0]? = some (.int .i64 f.kind) ∧ cs[1]? = some (.int .i64 f.n) ∧ cs[2]? = some (.int .i64 f.frm) ∧ cs[3]? = some (.string f.text) ∧ Ints f := by
  obtain ⟨xs, m, _, _, _, hl, he⟩ := DataW.trod_struct Tryz.underlying56 h
  have hl4 : xs.length = 4 := hl
  have h0 := he 0 _ rfl
  have h1 := he 1 _ rfl
  have h2 := he 2 _ rfl
  have h3 := he 3 _ rfl
  rw [List.getElem?_eq_getElem (by omega)] at h0 h1 h2 h3
  obtain ⟨a, e0, _, w0⟩ := DataW.trod_int (t := 3) Tryz.underlying3 h0
  obtain ⟨b, e1, _, w1⟩ := DataW.trod_int (t := 3) Tryz.underlying3 h1
  obtain ⟨c, e2, _, w2⟩ := DataW.trod_int (t := 3) Tryz.underlying3 h2
  obtain ⟨d, e3, _, w3⟩ := DataW.trod_string (t := 9) Tryz.underlying9 h3
  have b0 := bounds_i64 w0
  have b1 := bounds_i64 w1
  have b2 := bounds_i64 w2
  refine ⟨⟨a, b, c, d⟩, one_at (i := 0) ?_, one_at (i := 1) ?_, one_at (i := 2) ?_, one_at (i := 3) ?_, ⟨b0.1, b0.2, b1.1, b1.2, b2.1, b2.2, by unfold maxLen at w3; show d.size ≤ _; omega⟩⟩
  · have e : (cs.drop 0).take (Tryz.prog.cellsOf 3) = _ := e0
    rw [cellsInt] at e; exact e
  · have e : (cs.drop 1).take (Tryz.prog.cellsOf 3) = _ := e1
    rw [cellsInt] at e; exact e
  · have e : (cs.drop 2).take (Tryz.prog.cellsOf 3) = _ := e2
    rw [cellsInt] at e; exact e
  · have e : (cs.drop 3).take (Tryz.prog.cellsOf 9) = _ := e3
    rw [cellsStr1] at e; exact e
theorem fmt_of_trod {fuel : Nat} {cs : List Value} {x : DataW H × List MemPlace} (h : DataW.trod enc Tryz.prog W base sp held fuel 34 cs = some x) :
    ∃ (id : Int) (v : Value) (n : Nat) (y : DataW H × List MemPlace), cs[0]? = some (.int .i64 id) ∧ cs[1]? = some v ∧ (-9223372036854775808 ≤ id ∧ id ≤ 9223372036854775807) ∧ DataW.trod enc Tryz.prog W base sp held n 32 [v] = some y := by
  obtain ⟨xs, m, _, _, hcl, hl, he⟩ := DataW.trod_struct Tryz.underlying34 h
  have hl4 : xs.length = 2 := hl
  rw [cellsFmt] at hcl
  have h0 := he 0 _ rfl
  have h1 := he 1 _ rfl
  rw [List.getElem?_eq_getElem (by omega)] at h0 h1
  obtain ⟨a, e0, _, w0⟩ := DataW.trod_int (t := 3) Tryz.underlying3 h0
  have q0 : (cs.drop 0).take (Tryz.prog.cellsOf 3) = _ := e0
  rw [cellsInt] at q0
  have q1 : DataW.trod enc Tryz.prog W base sp held m 32 ((cs.drop 1).take (Tryz.prog.cellsOf 32)) = some (xs[1]) := h1
  rw [cellsFlds] at q1
  have hd : (cs.drop 1).take 1 = [cs[1]] := by
    rw [List.drop_eq_getElem_cons (by omega)]
    rfl
  rw [hd] at q1
  exact ⟨a, cs[1], m, _, one_at q0, List.getElem?_eq_getElem (by omega), bounds_i64 w0, q1⟩
theorem slice_at {e : TypeId} {k len : Nat} {a : Addr} {elems : List (DataW H × List MemPlace)} {n : Nat} (hc : Tryz.prog.cellsOf e = k) (hl : elems.length = len) (hel : ∀ i, i < len → (W.cells? base (a.add (i * Tryz.prog.cellsOf e)) (Tryz.prog.cellsOf e)).bind (DataW.trod enc Tryz.prog W base sp held n e) = elems[i]?) {i : Nat} (hi : i < len) :
    ∃ cs x, DataW.trod enc Tryz.prog W base sp held n e cs = some x ∧ ∀ (j : Nat) (v : Value), j < k → cs[j]? = some v → W.cell? ((a.add (i * k)).add j) = some v := by
  have h := hel i hi
  rw [List.getElem?_eq_getElem (by omega), Option.bind_eq_some_iff, hc] at h
  obtain ⟨cs, h1, h2⟩ := h
  refine ⟨cs, _, h2, fun j v hj hv => ?_⟩
  obtain ⟨_, h3, h4⟩ := World.cells?_some h1
  exact (h4 j (by omega)).trans hv
theorem add2 (b off i j : Nat) : (Addr.add (Addr.add ⟨b, off, none⟩ i) j) = ⟨b, off + i + j, none⟩ := by
  rw [add_plain, add_plain]
theorem spot_none {a : Addr} {i k j : Nat} {v : Value} (h : W.cell? ((a.add (i * k)).add j) = some v) (hi : i = 0) (hj : j = 0) : ∃ b off, a = ⟨b, off, none⟩ := by
  subst hi; subst hj
  obtain ⟨b, off, spot⟩ := a
  have : spot = none := by simpa [Addr.add] using World.cell?_spot h
  subst this
  exact ⟨b, off, rfl⟩
/-- A slice of rows of four ints that came in. -/
theorem qs_of_trod {fuel : Nat} {v : Value} {x : DataW H × List MemPlace} (h : DataW.trod enc Tryz.prog W base sp held fuel 23 [v] = some x) : ∃ n, QsAt W v n := by
  rcases DataW.trod_slice Tryz.underlying23 h with ⟨e, _⟩ | ⟨a, len, cap, elems, rest, n, _, e, _, hb, hl, hm, hlen, hel, _, _⟩
  · cases e; exact ⟨0, .inl ⟨_, _, rfl, rfl⟩⟩
  · cases e
    rcases Nat.eq_zero_or_pos len with rfl | h0
    · exact ⟨0, .inl ⟨_, _, rfl, rfl⟩⟩
    · have key : ∀ i, i < len → ∀ j, j < 4 → ∃ z : Int, W.cell? ((a.add (i * 4)).add j) = some (.int .i64 z) ∧ -9223372036854775808 ≤ z ∧ z ≤ 9223372036854775807 := fun i hi j hj => by
        obtain ⟨cs, x, h1, h2⟩ := slice_at cellsFour hlen hel hi
        obtain ⟨z, hz, hr⟩ := four_of_trod h1 j hj
        exact ⟨z, h2 j _ hj hz, hr⟩
      obtain ⟨z, hz, _⟩ := key 0 h0 0 (by omega)
      obtain ⟨b, off, rfl⟩ := spot_none hz rfl rfl
      refine ⟨len, .inr ⟨b, off, cap, rfl, h0, hl, hm, ?_, fun i j hi hj => ?_⟩⟩
      · rw [add2] at hz
        exact World.block_lt_of_cell? (h := hz)
      · have := key i hi j hj
        rwa [add2] at this
/-- A slice of fields. -/
theorem flds_of_trod {fuel : Nat} {v : Value} {x : DataW H × List MemPlace} (h : DataW.trod enc Tryz.prog W base sp held fuel 32 [v] = some x) : ∃ fs, FldsAt W v fs ∧ (∀ i, i < fs.length → Ints (fs.getD i zf)) ∧ ∀ g, v.ownBlock = some g → 1 ≤ fs.length → g < W.heap.size := by
  rcases DataW.trod_slice Tryz.underlying32 h with ⟨e, _⟩ | ⟨a, len, cap, elems, rest, n, _, e, _, hb, hl, hm, hlen, hel, _, _⟩
  · cases e; exact ⟨[], .inl ⟨_, _, rfl, rfl⟩, fun i hi => by simp at hi, fun g hg => by simp [Value.ownBlock] at hg⟩
  · cases e
    rcases Nat.eq_zero_or_pos len with rfl | h0
    · exact ⟨[], .inl ⟨_, _, rfl, rfl⟩, fun i hi => by simp at hi, fun g hg h1 => by simp at h1⟩
    · have key : ∀ i, i < len → ∃ f : Fld, (W.cell? ((a.add (i * 4)).add 0) = some (.int .i64 f.kind) ∧ W.cell? ((a.add (i * 4)).add 1) = some (.int .i64 f.n) ∧ W.cell? ((a.add (i * 4)).add 2) = some (.int .i64 f.frm) ∧ W.cell? ((a.add (i * 4)).add 3) = some (.string f.text)) ∧ Ints f := fun i hi => by
        obtain ⟨cs, x, h1, h2⟩ := slice_at cellsFld hlen hel hi
        obtain ⟨f, e0, e1, e2, e3, hI⟩ := fld_of_trod h1
        exact ⟨f, ⟨h2 0 _ (by omega) e0, h2 1 _ (by omega) e1, h2 2 _ (by omega) e2, h2 3 _ (by omega) e3⟩, hI⟩
      obtain ⟨fs, hfl, hfs⟩ := exists_list zf len key
      obtain ⟨b, off, rfl⟩ := spot_none (hfs 0 h0).1.1 rfl rfl
      have hblk : b < W.heap.size := by
        have h := (hfs 0 h0).1.1
        rw [add2] at h
        exact World.block_lt_of_cell? (h := h)
      refine ⟨fs, .inr ⟨b, off, cap, by rw [hfl], by omega, by omega, hm, hblk, fun i hi => ?_⟩, fun i hi => (hfs i (by omega)).2, fun g hg _ => by simp only [Value.ownBlock, Option.some.injEq] at hg; omega⟩
      have h := (hfs i (by omega)).1
      rw [add2, add2, add2, add2] at h
      exact ⟨h.1, h.2.1, h.2.2.1, h.2.2.2⟩
/-- A slice of formats that came in. -/
theorem fms_of_trod {fuel : Nat} {v : Value} {x : DataW H × List MemPlace} (h : DataW.trod enc Tryz.prog W base sp held fuel 22 [v] = some x) : ∃ l, ArgM W v l ∧ IntsL l := by
  rcases DataW.trod_slice Tryz.underlying22 h with ⟨e, _⟩ | ⟨a, len, cap, elems, rest, n, _, e, _, hb, hl, hm, hlen, hel, _, _⟩
  · cases e; exact ⟨[], .inl ⟨_, _, rfl, rfl⟩, fun i hi => by simp at hi⟩
  · cases e
    rcases Nat.eq_zero_or_pos len with rfl | h0
    · exact ⟨[], .inl ⟨_, _, rfl, rfl⟩, fun i hi => by simp at hi⟩
    · have key : ∀ i, i < len → ∃ f : Fm, (∃ u, W.cell? ((a.add (i * 2)).add 0) = some (.int .i64 f.id) ∧ W.cell? ((a.add (i * 2)).add 1) = some u ∧ FldsAt W u f.fs) ∧ IntsM f := fun i hi => by
        obtain ⟨cs, x, h1, h2⟩ := slice_at cellsFmt hlen hel hi
        obtain ⟨id, u, m, y, e0, e1, hid, hy⟩ := fmt_of_trod h1
        obtain ⟨fs, q1, q2, _⟩ := flds_of_trod hy
        exact ⟨⟨id, fs⟩, ⟨u, h2 0 _ (by omega) e0, h2 1 _ (by omega) e1, q1⟩, hid, q2⟩
      obtain ⟨l, hll, hP⟩ := exists_list zm len key
      obtain ⟨u, hu, _⟩ := (hP 0 h0).1
      obtain ⟨b, off, rfl⟩ := spot_none hu rfl rfl
      rw [add2] at hu
      refine ⟨l, .inr ⟨b, off, cap, by rw [hll], by omega, by omega, hm, World.block_lt_of_cell? (h := hu), fun i hi => ?_⟩, fun i hi => (hP i (by omega)).2⟩
      obtain ⟨u, q0, q1, q2⟩ := (hP i (by omega)).1
      rw [add2] at q0 q1
      exact ⟨u, q0, q1, q2⟩
end
section
variable {P : Program} {q : IntKind} {H : Type} {enc : TypeId × Value → H} {W : World} {base : Nat} {sp : Nat → Bool} {held : Bool}
theorem okWide_array {r : Reach} {b0 n : Nat} {t e : TypeId} {v : Value} (ht : P.underlying t = some (.array n e)) (h : Value.okWide P W r b0 t v) : ∃ cs : Array Value, v = .agg cs ∧ cs.size = P.cellsOf t := by
  simp only [Value.okWide, ht] at h
  obtain ⟨cs, h1, h2, _⟩ := h
  exact ⟨cs, h1, h2⟩
/-- Five integers. -/
theorem open_ints5 {r : Reach} {b0 : Nat} {t e : TypeId} {v : Value} {d : DataW H} {ps : List MemPlace} (ht : P.underlying t = some (.array 5 e)) (he : P.underlying e = some (.int q))
    (hc : P.cellsOf e = 1) (hct : P.cellsOf t = 5) (hval : Value.okWide P W r b0 t v) (hd : DataW.Trod enc P W base sp held t v d ps) :
    ∃ a0 a1 a2 a3 a4 : Int, v = .agg #[.int q a0, .int q a1, .int q a2, .int q a3, .int q a4] ∧ ps = [] ∧
      (Lit.int q a0).wf = true ∧ (Lit.int q a1).wf = true ∧ (Lit.int q a2).wf = true ∧ (Lit.int q a3).wf = true ∧ (Lit.int q a4).wf = true := by
  obtain ⟨⟨cs⟩, rfl, hs⟩ := okWide_array ht hval
  rw [hct] at hs
  match cs, hs with
  | [c0, c1, c2, c3, c4], _ =>
  obtain ⟨fuel, hf⟩ := hd
  cases fuel with
  | zero => simp [DataW.trod] at hf
  | succ n =>
    rw [DataW.trod_step] at hf
    unfold DataW.trodStep at hf
    simp only [ht, Value.cells] at hf
    rw [if_pos (by rw [hct]; rfl)] at hf
    simp only [Option.map_eq_some_iff] at hf
    obtain ⟨xs, hx, e1⟩ := hf
    rw [show List.range 5 = [0, 1, 2, 3, 4] from rfl, List.mapM_cons, List.mapM_cons, List.mapM_cons, List.mapM_cons, List.mapM_cons, List.mapM_nil] at hx
    simp only [bind, Option.bind_eq_some_iff, pure, Option.some.injEq, hc] at hx
    obtain ⟨y0, h0, _, ⟨y1, h1, _, ⟨y2, h2, _, ⟨y3, h3, _, ⟨y4, h4, _, rfl, rfl⟩, rfl⟩, rfl⟩, rfl⟩, rfl⟩ := hx
    obtain ⟨a0, e0, rfl, w0⟩ := DataW.trod_int he h0
    obtain ⟨a1, e2, rfl, w1⟩ := DataW.trod_int he h1
    obtain ⟨a2, e3, rfl, w2⟩ := DataW.trod_int he h2
    obtain ⟨a3, e4, rfl, w3⟩ := DataW.trod_int he h3
    obtain ⟨a4, e5, rfl, w4⟩ := DataW.trod_int he h4
    simp at e0 e2 e3 e4 e5
    subst e0; subst e2; subst e3; subst e4; subst e5
    refine ⟨a0, a1, a2, a3, a4, rfl, ?_, w0, w1, w2, w3, w4⟩
    have := congrArg Prod.snd e1
    simp only at this
    rw [← this]
    simp
end
end LawArg
end Go.Proofs.YtcnokccgdiodlaaGreatDoor
