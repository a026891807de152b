/- A stream that is written is recognised, and has the values that were given: the whole. Plain facts. No condition of its own. The parts of a stream lie in it, and belong to fields of its table; there are few of them. Plain facts. No condition of its own. What recognising reads: streams that agree up to a place, or from a place on. Plain facts. No condition of its own. A changed byte of a literal, or of bytes that a checksum follows, is noticed. Plain facts. No condition of its own. -/
import Derived.Test.YtdndmhlmbpgdeaaGreatDoorPn01
import Derived.Test.YtdndmhlmbpgdeaaGreatDoorPb10
namespace Go.Proofs.YtdndmhlmbpgdeaaGreatDoor
section RtC
open Go.RowKit Fx Rec
namespace Rt

theorem fwd_flds {L : List Fm} {N : Nat} {sub : WSub} {rsub : Sub} {fs : List Fld} {s : ByteArray} {start : Nat} {id depth : Int} {limit cnt : Nat} (hG : Good L N fs) (hid : fieldsOf L id = fs)
    (hsub : ∀ k, k < fs.length → (fs.getD k zf).kind = 4 ∨ (fs.getD k zf).kind = 5 → KeepsS sub (fs.getD k zf).n ∧ FS L s sub rsub (fs.getD k zf).n) (hl2 : limit ≤ s.size) :
    ∀ (t : List Fld) (k : Nat) (d : Dr) (σ σ' : Ws) (nums : List Int) (ps : List Pt), t = fs.drop k → k ≤ fs.length → LInv s fs start k d σ nums → flds s rsub id depth start limit cnt fs k = .ok (σ.st.length, nums, ps) → cnt + ps.length = σ.parts →
      wflds sub fs start t k d σ = some σ' → Fits s.data.toList start σ' → σ'.st.length ≤ limit →
      ∃ nums' qs, flds s rsub id depth start limit cnt fs fs.length = .ok (σ'.st.length, nums', ps ++ qs) ∧ cnt + (ps ++ qs).length = σ'.parts ∧ σ.vals = valsOf L s qs ++ σ'.vals
  | [], k, d, σ, σ', nums, ps, ht, hk, hI, hr, hc, e, hF, hl => by
    rw [wflds] at e
    cases e
    have hk2 : k = fs.length := by
      have := congrArg List.length ht
      simp only [List.length_nil, List.length_drop] at this
      omega
    subst hk2
    exact ⟨nums, [], by rw [hr, List.append_nil], by rw [List.append_nil]; exact hc, rfl⟩
  | f :: t, k, d, σ, σ', nums, ps, ht, hk, hI, hr, hc, e, hF, hl => by
    obtain ⟨hk, rfl, ht2⟩ := drop_cons ht
    rw [wflds, Option.bind_eq_some_iff] at e
    obtain ⟨p, e1, e2⟩ := e
    have hks : ∀ k, k < fs.length → (fs.getD k zf).kind = 4 ∨ (fs.getD k zf).kind = 5 → KeepsS sub (fs.getD k zf).n := fun k hk hkd => (hsub k hk hkd).1
    obtain ⟨g1, g2⟩ := wnext_out (hG.ok k hk) hI.lens (fun hkd => (hks k hk hkd).grows) hI.win e1
    obtain ⟨h5, e3⟩ := wnext_eq e1
    have hK := wkind_keep (hG.ok k hk) hI.lens (hks k hk) (winMore hI.win) e3
    obtain ⟨r1, r2, r3, r5, r4⟩ := wflds_keep hG hks t (k + 1) _ _ σ' ht2 (by simp [hI.lens]) g1 e2
    have hA : Ag s start ⟨d.counts ++ [p.1], d.lens ++ [p.2.1]⟩ (fs.drop (k + 1)) p.2.2 := fun i i1 i2 i3 i4 => by
      rw [hF.st i i1 (Nat.lt_of_lt_of_le i2 r2) (r3.out i2 i3)]
      exact r4 i i2 (by rw [ht2]; exact i4)
    obtain ⟨n, qs, a1, a2, a3, a4, a5⟩ := fwd_kind hG hk hI hid (hsub k hk) e3 hA (fun c hc => hF.ck c (r3.sub hc)) (Nat.le_trans r2 hl) hl2 (id := id) (depth := depth)
    have hI2 : LInv s fs start (k + 1) ⟨d.counts ++ [p.1], d.lens ++ [p.2.1]⟩ p.2.2 (nums ++ [n]) := hI.next ⟨hK.st, hK.ck, hK.box_, hK.top⟩ g1 g2 a4 a5
    have hr2 : flds s rsub id depth start limit cnt fs (k + 1) = .ok (p.2.2.st.length, nums ++ [n], ps ++ (⟨depth, id, (k : Int), (σ.st.length : Nat), (p.2.2.st.length : Nat), n⟩ :: qs)) := by
      rw [flds, hr]
      simp only
      have hn : next s rsub id depth start limit k (fs.getD k zf) nums σ.st.length (cnt + ps.length) = .ok (p.2.2.st.length, n, qs) := by
        unfold next
        rw [if_neg (by omega), hc]
        exact a1
      rw [hn]
    obtain ⟨nums', qs', b1, b2, b3⟩ := fwd_flds hG hid hsub hl2 t (k + 1) _ p.2.2 σ' _ _ ht2 (by omega) hI2 hr2 (by rw [List.length_append, List.length_cons]; omega) e2 hF hl
    rw [List.append_assoc] at b1 b2
    exact ⟨nums', _, b1, b2, by rw [valsOf_app, List.append_assoc, ← b3]; exact a3⟩
theorem fwd_val {L : List Fm} (h : Ok L) (s : ByteArray) : ∀ (n : Nat) (id : Int) (i : Nat), At L id i → i < n → FS L s (wval L n) (val L s n) id
  | 0, _, _, _, hi => absurd hi (Nat.not_lt_zero _)
  | n + 1, id, i, hat, hi => fun σ σ' e ht hF depth limit hl hl2 => by
    have e : wflds (wval L n) (fieldsOf L id) σ.st.length (fieldsOf L id) 0 ⟨[], []⟩ σ = some σ' := e
    have hfo := fieldsOf_at h hat
    rw [hfo] at e
    obtain ⟨nums', qs, b1, b2, b3⟩ := fwd_flds (cnt := σ.parts) (depth := depth) (good_of h hat.1 (show i ≤ n by omega)) hfo (fun k hk hkd => by
      obtain ⟨-, j, hj, hjn⟩ := (fokw_of h hat.1 (show i ≤ n by omega) hk).ok.k4 hkd
      exact ⟨wval_keeps h n _ j hj hjn, fwd_val h s n _ j hj hjn⟩) hl2 _ 0 ⟨[], []⟩ σ σ' [] [] rfl (Nat.zero_le _) (LInv.first ht) rfl rfl e hF hl
    refine ⟨qs, ?_, b2.symm, b3⟩
    show Rec.ends (flds s (val L s n) id depth σ.st.length limit σ.parts (fieldsOf L id) (fieldsOf L id).length) = _
    rw [hfo, b1]
    rfl
/-! the checksums that are laid -/
theorem sumOf_ext {S T : List UInt8} {n : Nat} (h : ∀ i, i < n → S[i]? = T[i]?) : sumOf S n = sumOf T n := by
  unfold sumOf
  congr 1
  apply List.ext_getElem?
  intro i
  rw [List.getElem?_take, List.getElem?_take]
  split
  · exact h i (by assumption)
  · rfl
theorem lay_all : ∀ (cs : List Ck) (st : List UInt8), (∀ c, c ∈ cs → c.1 ≤ c.2.1 ∧ c.2.1 + c.2.2 ≤ st.length) → cs.Pairwise (fun a b => a.2.1 + a.2.2 ≤ b.2.1) →
    (layAll st cs).length = st.length ∧ (∀ i, ¬ InC cs i → (layAll st cs)[i]? = st[i]?) ∧ ∀ c, c ∈ cs → chk (layAll st cs) c
  | [], st, _, _ => ⟨rfl, fun _ _ => rfl, fun _ h => absurd h (List.not_mem_nil)⟩
  | c :: t, st, hc, hp => by
    rw [List.pairwise_cons] at hp
    have h0 := hc c (List.mem_cons_self ..)
    have hb : c.2.1 + (nbytes c.2.2 ((sumOf st c.2.1 - sumOf st c.1) % 256 ^ c.2.2)).length ≤ st.length := by rw [nbytes_len]; exact h0.2
    have hl : (lay1 st c).length = st.length := patch_len _ _ _ hb
    obtain ⟨a1, a2, a3⟩ := lay_all t (lay1 st c) (fun x hx => by rw [hl]; exact hc x (List.mem_cons_of_mem _ hx)) hp.2
    have e : layAll st (c :: t) = layAll (lay1 st c) t := rfl
    rw [e]
    have hlow : ∀ i, i < c.2.1 + c.2.2 → ¬ InC t i := fun i hi => by
      rintro ⟨x, hx, h1, _⟩
      have := hp.1 x hx
      omega
    have hbef : ∀ i, i < c.2.1 → (layAll (lay1 st c) t)[i]? = st[i]? := fun i hi => by
      rw [a2 i (hlow i (by omega))]
      exact patch_out hb (.inl hi)
    refine ⟨by rw [a1, hl], fun i hi => ?_, fun x hx => ?_⟩
    · rw [a2 i fun ⟨x, hx, h1⟩ => hi ⟨x, List.mem_cons_of_mem _ hx, h1⟩]
      refine patch_out hb ?_
      rw [nbytes_len]
      apply Classical.byContradiction
      intro hn
      exact hi ⟨c, List.mem_cons_self .., by omega, by omega⟩
    · rcases List.mem_cons.1 hx with rfl | hx
      · unfold chk
        rw [sumOf_ext (T := st) (n := x.1) (fun i hi => hbef i (by omega)), sumOf_ext (T := st) (n := x.2.1) hbef]
        have e2 := seg_all (nbytes x.2.2 ((sumOf st x.2.1 - sumOf st x.1) % 256 ^ x.2.2))
        rw [nbytes_len] at e2
        rw [← e2]
        refine seg_ext fun i hi => ?_
        rw [a2 _ (hlow _ (by omega)), Nat.zero_add]
        exact patch_in hb (by rw [nbytes_len]; exact hi)
      · exact a3 x hx
theorem start_tame {vs : List ByteArray} (h : Short vs) : Tame ⟨[], vs, 0, []⟩ := ⟨h, Nat.le_refl _, fun _ h => absurd h (List.not_mem_nil), .nil⟩
theorem later_strict {σ σ' : Ws} (h : Later σ σ') (h0 : σ.checks = []) : σ'.checks.Pairwise fun a b => a.2.1 + a.2.2 ≤ b.2.1 := by
  obtain ⟨x, e, _, h2⟩ := h
  rw [e, h0]
  exact h2
theorem writ_some {L : List Fm} {id : Int} {vs : List ByteArray} {s : ByteArray} (h : writ L id vs = some s) : Ok L ∧ ∃ i σ, At L id i ∧ wval L 61 id ⟨[], vs, 0, []⟩ = some σ ∧ σ.vals = [] ∧ s = bytesOf (layAll σ.st σ.checks) := by
  unfold writ at h
  split at h
  · rename_i hv
    unfold wwhole at h
    split at h
    · rename_i hh
      rw [Option.bind_eq_some_iff] at h
      obtain ⟨σ, e1, e2⟩ := h
      split at e2
      · rename_i hvs
        cases e2
        obtain ⟨i, ha⟩ := has_iff.1 hh
        exact ⟨vd_iff.1 hv, i, σ, ha, e1, hvs, rfl⟩
      · cases e2
    · cases h
  · cases h
/-- A stream that is written is of the format, and has the values that were given. -/
theorem wrote {L : List Fm} {id : Int} {vs : List ByteArray} {s : ByteArray} (h : writ L id vs = some s) (hs : Short vs) : ∃ ps, mtch L id s = .ok ps ∧ valsOf L s ps = vs := by
  obtain ⟨hok, i, σ, ha, e1, e2, rfl⟩ := writ_some h
  have hi : i < 61 := by have := ha.1; have := hok.few; omega
  obtain ⟨ht, hk⟩ := wval_keeps hok 61 id i ha hi _ _ e1 (start_tame hs)
  obtain ⟨a1, a2, a3⟩ := lay_all σ.checks σ.st (fun c hc => ⟨(ht.each c hc).1, (ht.each c hc).2.2.2⟩) (later_strict hk.ck rfl)
  have hF : Fits (bytesOf (layAll σ.st σ.checks)).data.toList 0 σ := ⟨fun i _ _ h3 => a2 i h3, fun c hc _ => a3 c hc⟩
  have hsz : (bytesOf (layAll σ.st σ.checks)).size = σ.st.length := by rw [← size_list, bytes_list, a1]
  obtain ⟨ps, b1, b2, b3⟩ := fwd_val hok _ 61 id i ha hi _ _ e1 (start_tame hs) hF 0 σ.st.length (Nat.le_refl _) (by rw [hsz]; exact Nat.le_refl _)
  refine ⟨ps, ?_, ?_⟩
  · unfold mtch whole
    rw [if_pos ⟨vd_iff.2 hok, by rw [hsz]; exact hk.top (Nat.zero_le _)⟩, if_pos (has_iff.2 ⟨i, ha⟩), hsz, show val L (bytesOf (layAll σ.st σ.checks)) 61 id 0 0 σ.st.length 0 = _ from b1]
    simp only
    rw [if_neg (by omega)]
  · rw [e2, List.append_nil] at b3
    exact b3.symm
/-! more values are not taken -/
def addV (r : List ByteArray) (σ : Ws) : Ws := { σ with vals := σ.vals ++ r }
abbrev More (sub : WSub) (id : Int) (r : List ByteArray) : Prop := ∀ σ σ', sub id σ = some σ' → sub id (addV r σ) = some (addV r σ')
theorem more_reps {sub : WSub} {id : Int} {r : List ByteArray} (h : More sub id r) : ∀ n σ σ', wreps sub id n σ = some σ' → wreps sub id n (addV r σ) = some (addV r σ')
  | 0, σ, σ', e => by rw [wreps] at e ⊢; cases e; rfl
  | n + 1, σ, σ', e => by
    rw [wreps, Option.bind_eq_some_iff] at e
    obtain ⟨σ1, e1, e2⟩ := e
    rw [wreps, h _ _ e1]
    exact more_reps h n _ _ e2
def addL (r : List ByteArray) (p : Rec.Left) : Rec.Left := (p.1, p.2.1, addV r p.2.2)
theorem more_addW {r : List ByteArray} {b : List UInt8} {σ σ' : Ws} (e : addW σ b = some σ') : addW (addV r σ) b = some (addV r σ') := by
  unfold addW at e ⊢
  split at e
  · rename_i h
    cases e
    rw [if_pos (by exact h)]; rfl
  · cases e
theorem more_nextW {r : List ByteArray} {x : ByteArray} {σ σ' : Ws} (e : nextW σ = some (x, σ')) : nextW (addV r σ) = some (x, addV r σ') := by
  obtain ⟨h1, h2⟩ := nextW_eq e
  unfold nextW addV
  simp only [h2, List.cons_append]
  rw [h1]
theorem more_fill {r : List ByteArray} {h : Nat × Nat} {n : Int} {σ σ' : Ws} (e : fill σ h n = some σ') : fill (addV r σ) h n = some (addV r σ') := by
  obtain ⟨h1, rfl⟩ := fill_eq e
  unfold fill
  rw [if_pos h1]; rfl
theorem more_kind {sub : WSub} {fs : List Fld} {start k : Nat} {f : Fld} {d : Dr} {r : List ByteArray} {σ : Ws} {p : Rec.Left} (hsub : f.kind = 4 ∨ f.kind = 5 → More sub f.n r) (e : wkind sub fs start k f d σ = some p) : wkind sub fs start k f d (addV r σ) = some (addL r p) := by
  unfold wkind at e ⊢
  split at e
  · rename_i h1
    rw [if_pos h1]
    unfold wtext at e ⊢
    rw [Option.map_eq_some_iff] at e
    obtain ⟨σ1, e1, rfl⟩ := e
    rw [more_addW e1]; rfl
  · rename_i h1
    rw [if_neg h1]
    split at e
    · rename_i h2
      rw [if_pos h2]
      split at e
      · rename_i hw
        rw [if_pos hw]
        unfold wwait at e ⊢
        rw [Option.map_eq_some_iff] at e
        obtain ⟨σ1, e1, rfl⟩ := e
        rw [more_addW e1]; rfl
      · rename_i hw
        rw [if_neg hw]
        unfold wgiven at e ⊢
        rw [Option.bind_eq_some_iff] at e
        obtain ⟨⟨x, σ0⟩, e0, e⟩ := e
        rw [more_nextW e0]
        simp only [Option.bind_some] at e ⊢
        split at e
        · rename_i hx
          rw [if_pos hx]
          rw [Option.map_eq_some_iff] at e
          obtain ⟨σ1, e1, rfl⟩ := e
          rw [more_addW e1]; rfl
        · cases e
    · rename_i h2
      rw [if_neg h2]
      split at e
      · rename_i h3
        rw [if_pos h3]
        unfold wbytes at e ⊢
        rw [Option.bind_eq_some_iff] at e
        obtain ⟨⟨x, σ0⟩, e0, e⟩ := e
        rw [Option.bind_eq_some_iff] at e
        obtain ⟨σ1, e1, e⟩ := e
        rw [more_nextW e0]
        simp only [Option.bind_some]
        rw [more_addW e1]
        simp only [Option.bind_some] at e ⊢
        split at e
        · rename_i hfm
          rw [if_pos hfm]
          split at e
          · rename_i hx
            rw [if_pos hx]
            cases e; rfl
          · cases e
        · rename_i hfm
          rw [if_neg hfm]
          rw [Option.map_eq_some_iff] at e
          obtain ⟨σ2, e2, rfl⟩ := e
          rw [more_fill e2]; rfl
      · rename_i h3
        rw [if_neg h3]
        split at e
        · rename_i h4
          rw [if_pos h4]
          unfold wlist at e ⊢
          rw [Option.map_eq_some_iff] at e
          obtain ⟨σ1, e1, rfl⟩ := e
          rw [more_reps (hsub (.inl h4)) _ _ _ e1]; rfl
        · rename_i h4
          rw [if_neg h4]
          split at e
          · rename_i h5
            rw [if_pos h5]
            unfold winside at e ⊢
            rw [Option.bind_eq_some_iff] at e
            obtain ⟨σ1, e1, e⟩ := e
            rw [hsub (.inr h5) _ _ e1]
            simp only [Option.bind_some]
            rw [Option.map_eq_some_iff] at e
            obtain ⟨σ2, e2, rfl⟩ := e
            rw [show fill (addV r σ1) (d.lens.getD f.frm.toNat (0, 0)) (((addV r σ1).st.length : Int) - (addV r σ).st.length) = some (addV r σ2) from more_fill e2]; rfl
          · rename_i h5
            rw [if_neg h5]
            unfold wcheck at e ⊢
            rw [Option.map_eq_some_iff] at e
            obtain ⟨σ1, e1, rfl⟩ := e
            rw [more_addW e1]; rfl
theorem more_flds {sub : WSub} {fs : List Fld} {start : Nat} {r : List ByteArray} : ∀ (t : List Fld), (∀ f, f ∈ t → f.kind = 4 ∨ f.kind = 5 → More sub f.n r) → ∀ k d σ σ', wflds sub fs start t k d σ = some σ' → wflds sub fs start t k d (addV r σ) = some (addV r σ')
  | [], _, _, _, _, _, e => by rw [wflds] at e ⊢; cases e; rfl
  | f :: t, h, k, d, σ, σ', e => by
    rw [wflds, Option.bind_eq_some_iff] at e
    obtain ⟨p, e1, e2⟩ := e
    obtain ⟨h5, e3⟩ := wnext_eq e1
    have e4 := more_kind (r := r) (h f (List.mem_cons_self ..)) e3
    have e5 : wnext sub fs start k f d (addV r σ) = some (addL r p) := by
      unfold wnext
      rw [if_pos (by exact h5)]
      exact e4
    rw [wflds, e5]
    exact more_flds t (fun g hg => h g (List.mem_cons_of_mem _ hg)) _ _ _ _ e2
theorem more_val {L : List Fm} (h : Ok L) (r : List ByteArray) : ∀ (n : Nat) (id : Int) (i : Nat), At L id i → i < n → More (wval L n) id r
  | 0, _, _, _, hi => absurd hi (Nat.not_lt_zero _)
  | n + 1, id, i, hat, hi => fun σ σ' e => by
    have e : wflds (wval L n) (fieldsOf L id) σ.st.length (fieldsOf L id) 0 ⟨[], []⟩ σ = some σ' := e
    show wflds (wval L n) (fieldsOf L id) σ.st.length (fieldsOf L id) 0 ⟨[], []⟩ (addV r σ) = some (addV r σ')
    refine more_flds _ (fun f hf hkd => ?_) _ _ _ _ e
    rw [fieldsOf_at h hat] at hf
    obtain ⟨k, hk, rfl⟩ := mem_getD hf
    obtain ⟨-, j, hj, hjn⟩ := (fokw_of h hat.1 (show i ≤ n by omega) hk).ok.k4 hkd
    exact more_val h r n _ j hj hjn
/-- With one value more there is no stream. -/
theorem wrote_more {L : List Fm} {id : Int} {vs : List ByteArray} {s : ByteArray} (h : writ L id vs = some s) (x : ByteArray) : writ L id (vs ++ [x]) = none := by
  obtain ⟨hok, i, σ, ha, e1, e2, -⟩ := writ_some h
  have hi : i < 61 := by have := ha.1; have := hok.few; omega
  have e3 : wval L 61 id ⟨[], vs ++ [x], 0, []⟩ = some (addV [x] σ) := more_val hok [x] 61 id i ha hi _ _ e1
  unfold writ wwhole
  rw [if_pos (vd_iff.2 hok), if_pos (has_iff.2 ⟨i, ha⟩), e3]
  simp only [Option.bind_some]
  rw [if_neg (by unfold addV; rw [e2]; simp)]
end Rt
end RtC
section RtP
open Go.RowKit Fx Rec
namespace Rt

/-- A part from lo to hi. -/
def PartOk (L : List Fm) (lo hi : Nat) (p : Pt) : Prop := ∃ i k st en : Nat, At L p.format i ∧ p.field = k ∧ k < (L.getD i zm).fs.length ∧ p.start = st ∧ p.stop = en ∧ lo ≤ st ∧ st ≤ en ∧ en ≤ hi
theorem PartOk.wide {L : List Fm} {lo hi lo' hi' : Nat} {p : Pt} (h : PartOk L lo hi p) (h1 : lo' ≤ lo) (h2 : hi ≤ hi') : PartOk L lo' hi' p := by
  obtain ⟨i, k, st, en, a, b, c, d, e, f, g, j⟩ := h
  exact ⟨i, k, st, en, a, b, c, d, e, by omega, g, by omega⟩
def PsOk (L : List Fm) (lo hi cnt : Nat) (ps : List Pt) : Prop := (∀ p, p ∈ ps → PartOk L lo hi p) ∧ (cnt ≤ 5000 → cnt + ps.length ≤ 5000)
abbrev SP (L : List Fm) (sub : Sub) (id : Int) : Prop := ∀ d a l c e ps, sub id d a l c = .ok (e, ps) → a ≤ l → PsOk L a e c ps
theorem psok_nil (L : List Fm) (lo hi cnt : Nat) : PsOk L lo hi cnt [] := ⟨fun _ h => absurd h (List.not_mem_nil), fun h => h⟩
theorem PsOk.app {L : List Fm} {lo m hi cnt : Nat} {ps qs : List Pt} (h : PsOk L lo m cnt ps) (g : PsOk L m hi (cnt + ps.length) qs) (h1 : lo ≤ m) (h2 : m ≤ hi) : PsOk L lo hi cnt (ps ++ qs) := by
  refine ⟨fun p hp => ?_, fun hc => ?_⟩
  · rcases List.mem_append.1 hp with hp | hp
    · exact (h.1 p hp).wide (Nat.le_refl _) h2
    · exact (g.1 p hp).wide h1 (Nat.le_refl _)
  · have := g.2 (h.2 hc)
    rw [List.length_append]
    omega
theorem reps_parts {L : List Fm} {sub : Sub} {id : Int} (h : SP L sub id) (hW : Within sub) {depth : Int} {limit at_ cnt : Nat} (hl : at_ ≤ limit) : ∀ {n e : Nat} {ps : List Pt}, reps sub id depth limit at_ cnt n = .ok (e, ps) → PsOk L at_ e cnt ps
  | 0, e, ps, hr => by
    rw [reps] at hr
    cases hr
    exact psok_nil _ _ _ _
  | n + 1, e, ps, hr => by
    rw [reps] at hr
    split at hr
    · cases hr
    · rename_i e1 ps1 h1
      have i1 := reps_in hW hl h1
      split at hr
      · cases hr
      · rename_i e2 qs h2
        cases hr
        have i2 := hW _ _ _ _ _ _ _ h2 i1.2
        exact (reps_parts h hW hl h1).app (h _ _ _ _ _ _ h2 i1.2) i1.1 i2.1
theorem kind_parts {L : List Fm} {s : ByteArray} {sub : Sub} {id depth : Int} {start limit k : Nat} {f : Fld} {nums : List Int} {at_ cnt : Nat} {y : Nat × Int × List Pt} (h : f.kind = 4 ∨ f.kind = 5 → SP L sub f.n) (hW : Within sub) (hl : at_ ≤ limit)
    (hr : kind s sub id depth start limit k f nums at_ cnt = .ok y) : PsOk L at_ y.1 cnt y.2.2 := by
  unfold kind at hr
  split at hr
  · obtain ⟨_, g2⟩ := short_ok hr
    obtain ⟨_, g4⟩ := unless_ok g2
    cases g4
    exact psok_nil _ _ _ _
  · split at hr
    · obtain ⟨_, g2⟩ := short_ok hr
      cases g2
      exact psok_nil _ _ _ _
    · split at hr
      · split at hr
        · obtain ⟨_, g2⟩ := short_ok hr
          cases g2
          exact psok_nil _ _ _ _
        · obtain ⟨_, g2⟩ := short_ok hr
          cases g2
          exact psok_nil _ _ _ _
      · split at hr
        · rename_i h4
          exact reps_parts (h (.inl h4)) hW hl (listed_ok hr).1
        · split at hr
          · rename_i h5
            obtain ⟨_, g2⟩ := short_ok hr
            exact h (.inr h5) _ _ _ _ _ _ (boxed_ok g2).1 (by omega)
          · obtain ⟨_, g2⟩ := short_ok hr
            obtain ⟨_, g4⟩ := unless_ok g2
            cases g4
            exact psok_nil _ _ _ _
theorem flds_parts {L : List Fm} {s : ByteArray} {sub : Sub} {id depth : Int} {start limit cnt i : Nat} {fs : List Fld} (hat : At L id i) (hfs : (L.getD i zm).fs = fs) (h : ∀ k, k < fs.length → (fs.getD k zf).kind = 4 ∨ (fs.getD k zf).kind = 5 → SP L sub (fs.getD k zf).n) (hW : Within sub) (hl : start ≤ limit) :
    ∀ {k e : Nat} {nums : List Int} {ps : List Pt}, k ≤ fs.length → flds s sub id depth start limit cnt fs k = .ok (e, nums, ps) → PsOk L start e cnt ps
  | 0, e, nums, ps, _, hr => by
    rw [flds] at hr
    cases hr
    exact psok_nil _ _ _ _
  | k + 1, e, nums, ps, hk, hr => by
    rw [flds] at hr
    split at hr
    · cases hr
    · rename_i at1 nums1 ps1 h1
      obtain ⟨i1, i2, -⟩ := flds_in hW hl h1
      split at hr
      · cases hr
      · rename_i e2 n qs h2
        cases hr
        have i3 := next_in hW i2 h2
        refine (flds_parts hat hfs h hW hl (by omega) h1).app ?_ i1 i3.2.1
        unfold next at h2
        rw [if_neg (by omega)] at h2
        obtain ⟨q1, q2⟩ := kind_parts (L := L) (h k (by omega)) hW i2 h2
        refine ⟨fun p hp => ?_, fun hc => ?_⟩
        · rcases List.mem_cons.1 hp with rfl | hp
          · exact ⟨i, k, at1, e, hat, rfl, by rw [hfs]; omega, rfl, rfl, Nat.le_refl _, i3.2.1, Nat.le_refl _⟩
          · exact q1 p hp
        · have := q2 (by omega)
          rw [List.length_cons]
          simp only at this
          omega
theorem val_parts {L : List Fm} (h : Ok L) (s : ByteArray) : ∀ (n : Nat) (id : Int) (i : Nat), At L id i → SP L (val L s n) id
  | 0, _, _, _ => fun _ _ _ _ _ _ hr _ => by rw [val] at hr; cases hr
  | n + 1, id, i, hat => fun d a l c e ps hr hl => by
    have hr : Rec.ends (flds s (val L s n) id d a l c (fieldsOf L id) (fieldsOf L id).length) = .ok (e, ps) := hr
    rw [fieldsOf_at h hat] at hr
    obtain ⟨nums, hr⟩ := ends_ok hr
    exact flds_parts hat rfl (fun k hk hkd => by
      obtain ⟨_, j, hj, _⟩ := (fok_of h hat.1 (Nat.le_refl i) hk).k4 hkd
      exact val_parts h s n _ j hj) (val_in L s n) hl (Nat.le_refl _) hr
theorem mtch_ok {L : List Fm} {id : Int} {s : ByteArray} {ps : List Pt} (h : mtch L id s = .ok ps) : Ok L ∧ s.size ≤ 65536 ∧ ∃ i, At L id i ∧ val L s 61 id 0 0 s.size 0 = .ok (s.size, ps) := by
  unfold mtch at h
  split at h
  · rename_i hv
    obtain ⟨hv, hs⟩ := hv
    unfold whole at h
    split at h
    · rename_i hh
      obtain ⟨i, ha⟩ := has_iff.1 hh
      split at h
      · cases h
      · rename_i e ps' hval
        split at h
        · cases h
        · rename_i hle
          cases h
          have hin := val_in L s 61 _ _ _ _ _ _ _ hval (Nat.zero_le _)
          obtain rfl : e = s.size := by omega
          exact ⟨vd_iff.1 hv, hs, i, ha, hval⟩
    · cases h
  · cases h
theorem mtch_parts {L : List Fm} {id : Int} {s : ByteArray} {ps : List Pt} (h : mtch L id s = .ok ps) : (∀ p, p ∈ ps → PartOk L 0 s.size p) ∧ ps.length ≤ 5000 := by
  obtain ⟨hok, _, i, ha, hv⟩ := mtch_ok h
  obtain ⟨h1, h2⟩ := val_parts hok s 61 id i ha _ _ _ _ _ _ hv (Nat.zero_le _)
  exact ⟨h1, by have := h2 (Nat.zero_le _); omega⟩
end Rt
end RtP
section AgrP
open Go.RowKit Fx Rec
namespace Rt

theorem ext_same {s s' : ByteArray} {a n : Nat} (h : ∀ i, a ≤ i → i < a + n → s.data.toList[i]? = s'.data.toList[i]?) : s.extract a (a + n) = s'.extract a (a + n) := by
  rw [ext_seg, ext_seg, seg_ext fun i hi => h (a + i) (by omega) (by omega)]
theorem sumTo_same {s s' : ByteArray} {n : Nat} (h : ∀ i, i < n → s.data.toList[i]? = s'.data.toList[i]?) : sumTo s n = sumTo s' n := sumOf_ext h
theorem byteAt_same {s s' : ByteArray} {i : Nat} (h : s.data.toList[i]? = s'.data.toList[i]?) : byteAt s i = byteAt s' i := by
  have e1 := sumTo_step s i
  have e2 := sumTo_step s' i
  unfold sumTo at e1 e2
  rw [List.take_add_one] at e1 e2
  unfold sumL at e1 e2
  rw [List.map_append, List.sum_append] at e1 e2
  rw [h] at e1
  omega
/-- The bytes between two places. -/
theorem sum_between {s s' : ByteArray} {a : Nat} (h : ∀ i, a ≤ i → s.data.toList[i]? = s'.data.toList[i]?) : ∀ d, sumTo s (a + d) - sumTo s a = sumTo s' (a + d) - sumTo s' a
  | 0 => by simp
  | d + 1 => by
    have := sum_between h d
    rw [← Nat.add_assoc, sumTo_step, sumTo_step, byteAt_same (h (a + d) (by omega))]
    omega
theorem sum_gap {s s' : ByteArray} {p a b : Nat} (h : ∀ i, p ≤ i → s.data.toList[i]? = s'.data.toList[i]?) (hp : p ≤ a) (hab : a ≤ b) : sumTo s b - sumTo s a = sumTo s' b - sumTo s' a := by
  obtain ⟨d, rfl⟩ : ∃ d, b = a + d := ⟨b - a, by omega⟩
  exact sum_between (fun i hi => h i (by omega)) d
/-! streams that agree up to a place -/
abbrev LocS (m : Nat) (sub sub' : Sub) : Prop := ∀ id d a l c e ps, sub id d a l c = .ok (e, ps) → a ≤ l → e ≤ m → sub' id d a l c = .ok (e, ps)
theorem reps_local {m : Nat} {sub sub' : Sub} (h : LocS m sub sub') (hW : Within sub) {id depth : Int} {limit at_ cnt : Nat} (hl : at_ ≤ limit) : ∀ {n e : Nat} {ps : List Pt}, reps sub id depth limit at_ cnt n = .ok (e, ps) → e ≤ m → reps sub' id depth limit at_ cnt n = .ok (e, ps)
  | 0, e, ps, hr, _ => by
    rw [reps] at hr ⊢
    exact hr
  | n + 1, e, ps, hr, he => by
    rw [reps] at hr
    split at hr
    · cases hr
    · rename_i e1 ps1 h1
      have i1 := reps_in hW hl h1
      split at hr
      · cases hr
      · rename_i e2 qs h2
        cases hr
        have i2 := hW _ _ _ _ _ _ _ h2 i1.2
        rw [reps, reps_local h hW hl h1 (by omega)]
        simp only
        rw [h _ _ _ _ _ _ _ h2 i1.2 he]
theorem short_same {id : Int} {k a l n : Nat} {x : Except Rf (Nat × Int × List Pt)} (h : a + n ≤ l) : short id k a l n x = x := by unfold short; rw [if_neg (by omega)]
theorem kind_local {m : Nat} {s s' : ByteArray} (hs : ∀ i, i < m → s.data.toList[i]? = s'.data.toList[i]?) {sub sub' : Sub} (h : LocS m sub sub') (hW : Within sub) {id depth : Int} {start limit k : Nat} {f : Fld} {nums : List Int} {at_ cnt : Nat} {y : Nat × Int × List Pt} (hst : start ≤ at_) (hl : at_ ≤ limit)
    (hr : kind s sub id depth start limit k f nums at_ cnt = .ok y) (hy : y.1 ≤ m) : kind s' sub' id depth start limit k f nums at_ cnt = .ok y := by
  unfold kind at hr ⊢
  split at hr
  · rename_i h1
    rw [if_pos h1]
    obtain ⟨g1, g2⟩ := short_ok hr
    obtain ⟨g3, g4⟩ := unless_ok g2
    cases g4
    simp only at hy
    rw [short_same g1, ← ext_same (s := s) (fun i _ hi => hs i (by omega)), g3]
    rfl
  · rename_i h1
    rw [if_neg h1]
    split at hr
    · rename_i h2
      rw [if_pos h2]
      obtain ⟨g1, g2⟩ := short_ok hr
      cases g2
      simp only at hy
      rw [short_same g1, ← ext_same (s := s) (fun i _ hi => hs i (by omega))]
    · rename_i h2
      rw [if_neg h2]
      split at hr
      · rename_i h3
        rw [if_pos h3]
        exact hr
      · rename_i h3
        rw [if_neg h3]
        split at hr
        · rename_i h4
          rw [if_pos h4]
          obtain ⟨g1, g2⟩ := listed_ok hr
          rw [reps_local h hW hl g1 hy]
          obtain ⟨y1, y2, y3⟩ := y
          simp only at g2
          subst g2
          rfl
        · rename_i h4
          rw [if_neg h4]
          split at hr
          · rename_i h5
            rw [if_pos h5]
            obtain ⟨g1, g2⟩ := short_ok hr
            obtain ⟨g3, g4, g5⟩ := boxed_ok g2
            rw [short_same g1, h _ _ _ _ _ _ _ g3 (by omega) hy]
            rw [g3] at g2
            exact g2
          · rename_i h5
            rw [if_neg h5]
            obtain ⟨g1, g2⟩ := short_ok hr
            obtain ⟨g3, g4⟩ := unless_ok g2
            cases g4
            simp only at hy
            rw [short_same g1, ← ext_same (s := s) (fun i _ hi => hs i (by omega)), ← sumTo_same (s := s) (n := at_) (fun i hi => hs i (by omega)), ← sumTo_same (s := s) (n := start) (fun i hi => hs i (by omega)), g3]
            rfl
theorem next_local {m : Nat} {s s' : ByteArray} (hs : ∀ i, i < m → s.data.toList[i]? = s'.data.toList[i]?) {sub sub' : Sub} (h : LocS m sub sub') (hW : Within sub) {id depth : Int} {start limit k : Nat} {f : Fld} {nums : List Int} {at_ cnt : Nat} {y : Nat × Int × List Pt} (hst : start ≤ at_) (hl : at_ ≤ limit)
    (hr : next s sub id depth start limit k f nums at_ cnt = .ok y) (hy : y.1 ≤ m) : next s' sub' id depth start limit k f nums at_ cnt = .ok y := by
  unfold next at hr ⊢
  split at hr
  · cases hr
  · rename_i hc
    rw [if_neg hc]
    exact kind_local hs h hW hst hl hr hy
theorem flds_local {m : Nat} {s s' : ByteArray} (hs : ∀ i, i < m → s.data.toList[i]? = s'.data.toList[i]?) {sub sub' : Sub} (h : LocS m sub sub') (hW : Within sub) {id depth : Int} {start limit cnt : Nat} {fs : List Fld} (hl : start ≤ limit) :
    ∀ {k e : Nat} {nums : List Int} {ps : List Pt}, flds s sub id depth start limit cnt fs k = .ok (e, nums, ps) → e ≤ m → flds s' sub' id depth start limit cnt fs k = .ok (e, nums, ps)
  | 0, e, nums, ps, hr, _ => by
    rw [flds] at hr ⊢
    exact hr
  | k + 1, e, nums, ps, hr, he => by
    rw [flds] at hr
    split at hr
    · cases hr
    · rename_i at1 nums1 ps1 h1
      obtain ⟨i1, i2, -⟩ := flds_in hW hl h1
      split at hr
      · cases hr
      · rename_i e2 n qs h2
        cases hr
        have i3 := next_in hW i2 h2
        simp only at i3
        rw [flds, flds_local hs h hW hl h1 (by omega)]
        simp only
        rw [next_local hs h hW i1 i2 h2 he]
theorem val_local {m : Nat} {s s' : ByteArray} (hs : ∀ i, i < m → s.data.toList[i]? = s'.data.toList[i]?) (L : List Fm) : ∀ n, LocS m (val L s n) (val L s' n)
  | 0 => fun _ _ _ _ _ _ _ hr _ _ => by rw [val] at hr; cases hr
  | n + 1 => fun id d a l c e ps hr hl he => by
    have hr : Rec.ends (flds s (val L s n) id d a l c (fieldsOf L id) (fieldsOf L id).length) = .ok (e, ps) := hr
    obtain ⟨nums, hr⟩ := ends_ok hr
    show Rec.ends (flds s' (val L s' n) id d a l c (fieldsOf L id) (fieldsOf L id).length) = .ok (e, ps)
    rw [flds_local hs (val_local hs L n) (val_in L s n) hl hr he]
    rfl
/-! streams that agree from a place on -/
abbrev AftS (p : Nat) (sub sub' : Sub) : Prop := ∀ id d a l c, p ≤ a → a ≤ l → sub id d a l c = sub' id d a l c
theorem reps_after {p : Nat} {sub sub' : Sub} (h : AftS p sub sub') (hW : Within sub) {id depth : Int} {limit at_ cnt : Nat} (hp : p ≤ at_) (hl : at_ ≤ limit) : ∀ n, reps sub id depth limit at_ cnt n = reps sub' id depth limit at_ cnt n
  | 0 => rfl
  | n + 1 => by
    rw [reps, reps, ← reps_after h hW hp hl n]
    cases h1 : reps sub id depth limit at_ cnt n with
    | error r => rfl
    | ok y =>
      obtain ⟨e, ps⟩ := y
      have i1 := reps_in hW hl h1
      simp only
      rw [h _ _ _ _ _ (by omega) i1.2]
theorem kind_after {p : Nat} {s s' : ByteArray} (hs : ∀ i, p ≤ i → s.data.toList[i]? = s'.data.toList[i]?) {sub sub' : Sub} (h : AftS p sub sub') (hW : Within sub) {id depth : Int} {start limit k : Nat} {f : Fld} {nums : List Int} {at_ cnt : Nat} (hp : p ≤ at_) (hl : at_ ≤ limit)
    (h6 : f.kind = 1 ∨ f.kind = 2 ∨ f.kind = 3 ∨ f.kind = 4 ∨ f.kind = 5 ∨ sumTo s at_ - sumTo s start = sumTo s' at_ - sumTo s' start) : kind s sub id depth start limit k f nums at_ cnt = kind s' sub' id depth start limit k f nums at_ cnt := by
  unfold kind
  split
  · rw [ext_same (s := s) (fun i hi _ => hs i (by omega))]
  · split
    · rw [ext_same (s := s) (fun i hi _ => hs i (by omega))]
    · split
      · rfl
      · split
        · rw [reps_after h hW hp hl]
        · split
          · unfold short
            split
            · rfl
            · rw [h _ _ _ _ _ hp (by omega)]
          · rename_i h1 h2 h3 h4 h5
            rw [ext_same (s := s) (fun i hi _ => hs i (by omega)), h6.resolve_left h1 |>.resolve_left h2 |>.resolve_left h3 |>.resolve_left h4 |>.resolve_left h5]
theorem flds_after {p : Nat} {s s' : ByteArray} (hs : ∀ i, p ≤ i → s.data.toList[i]? = s'.data.toList[i]?) {sub sub' : Sub} (h : AftS p sub sub') (hW : Within sub) {id depth : Int} {start limit cnt : Nat} {fs : List Fld} (hp : p ≤ start) (hl : start ≤ limit) :
    ∀ k, flds s sub id depth start limit cnt fs k = flds s' sub' id depth start limit cnt fs k
  | 0 => rfl
  | k + 1 => by
    rw [flds, flds, ← flds_after hs h hW hp hl k]
    cases h1 : flds s sub id depth start limit cnt fs k with
    | error r => rfl
    | ok y =>
      obtain ⟨e, nums, ps⟩ := y
      obtain ⟨i1, i2, -⟩ := flds_in hW hl h1
      simp only
      unfold next
      rw [kind_after hs h hW (by omega) i2 (.inr (.inr (.inr (.inr (.inr (sum_gap hs hp i1))))))]
theorem val_after {p : Nat} {s s' : ByteArray} (hs : ∀ i, p ≤ i → s.data.toList[i]? = s'.data.toList[i]?) (L : List Fm) : ∀ n, AftS p (val L s n) (val L s' n)
  | 0 => fun _ _ _ _ _ _ _ => rfl
  | n + 1 => fun id d a l c hp hl => by
    show Rec.ends (flds s (val L s n) id d a l c (fieldsOf L id) (fieldsOf L id).length) = Rec.ends (flds s' (val L s' n) id d a l c (fieldsOf L id) (fieldsOf L id).length)
    rw [flds_after hs (val_after hs L n) (val_in L s n) hp hl]
end Rt
end AgrP
section NotP
open Go.RowKit Fx Rec
namespace Rt

/-- A part with a byte that is checked. -/
def Hit (L : List Fm) (x : Nat) (p : Pt) : Prop := ∃ i k st en : Nat, At L p.format i ∧ p.field = k ∧ k < (L.getD i zm).fs.length ∧ p.start = st ∧ p.stop = en ∧ st ≤ x ∧ x < en ∧
  (((L.getD i zm).fs.getD k zf).kind = 1 ∨ ((L.getD i zm).fs.getD k zf).kind = 3 ∧ ∃ j, k < j ∧ j < (L.getD i zm).fs.length ∧ ((L.getD i zm).fs.getD j zf).kind = 6)
/-- Streams that differ in one byte. -/
structure Diff (s s' : ByteArray) (x : Nat) : Prop where
  lt : x < s.size
  lo : ∀ i, i < x → s.data.toList[i]? = s'.data.toList[i]?
  hi : ∀ i, x + 1 ≤ i → s.data.toList[i]? = s'.data.toList[i]?
  ne : s.data.toList[x]? ≠ s'.data.toList[x]?
  byte : byteAt s x ≠ byteAt s' x
theorem byteAt_bound (s : ByteArray) (i : Nat) : 0 ≤ byteAt s i ∧ byteAt s i ≤ 255 := by
  unfold byteAt
  split
  · have := UInt8.toNat_lt (s[i]'(by assumption)); omega
  · omega
theorem Diff.sums {s s' : ByteArray} {x : Nat} (h : Diff s s' x) {a b : Nat} (ha : a ≤ x) (hb : x < b) : sumTo s' b - sumTo s' a = sumTo s b - sumTo s a + (byteAt s' x - byteAt s x) := by
  have e0 := sumTo_same (s := s) (s' := s') (n := a) (fun i hi => h.lo i (by omega))
  have e1 := sumTo_same (s := s) (s' := s') (n := x) (fun i hi => h.lo i hi)
  have e2 := sum_gap h.hi (Nat.le_refl (x + 1)) (show x + 1 ≤ b by omega)
  have e3 := sumTo_step s x
  have e4 := sumTo_step s' x
  omega
theorem least_of {P : Nat → Prop} (n : Nat) (h : P n) : ∃ j, P j ∧ ∀ k, k < j → ¬ P k := by
  induction n using Nat.strongRecOn with
  | ind n ih =>
    by_cases hx : ∃ k, k < n ∧ P k
    · obtain ⟨k, hk, hp⟩ := hx
      exact ih k hk hp
    · exact ⟨n, h, fun k hk hp => hx ⟨k, hk, hp⟩⟩
theorem mod_ne {S d : Int} {w : Nat} (hw : 1 ≤ w) (h0 : d ≠ 0) (h1 : -255 ≤ d) (h2 : d ≤ 255) : (S + d) % 256 ^ w ≠ S % 256 ^ w := by
  intro h
  have hd : (256 : Int) ∣ 256 ^ w := by
    obtain ⟨v, rfl⟩ : ∃ v, w = v + 1 := ⟨w - 1, by omega⟩
    exact ⟨256 ^ v, by rw [Int.pow_succ, Int.mul_comm]⟩
  have e1 : (S + d) % 256 = S % 256 := by
    rw [← Int.emod_emod_of_dvd (S + d) hd, ← Int.emod_emod_of_dvd S hd, h]
  omega
abbrev NotS (L : List Fm) (x n : Nat) (sub sub' : Sub) (id : Int) : Prop := ∀ d a l c e ps p, sub id d a l c = .ok (e, ps) → a ≤ l → l ≤ n → p ∈ ps → Hit L x p → ∀ y, sub' id d a l c ≠ .ok y
theorem Hit.lo {L : List Fm} {x lo hi : Nat} {p : Pt} (h : Hit L x p) (hp : PartOk L lo hi p) : lo ≤ x := by
  obtain ⟨i, k, st, en, _, _, _, e1, _, e2, _⟩ := h
  obtain ⟨i', k', st', en', _, _, _, f1, _, f2, _⟩ := hp
  omega
theorem reps_not {L : List Fm} {x n : Nat} {sub sub' : Sub} {id : Int} (h : NotS L x n sub sub' id) (hloc : LocS x sub sub') (hP : SP L sub id) (hW : Within sub) {depth : Int} {limit at_ cnt : Nat} (hl : at_ ≤ limit) (hln : limit ≤ n) : ∀ {m e : Nat} {ps : List Pt} {p : Pt}, reps sub id depth limit at_ cnt m = .ok (e, ps) → p ∈ ps → Hit L x p → ∀ y, reps sub' id depth limit at_ cnt m ≠ .ok y
  | 0, e, ps, p, hr, hp, _ => by
    rw [reps] at hr
    cases hr
    exact absurd hp (List.not_mem_nil)
  | m + 1, e, ps, p, hr, hp, hh => fun y hy => by
    rw [reps] at hr
    split at hr
    · cases hr
    · rename_i e1 ps1 h1
      have i1 := reps_in hW hl h1
      split at hr
      · cases hr
      · rename_i e2 qs h2
        cases hr
        rw [reps] at hy
        rcases List.mem_append.1 hp with hp | hp
        · have hn := reps_not h hloc hP hW hl hln h1 hp hh
          split at hy
          · cases hy
          · rename_i e3 ps3 h3
            exact hn _ h3
        · have hlo := hh.lo ((hP _ _ _ _ _ _ h2 i1.2).1 p hp)
          rw [reps_local hloc hW hl h1 hlo] at hy
          simp only at hy
          have hn := h _ _ _ _ _ _ _ h2 i1.2 hln hp hh
          split at hy
          · cases hy
          · rename_i e3 ps3 h3
            exact hn _ h3
/-- Where a part of a value comes from. -/
theorem flds_split {s : ByteArray} {sub : Sub} {id depth : Int} {start limit cnt : Nat} {fs : List Fld} : ∀ {k e : Nat} {nums : List Int} {ps : List Pt} {p : Pt}, flds s sub id depth start limit cnt fs k = .ok (e, nums, ps) → p ∈ ps →
    ∃ k0 at0 nums0 ps0 e0 n0 qs0, k0 < k ∧ flds s sub id depth start limit cnt fs k0 = .ok (at0, nums0, ps0) ∧ next s sub id depth start limit k0 (fs.getD k0 zf) nums0 at0 (cnt + ps0.length) = .ok (e0, n0, qs0) ∧ (p = ⟨depth, id, k0, at0, e0, n0⟩ ∨ p ∈ qs0)
  | 0, e, nums, ps, p, hr, hp => by
    rw [flds] at hr
    cases hr
    exact absurd hp (List.not_mem_nil)
  | k + 1, e, nums, ps, p, hr, hp => by
    rw [flds] at hr
    split at hr
    · cases hr
    · rename_i at1 nums1 ps1 h1
      split at hr
      · cases hr
      · rename_i e2 n qs h2
        cases hr
        rcases List.mem_append.1 hp with hp | hp
        · obtain ⟨k0, at0, nums0, ps0, e0, n0, qs0, a, b⟩ := flds_split h1 hp
          exact ⟨k0, at0, nums0, ps0, e0, n0, qs0, by omega, b⟩
        · exact ⟨k, at1, nums1, ps1, e, n, qs, Nat.lt_succ_self k, h1, h2, List.mem_cons.1 hp⟩
theorem flds_part {s : ByteArray} {sub : Sub} {id depth : Int} {start limit cnt : Nat} {fs : List Fld} {k m : Nat} {y : Nat × List Int × List Pt} (h : flds s sub id depth start limit cnt fs m = .ok y) (hk : k ≤ m) : ∃ z, flds s sub id depth start limit cnt fs k = .ok z := by
  cases hz : flds s sub id depth start limit cnt fs k with
  | ok z => exact ⟨z, rfl⟩
  | error r => rw [flds_le hz hk] at h; cases h
theorem flds_next {s : ByteArray} {sub : Sub} {id depth : Int} {start limit cnt : Nat} {fs : List Fld} {k m at_ : Nat} {nums : List Int} {ps : List Pt} {y : Nat × List Int × List Pt} (h : flds s sub id depth start limit cnt fs m = .ok y) (hk : k < m) (h1 : flds s sub id depth start limit cnt fs k = .ok (at_, nums, ps)) :
    ∃ e n qs, next s sub id depth start limit k (fs.getD k zf) nums at_ (cnt + ps.length) = .ok (e, n, qs) ∧ flds s sub id depth start limit cnt fs (k + 1) = .ok (e, nums ++ [n], ps ++ (⟨depth, id, k, at_, e, n⟩ :: qs)) := by
  obtain ⟨z, hz⟩ := flds_part h (show k + 1 ≤ m from hk)
  rw [flds, h1] at hz
  simp only at hz
  split at hz
  · cases hz
  · rename_i e n qs h2
    refine ⟨e, n, qs, h2, ?_⟩
    rw [flds, h1]
    simp only
    rw [h2]
theorem next_kind {s : ByteArray} {sub : Sub} {id depth : Int} {start limit k : Nat} {f : Fld} {nums : List Int} {at_ cnt : Nat} {y : Nat × Int × List Pt} (h : next s sub id depth start limit k f nums at_ cnt = .ok y) : cnt < 5000 ∧ kind s sub id depth start limit k f nums at_ (cnt + 1) = .ok y := by
  unfold next at h
  split at h
  · cases h
  · exact ⟨by omega, h⟩
set_option maxHeartbeats 1000000 in
theorem flds_not {L : List Fm} {N x n i : Nat} {s s' : ByteArray} {sub sub' : Sub} {id depth : Int} {start limit cnt : Nat} {fs : List Fld} (hD : Diff s s' x) (hG : Good L N fs) (hat : At L id i) (hok : Ok L) (hfs : (L.getD i zm).fs = fs) (hsub : ∀ k, k < fs.length → (fs.getD k zf).kind = 4 ∨ (fs.getD k zf).kind = 5 → NotS L x n sub sub' (fs.getD k zf).n ∧ SP L sub (fs.getD k zf).n)
    (hloc : LocS x sub sub') (haft : AftS (x + 1) sub sub') (hW : Within sub) (hl : start ≤ limit) (hln : limit ≤ n) {e : Nat} {nums : List Int} {ps : List Pt} {p : Pt} (hr : flds s sub id depth start limit cnt fs fs.length = .ok (e, nums, ps)) (hp : p ∈ ps) (hh : Hit L x p) : ∀ y, flds s' sub' id depth start limit cnt fs fs.length ≠ .ok y := fun y hy => by
  obtain ⟨k0, at0, nums0, ps0, e0, n0, qs0, hk0, h1, h2, h3⟩ := flds_split hr hp
  obtain ⟨i1, i2, -⟩ := flds_in hW hl h1
  obtain ⟨hc, hk⟩ := next_kind h2
  have i3 := next_in hW i2 h2
  simp only at i3
  -- up to the field, both are the same
  have hlo : at0 ≤ x := by
    rcases h3 with rfl | h3
    · obtain ⟨_, _, st, _, _, _, _, e1, _, e2, _⟩ := hh
      simp only at e1
      omega
    · exact hh.lo ((kind_parts (L := L) (fun hkd => (hsub k0 hk0 hkd).2) hW i2 hk).1 p h3)
  have h1' := flds_local hD.lo hloc hW hl h1 hlo
  obtain ⟨e', n', qs', h2', h1s'⟩ := flds_next hy hk0 h1'
  obtain ⟨_, hk'⟩ := next_kind h2'
  rcases h3 with rfl | h3
  · -- the part is the field's own
    obtain ⟨i', k, st, en, a1, a2, a3, a4, a5, a6, a7, a8⟩ := hh
    simp only at a1 a2 a4 a5
    obtain rfl : i' = i := by
      have b1 := a1.2
      have b2 := hat.2
      rcases Nat.lt_trichotomy i' i with c | c | c
      · have := asc_lt hok.asc c hat.1; omega
      · exact c
      · have := asc_lt hok.asc c a1.1; omega
    obtain rfl : k0 = k := by omega
    obtain rfl : at0 = st := by omega
    obtain rfl : e0 = en := by omega
    rw [hfs] at a3 a8
    rcases a8 with h | ⟨h, j, j1, j2, j3⟩
    · unfold kind at hk hk'
      rw [if_pos h] at hk hk'
      obtain ⟨g1, g2⟩ := short_ok hk
      obtain ⟨g3, g4⟩ := unless_ok g2
      cases g4
      obtain ⟨f1, f2⟩ := short_ok hk'
      obtain ⟨f3, f4⟩ := unless_ok f2
      have q1 : s.extract at0 (at0 + (fs.getD k0 zf).text.size) = (fs.getD k0 zf).text := by simpa using g3
      have q2 : s'.extract at0 (at0 + (fs.getD k0 zf).text.size) = (fs.getD k0 zf).text := by simpa using f3
      have q3 := congrArg (fun b : ByteArray => b.data.toList[x - at0]?) (q1.trans q2.symm)
      simp only [ext_seg, bytes_list, seg_get] at q3
      rw [if_pos (by omega), if_pos (by omega), show at0 + (x - at0) = x by omega] at q3
      exact hD.ne q3
    · -- the first checksum behind it
      obtain ⟨j, ⟨j1, j2, j3⟩, hmin⟩ : ∃ j, (k0 < j ∧ j < fs.length ∧ (fs.getD j zf).kind = 6) ∧ ∀ k, k < j → ¬ (k0 < k ∧ k < fs.length ∧ (fs.getD k zf).kind = 6) := by
        exact least_of (P := fun j => k0 < j ∧ j < fs.length ∧ (fs.getD j zf).kind = 6) j ⟨j1, j2, j3⟩
      obtain ⟨_, _, _, h2b, h1s⟩ := flds_next hr hk0 h1
      rw [h2] at h2b
      cases h2b
      have he : e' = e0 ∧ n' = n0 ∧ qs' = qs0 := by
        unfold kind at hk hk'
        rw [if_neg (by omega), if_neg (by omega), if_pos h] at hk hk'
        rw [hk] at hk'
        cases hk'
        exact ⟨rfl, rfl, rfl⟩
      obtain ⟨rfl, rfl, rfl⟩ := he
      have hstep : ∀ d, k0 + 1 + d ≤ fs.length → ∀ a nu pz, flds s sub id depth start limit cnt fs (k0 + 1 + d) = .ok (a, nu, pz) → e' ≤ a := fun d => by
        induction d with
        | zero =>
          intro _ a nu pz hq
          rw [Nat.add_zero, h1s] at hq
          cases hq
          exact Nat.le_refl _
        | succ d ihd =>
          intro hd a nu pz hq
          obtain ⟨⟨a0, nu0, pz0⟩, hq0⟩ := flds_part hr (show k0 + 1 + d ≤ fs.length by omega)
          have r1 := ihd (by omega) a0 nu0 pz0 hq0
          obtain ⟨r2, r3, -⟩ := flds_in hW hl hq0
          obtain ⟨e9, n9, qs9, hn9, hf9⟩ := flds_next hr (show k0 + 1 + d < fs.length by omega) hq0
          have r4 := next_in hW r3 hn9
          simp only at r4
          have hq : flds s sub id depth start limit cnt fs (k0 + 1 + d + 1) = .ok (a, nu, pz) := hq
          rw [hf9] at hq
          cases hq
          omega
      have hsame : ∀ k, k0 + 1 ≤ k → k ≤ j → flds s' sub' id depth start limit cnt fs k = flds s sub id depth start limit cnt fs k := fun k hk1 => by
        induction k with
        | zero => omega
        | succ k ih =>
          intro hk2
          rcases Nat.eq_or_lt_of_le hk1 with q | q
          · obtain rfl : k = k0 := by omega
            rw [h1s, h1s']
          · have ih := ih (by omega) (by omega)
            obtain ⟨⟨a, nu, pz⟩, hz⟩ := flds_part hr (show k ≤ fs.length by omega)
            obtain ⟨q1, q2, -⟩ := flds_in hW hl hz
            have hae : e' ≤ a := by
              exact hstep (k - (k0 + 1)) (by omega) a nu pz (by rw [show k0 + 1 + (k - (k0 + 1)) = k by omega]; exact hz)
            have hk6 : (fs.getD k zf).kind ≠ 6 := fun q6 => hmin k (by omega) ⟨by omega, by omega, q6⟩
            have hlo2 := (hG.ok k (by omega)).ok.lo
            have hhi2 := (hG.ok k (by omega)).ok.hi
            rw [flds, flds, ih, hz]
            simp only
            unfold next
            rw [kind_after (s := s) hD.hi haft hW (by omega) q2 (by omega)]
      obtain ⟨⟨aj, nj, pj⟩, hzj⟩ := flds_part hr (show j ≤ fs.length by omega)
      have hzj' := hsame j (by omega) (Nat.le_refl _)
      rw [hzj] at hzj'
      obtain ⟨q1, q2, -⟩ := flds_in hW hl hzj
      obtain ⟨ej, mj, qj, hnj, -⟩ := flds_next hr j2 hzj
      obtain ⟨ej', mj', qj', hnj', -⟩ := flds_next hy j2 hzj'
      obtain ⟨_, hkj⟩ := next_kind hnj
      obtain ⟨_, hkj'⟩ := next_kind hnj'
      have haj : e' ≤ aj := by
        exact hstep (j - (k0 + 1)) (by omega) aj nj pj (by rw [show k0 + 1 + (j - (k0 + 1)) = j by omega]; exact hzj)
      unfold kind at hkj hkj'
      rw [if_neg (by omega), if_neg (by omega), if_neg (by omega), if_neg (by omega), if_neg (by omega)] at hkj hkj'
      obtain ⟨g1, g2⟩ := short_ok hkj
      obtain ⟨g3, g4⟩ := unless_ok g2
      obtain ⟨f1, f2⟩ := short_ok hkj'
      obtain ⟨f3, f4⟩ := unless_ok f2
      have q3 : num (s.extract aj (aj + (fs.getD j zf).n.toNat)) = (sumTo s aj - sumTo s start) % pow (fs.getD j zf).n := by simpa using g3
      have q4 : num (s'.extract aj (aj + (fs.getD j zf).n.toNat)) = (sumTo s' aj - sumTo s' start) % pow (fs.getD j zf).n := by simpa using f3
      rw [← ext_same (s := s) (s' := s') (fun i hi _ => hD.hi i (by omega)), q3, hD.sums (a := start) (b := aj) (by omega) (by omega), pow_eq] at q4
      have hn := (hG.ok j j2).ok.k2 (.inr j3)
      have b1 := byteAt_bound s x
      have b2 := byteAt_bound s' x
      have b3 := hD.byte
      exact mod_ne (w := (fs.getD j zf).n.toNat) (by omega) (show byteAt s' x - byteAt s x ≠ 0 by omega) (by omega) (by omega) q4.symm
  · -- the part is in it
    unfold kind at hk hk'
    split at hk
    · obtain ⟨_, g2⟩ := short_ok hk
      obtain ⟨_, g4⟩ := unless_ok g2
      cases g4
      exact absurd h3 (List.not_mem_nil)
    · rename_i n1
      rw [if_neg n1] at hk'
      split at hk
      · obtain ⟨_, g2⟩ := short_ok hk
        cases g2
        exact absurd h3 (List.not_mem_nil)
      · rename_i n2
        rw [if_neg n2] at hk'
        split at hk
        · split at hk
          · obtain ⟨_, g2⟩ := short_ok hk
            cases g2
            exact absurd h3 (List.not_mem_nil)
          · obtain ⟨_, g2⟩ := short_ok hk
            cases g2
            exact absurd h3 (List.not_mem_nil)
        · rename_i n3
          rw [if_neg n3] at hk'
          split at hk
          · rename_i n4
            rw [if_pos n4] at hk'
            exact reps_not (hsub k0 hk0 (.inl n4)).1 hloc (hsub k0 hk0 (.inl n4)).2 hW i2 hln (listed_ok hk).1 h3 hh _ (listed_ok hk').1
          · rename_i n4
            rw [if_neg n4] at hk'
            split at hk
            · rename_i n5
              rw [if_pos n5] at hk'
              obtain ⟨g1, g2⟩ := short_ok hk
              obtain ⟨_, f2⟩ := short_ok hk'
              exact (hsub k0 hk0 (.inr n5)).1 _ _ _ _ _ _ _ (boxed_ok g2).1 (by omega) (by omega) h3 hh _ (boxed_ok f2).1
            · obtain ⟨_, g2⟩ := short_ok hk
              obtain ⟨_, g4⟩ := unless_ok g2
              cases g4
              exact absurd h3 (List.not_mem_nil)
theorem val_not {L : List Fm} (hok : Ok L) {s s' : ByteArray} {x : Nat} (hD : Diff s s' x) : ∀ (n : Nat) (id : Int) (i : Nat), At L id i → i < n → NotS L x s.size (val L s n) (val L s' n) id
  | 0, _, _, _, hi => absurd hi (Nat.not_lt_zero _)
  | n + 1, id, i, hat, hi => fun d a l c e ps p hr hl hln hp hh y hy => by
    have hr : Rec.ends (flds s (val L s n) id d a l c (fieldsOf L id) (fieldsOf L id).length) = .ok (e, ps) := hr
    have hy : Rec.ends (flds s' (val L s' n) id d a l c (fieldsOf L id) (fieldsOf L id).length) = .ok (y.1, y.2) := hy
    rw [fieldsOf_at hok hat] at hr hy
    obtain ⟨nums, hr⟩ := ends_ok hr
    obtain ⟨nums', hy⟩ := ends_ok hy
    exact flds_not hD (good_of hok hat.1 (show i ≤ n by omega)) hat hok rfl (fun k hk hkd => by
      obtain ⟨-, j, hj, hjn⟩ := (fokw_of hok hat.1 (show i ≤ n by omega) hk).ok.k4 hkd
      exact ⟨val_not hok hD n _ j hj hjn, val_parts hok s n _ j hj⟩) (val_local hD.lo L n) (val_after hD.hi L n) (val_in L s n) hl hln hr hp hh _ hy
/-- A changed byte is noticed. -/
theorem noticed {L : List Fm} {id : Int} {s s' : ByteArray} {ps : List Pt} {p : Pt} {x : Nat} (h : mtch L id s = .ok ps) (hp : p ∈ ps) (hh : Hit L x p) (hD : Diff s s' x) (hsz : s'.size = s.size) : ∃ r, mtch L id s' = .error r := by
  cases hm : mtch L id s' with
  | error r => exact ⟨r, rfl⟩
  | ok qs =>
    exfalso
    obtain ⟨hok, _, i, ha, hv⟩ := mtch_ok h
    obtain ⟨_, _, i', ha', hv'⟩ := mtch_ok hm
    rw [hsz] at hv'
    exact val_not hok hD 61 id i ha (by have := ha.1; have := hok.few; omega) _ _ _ _ _ _ _ hv (Nat.zero_le _) (Nat.le_refl _) hp hh _ hv'
/-! a stream with one byte changed -/
theorem chg_list {s : ByteArray} {x : Nat} {b : UInt8} (hx : x < s.size) : (s.extract 0 x ++ (⟨#[b]⟩ : ByteArray) ++ s.extract (x + 1) s.size).data.toList = seg s.data.toList 0 x ++ ([b] ++ seg s.data.toList (x + 1) (s.size - (x + 1))) := by
  have e1 := ext_seg s 0 x
  have e2 := ext_seg s (x + 1) (s.size - (x + 1))
  rw [Nat.zero_add] at e1
  rw [show x + 1 + (s.size - (x + 1)) = s.size by omega] at e2
  rw [e1, e2, ByteArray.data_append, ByteArray.data_append, Array.toList_append, Array.toList_append, bytes_list, bytes_list, List.append_assoc]
theorem byteAt_list {s : ByteArray} {x : Nat} {b : UInt8} (h : s.data.toList[x]? = some b) : byteAt s x = (b.toNat : Int) := by
  have e1 := sumTo_step s x
  unfold sumTo at e1
  rw [List.take_add_one, h] at e1
  unfold sumL at e1
  rw [List.map_append, List.sum_append] at e1
  simp at e1
  omega
theorem diff_of {s : ByteArray} {x : Nat} {b : UInt8} (hx : x < s.size) (hb : b ≠ s[x]) : Diff s (s.extract 0 x ++ (⟨#[b]⟩ : ByteArray) ++ s.extract (x + 1) s.size) x ∧ (s.extract 0 x ++ (⟨#[b]⟩ : ByteArray) ++ s.extract (x + 1) s.size).size = s.size := by
  have hl := chg_list (s := s) (b := b) hx
  have l1 : (seg s.data.toList 0 x).length = x := seg_len (by rw [size_list]; omega)
  have l2 : (seg s.data.toList (x + 1) (s.size - (x + 1))).length = s.size - (x + 1) := seg_len (by rw [size_list]; omega)
  have hx0 : s.data.toList[x]? = some s[x] := by
    rw [List.getElem?_eq_getElem (by rw [size_list]; exact hx)]
    rfl
  have hx1 : (s.extract 0 x ++ (⟨#[b]⟩ : ByteArray) ++ s.extract (x + 1) s.size).data.toList[x]? = some b := by
    rw [hl, List.getElem?_append_right (by omega), l1, Nat.sub_self]
    rfl
  refine ⟨⟨hx, fun i hi => ?_, fun i hi => ?_, ?_, ?_⟩, ?_⟩
  · rw [hl, List.getElem?_append_left (by omega), seg_get, if_pos hi, Nat.zero_add]
  · rw [hl, List.getElem?_append_right (by omega), l1, List.getElem?_append_right (by simp; omega), seg_get]
    split
    · congr 1
      simp
      omega
    · rename_i h
      simp at h
      rw [List.getElem?_eq_none (by rw [size_list]; omega)]
  · rw [hx0, hx1]
    intro h
    injection h with h
    exact hb h.symm
  · rw [byteAt_list hx0, byteAt_list hx1]
    intro h
    exact hb (UInt8.toNat_inj.1 (by omega))
  · rw [← size_list, hl, List.length_append, List.length_append, l1, l2]
    simp
    omega
end Rt
end NotP
end Go.Proofs.YtdndmhlmbpgdeaaGreatDoor
