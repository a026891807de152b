/- A stream that is written is recognised, and has the values that were given: the whole. Plain facts. No condition of its own. The parts of a stream lie in it, and belong to fields of its table; there are few of them. Plain facts. No condition of its own. What recognising reads: streams that agree up to a place, or from a place on. Plain facts. No condition of its own. A refusal for a literal or a checksum holds for every stream with the same beginning; a stream is not shorter than the least length. Plain facts. No condition of its own. A stream of a format is not shorter than its least length. Plain facts. No condition of its own. A string with one byte changed: some string of the same size. Conditions: the string is short; an int and a byte. -/
import Derived.Test.YtdndmhlmbpgdeaaGreatDoorPe01
import Derived.Test.YtdndmhlmbpgdeaaGreatDoorPb10
import Derived.Test.YtdndmhlmbpgdeaaGreatDoorPb14
import Derived.Test.YtdndmhlmbpgdeaaGreatDoorPb20
namespace Go.Proofs.YtdndmhlmbpgdeaaGreatDoor
section RtC
open Go.RowKit Fx Rec
namespace Rt

theorem fwd_flds {L : List Fm} {N : Nat} {sub : WSub} {rsub : Sub} {fs : List Fld} {s : ByteArray} {start : Nat} {id depth : Int} {limit cnt : Nat} (hG : Good L N fs) (hid : fieldsOf L id = fs)
    (hsub : ∀ k, k < fs.length → (fs.getD k zf).kind = 4 ∨ (fs.getD k zf).kind = 5 → KeepsS sub (fs.getD k zf).n ∧ FS L s sub rsub (fs.getD k zf).n) (hl2 : limit ≤ s.size) :
    ∀ (t : List Fld) (k : Nat) (d : Dr) (σ σ' : Ws) (nums : List Int) (ps : List Pt), t = fs.drop k → k ≤ fs.length → LInv s fs start k d σ nums → flds s rsub id depth start limit cnt fs k = .ok (σ.st.length, nums, ps) → cnt + ps.length = σ.parts →
      wflds sub fs start t k d σ = some σ' → Fits s.data.toList start σ' → σ'.st.length ≤ limit →
      ∃ nums' qs, flds s rsub id depth start limit cnt fs fs.length = .ok (σ'.st.length, nums', ps ++ qs) ∧ cnt + (ps ++ qs).length = σ'.parts ∧ σ.vals = valsOf L s qs ++ σ'.vals
  | [], k, d, σ, σ', nums, ps, ht, hk, hI, hr, hc, e, hF, hl => by
    rw [wflds] at e
    cases e
    have hk2 : k = fs.length := by
      have := congrArg List.length ht
      simp only [List.length_nil, List.length_drop] at this
      omega
    subst hk2
    exact ⟨nums, [], by rw [hr, List.append_nil], by rw [List.append_nil]; exact hc, rfl⟩
  | f :: t, k, d, σ, σ', nums, ps, ht, hk, hI, hr, hc, e, hF, hl => by
    obtain ⟨hk, rfl, ht2⟩ := drop_cons ht
    rw [wflds, Option.bind_eq_some_iff] at e
    obtain ⟨p, e1, e2⟩ := e
    have hks : ∀ k, k < fs.length → (fs.getD k zf).kind = 4 ∨ (fs.getD k zf).kind = 5 → KeepsS sub (fs.getD k zf).n := fun k hk hkd => (hsub k hk hkd).1
    obtain ⟨g1, g2⟩ := wnext_out (hG.ok k hk) hI.lens (fun hkd => (hks k hk hkd).grows) hI.win e1
    obtain ⟨h5, e3⟩ := wnext_eq e1
    have hK := wkind_keep (hG.ok k hk) hI.lens (hks k hk) (winMore hI.win) e3
    obtain ⟨r1, r2, r3, r5, r4⟩ := wflds_keep hG hks t (k + 1) _ _ σ' ht2 (by simp [hI.lens]) g1 e2
    have hA : Ag s start ⟨d.counts ++ [p.1], d.lens ++ [p.2.1]⟩ (fs.drop (k + 1)) p.2.2 := fun i i1 i2 i3 i4 => by
      rw [hF.st i i1 (Nat.lt_of_lt_of_le i2 r2) (r3.out i2 i3)]
      exact r4 i i2 (by rw [ht2]; exact i4)
    obtain ⟨n, qs, a1, a2, a3, a4, a5⟩ := fwd_kind hG hk hI hid (hsub k hk) e3 hA (fun c hc => hF.ck c (r3.sub hc)) (Nat.le_trans r2 hl) hl2 (id := id) (depth := depth)
    have hI2 : LInv s fs start (k + 1) ⟨d.counts ++ [p.1], d.lens ++ [p.2.1]⟩ p.2.2 (nums ++ [n]) := hI.next ⟨hK.st, hK.ck, hK.box_, hK.top⟩ g1 g2 a4 a5
    have hr2 : flds s rsub id depth start limit cnt fs (k + 1) = .ok (p.2.2.st.length, nums ++ [n], ps ++ (⟨depth, id, (k : Int), (σ.st.length : Nat), (p.2.2.st.length : Nat), n⟩ :: qs)) := by
      rw [flds, hr]
      simp only
      have hn : next s rsub id depth start limit k (fs.getD k zf) nums σ.st.length (cnt + ps.length) = .ok (p.2.2.st.length, n, qs) := by
        unfold next
        rw [if_neg (by omega), hc]
        exact a1
      rw [hn]
    obtain ⟨nums', qs', b1, b2, b3⟩ := fwd_flds hG hid hsub hl2 t (k + 1) _ p.2.2 σ' _ _ ht2 (by omega) hI2 hr2 (by rw [List.length_append, List.length_cons]; omega) e2 hF hl
    rw [List.append_assoc] at b1 b2
    exact ⟨nums', _, b1, b2, by rw [valsOf_app, List.append_assoc, ← b3]; exact a3⟩
theorem fwd_val {L : List Fm} (h : Ok L) (s : ByteArray) : ∀ (n : Nat) (id : Int) (i : Nat), At L id i → i < n → FS L s (wval L n) (val L s n) id
  | 0, _, _, _, hi => absurd hi (Nat.not_lt_zero _)
  | n + 1, id, i, hat, hi => fun σ σ' e ht hF depth limit hl hl2 => by
    have e : wflds (wval L n) (fieldsOf L id) σ.st.length (fieldsOf L id) 0 ⟨[], []⟩ σ = some σ' := e
    have hfo := fieldsOf_at h hat
    rw [hfo] at e
    obtain ⟨nums', qs, b1, b2, b3⟩ := fwd_flds (cnt := σ.parts) (depth := depth) (good_of h hat.1 (show i ≤ n by omega)) hfo (fun k hk hkd => by
      obtain ⟨-, j, hj, hjn⟩ := (fokw_of h hat.1 (show i ≤ n by omega) hk).ok.k4 hkd
      exact ⟨wval_keeps h n _ j hj hjn, fwd_val h s n _ j hj hjn⟩) hl2 _ 0 ⟨[], []⟩ σ σ' [] [] rfl (Nat.zero_le _) (LInv.first ht) rfl rfl e hF hl
    refine ⟨qs, ?_, b2.symm, b3⟩
    show Rec.ends (flds s (val L s n) id depth σ.st.length limit σ.parts (fieldsOf L id) (fieldsOf L id).length) = _
    rw [hfo, b1]
    rfl
/-! the checksums that are laid -/
theorem sumOf_ext {S T : List UInt8} {n : Nat} (h : ∀ i, i < n → S[i]? = T[i]?) : sumOf S n = sumOf T n := by
  unfold sumOf
  congr 1
  apply List.ext_getElem?
  intro i
  rw [List.getElem?_take, List.getElem?_take]
  split
  · exact h i (by assumption)
  · rfl
theorem lay_all : ∀ (cs : List Ck) (st : List UInt8), (∀ c, c ∈ cs → c.1 ≤ c.2.1 ∧ c.2.1 + c.2.2 ≤ st.length) → cs.Pairwise (fun a b => a.2.1 + a.2.2 ≤ b.2.1) →
    (layAll st cs).length = st.length ∧ (∀ i, ¬ InC cs i → (layAll st cs)[i]? = st[i]?) ∧ ∀ c, c ∈ cs → chk (layAll st cs) c
  | [], st, _, _ => ⟨rfl, fun _ _ => rfl, fun _ h => absurd h (List.not_mem_nil)⟩
  | c :: t, st, hc, hp => by
    rw [List.pairwise_cons] at hp
    have h0 := hc c (List.mem_cons_self ..)
    have hb : c.2.1 + (nbytes c.2.2 ((sumOf st c.2.1 - sumOf st c.1) % 256 ^ c.2.2)).length ≤ st.length := by rw [nbytes_len]; exact h0.2
    have hl : (lay1 st c).length = st.length := patch_len _ _ _ hb
    obtain ⟨a1, a2, a3⟩ := lay_all t (lay1 st c) (fun x hx => by rw [hl]; exact hc x (List.mem_cons_of_mem _ hx)) hp.2
    have e : layAll st (c :: t) = layAll (lay1 st c) t := rfl
    rw [e]
    have hlow : ∀ i, i < c.2.1 + c.2.2 → ¬ InC t i := fun i hi => by
      rintro ⟨x, hx, h1, _⟩
      have := hp.1 x hx
      omega
    have hbef : ∀ i, i < c.2.1 → (layAll (lay1 st c) t)[i]? = st[i]? := fun i hi => by
      rw [a2 i (hlow i (by omega))]
      exact patch_out hb (.inl hi)
    refine ⟨by rw [a1, hl], fun i hi => ?_, fun x hx => ?_⟩
    · rw [a2 i fun ⟨x, hx, h1⟩ => hi ⟨x, List.mem_cons_of_mem _ hx, h1⟩]
      refine patch_out hb ?_
      rw [nbytes_len]
      apply Classical.byContradiction
      intro hn
      exact hi ⟨c, List.mem_cons_self .., by omega, by omega⟩
    · rcases List.mem_cons.1 hx with rfl | hx
      · unfold chk
        rw [sumOf_ext (T := st) (n := x.1) (fun i hi => hbef i (by omega)), sumOf_ext (T := st) (n := x.2.1) hbef]
        have e2 := seg_all (nbytes x.2.2 ((sumOf st x.2.1 - sumOf st x.1) % 256 ^ x.2.2))
        rw [nbytes_len] at e2
        rw [← e2]
        refine seg_ext fun i hi => ?_
        rw [a2 _ (hlow _ (by omega)), Nat.zero_add]
        exact patch_in hb (by rw [nbytes_len]; exact hi)
      · exact a3 x hx
theorem start_tame {vs : List ByteArray} (h : Short vs) : Tame ⟨[], vs, 0, []⟩ := ⟨h, Nat.le_refl _, fun _ h => absurd h (List.not_mem_nil), .nil⟩
theorem later_strict {σ σ' : Ws} (h : Later σ σ') (h0 : σ.checks = []) : σ'.checks.Pairwise fun a b => a.2.1 + a.2.2 ≤ b.2.1 := by
  obtain ⟨x, e, _, h2⟩ := h
  rw [e, h0]
  exact h2
theorem writ_some {L : List Fm} {id : Int} {vs : List ByteArray} {s : ByteArray} (h : writ L id vs = some s) : Ok L ∧ ∃ i σ, At L id i ∧ wval L 61 id ⟨[], vs, 0, []⟩ = some σ ∧ σ.vals = [] ∧ s = bytesOf (layAll σ.st σ.checks) := by
  unfold writ at h
  split at h
  · rename_i hv
    unfold wwhole at h
    split at h
    · rename_i hh
      rw [Option.bind_eq_some_iff] at h
      obtain ⟨σ, e1, e2⟩ := h
      split at e2
      · rename_i hvs
        cases e2
        obtain ⟨i, ha⟩ := has_iff.1 hh
        exact ⟨vd_iff.1 hv, i, σ, ha, e1, hvs, rfl⟩
      · cases e2
    · cases h
  · cases h
/-- A stream that is written is of the format, and has the values that were given. -/
theorem wrote {L : List Fm} {id : Int} {vs : List ByteArray} {s : ByteArray} (h : writ L id vs = some s) (hs : Short vs) : ∃ ps, mtch L id s = .ok ps ∧ valsOf L s ps = vs := by
  obtain ⟨hok, i, σ, ha, e1, e2, rfl⟩ := writ_some h
  have hi : i < 61 := by have := ha.1; have := hok.few; omega
  obtain ⟨ht, hk⟩ := wval_keeps hok 61 id i ha hi _ _ e1 (start_tame hs)
  obtain ⟨a1, a2, a3⟩ := lay_all σ.checks σ.st (fun c hc => ⟨(ht.each c hc).1, (ht.each c hc).2.2.2⟩) (later_strict hk.ck rfl)
  have hF : Fits (bytesOf (layAll σ.st σ.checks)).data.toList 0 σ := ⟨fun i _ _ h3 => a2 i h3, fun c hc _ => a3 c hc⟩
  have hsz : (bytesOf (layAll σ.st σ.checks)).size = σ.st.length := by rw [← size_list, bytes_list, a1]
  obtain ⟨ps, b1, b2, b3⟩ := fwd_val hok _ 61 id i ha hi _ _ e1 (start_tame hs) hF 0 σ.st.length (Nat.le_refl _) (by rw [hsz]; exact Nat.le_refl _)
  refine ⟨ps, ?_, ?_⟩
  · unfold mtch whole
    rw [if_pos ⟨vd_iff.2 hok, by rw [hsz]; exact hk.top (Nat.zero_le _)⟩, if_pos (has_iff.2 ⟨i, ha⟩), hsz, show val L (bytesOf (layAll σ.st σ.checks)) 61 id 0 0 σ.st.length 0 = _ from b1]
    simp only
    rw [if_neg (by omega)]
  · rw [e2, List.append_nil] at b3
    exact b3.symm
/-! more values are not taken -/
def addV (r : List ByteArray) (σ : Ws) : Ws := { σ with vals := σ.vals ++ r }
abbrev More (sub : WSub) (id : Int) (r : List ByteArray) : Prop := ∀ σ σ', sub id σ = some σ' → sub id (addV r σ) = some (addV r σ')
theorem more_reps {sub : WSub} {id : Int} {r : List ByteArray} (h : More sub id r) : ∀ n σ σ', wreps sub id n σ = some σ' → wreps sub id n (addV r σ) = some (addV r σ')
  | 0, σ, σ', e => by rw [wreps] at e ⊢; cases e; rfl
  | n + 1, σ, σ', e => by
    rw [wreps, Option.bind_eq_some_iff] at e
    obtain ⟨σ1, e1, e2⟩ := e
    rw [wreps, h _ _ e1]
    exact more_reps h n _ _ e2
def addL (r : List ByteArray) (p : Rec.Left) : Rec.Left := (p.1, p.2.1, addV r p.2.2)
theorem more_addW {r : List ByteArray} {b : List UInt8} {σ σ' : Ws} (e : addW σ b = some σ') : addW (addV r σ) b = some (addV r σ') := by
  unfold addW at e ⊢
  split at e
  · rename_i h
    cases e
    rw [if_pos (by exact h)]; rfl
  · cases e
theorem more_nextW {r : List ByteArray} {x : ByteArray} {σ σ' : Ws} (e : nextW σ = some (x, σ')) : nextW (addV r σ) = some (x, addV r σ') := by
  obtain ⟨h1, h2⟩ := nextW_eq e
  unfold nextW addV
  simp only [h2, List.cons_append]
  rw [h1]
theorem more_fill {r : List ByteArray} {h : Nat × Nat} {n : Int} {σ σ' : Ws} (e : fill σ h n = some σ') : fill (addV r σ) h n = some (addV r σ') := by
  obtain ⟨h1, rfl⟩ := fill_eq e
  unfold fill
  rw [if_pos h1]; rfl
theorem more_kind {sub : WSub} {fs : List Fld} {start k : Nat} {f : Fld} {d : Dr} {r : List ByteArray} {σ : Ws} {p : Rec.Left} (hsub : f.kind = 4 ∨ f.kind = 5 → More sub f.n r) (e : wkind sub fs start k f d σ = some p) : wkind sub fs start k f d (addV r σ) = some (addL r p) := by
  unfold wkind at e ⊢
  split at e
  · rename_i h1
    rw [if_pos h1]
    unfold wtext at e ⊢
    rw [Option.map_eq_some_iff] at e
    obtain ⟨σ1, e1, rfl⟩ := e
    rw [more_addW e1]; rfl
  · rename_i h1
    rw [if_neg h1]
    split at e
    · rename_i h2
      rw [if_pos h2]
      split at e
      · rename_i hw
        rw [if_pos hw]
        unfold wwait at e ⊢
        rw [Option.map_eq_some_iff] at e
        obtain ⟨σ1, e1, rfl⟩ := e
        rw [more_addW e1]; rfl
      · rename_i hw
        rw [if_neg hw]
        unfold wgiven at e ⊢
        rw [Option.bind_eq_some_iff] at e
        obtain ⟨⟨x, σ0⟩, e0, e⟩ := e
        rw [more_nextW e0]
        simp only [Option.bind_some] at e ⊢
        split at e
        · rename_i hx
          rw [if_pos hx]
          rw [Option.map_eq_some_iff] at e
          obtain ⟨σ1, e1, rfl⟩ := e
          rw [more_addW e1]; rfl
        · cases e
    · rename_i h2
      rw [if_neg h2]
      split at e
      · rename_i h3
        rw [if_pos h3]
        unfold wbytes at e ⊢
        rw [Option.bind_eq_some_iff] at e
        obtain ⟨⟨x, σ0⟩, e0, e⟩ := e
        rw [Option.bind_eq_some_iff] at e
        obtain ⟨σ1, e1, e⟩ := e
        rw [more_nextW e0]
        simp only [Option.bind_some]
        rw [more_addW e1]
        simp only [Option.bind_some] at e ⊢
        split at e
        · rename_i hfm
          rw [if_pos hfm]
          split at e
          · rename_i hx
            rw [if_pos hx]
            cases e; rfl
          · cases e
        · rename_i hfm
          rw [if_neg hfm]
          rw [Option.map_eq_some_iff] at e
          obtain ⟨σ2, e2, rfl⟩ := e
          rw [more_fill e2]; rfl
      · rename_i h3
        rw [if_neg h3]
        split at e
        · rename_i h4
          rw [if_pos h4]
          unfold wlist at e ⊢
          rw [Option.map_eq_some_iff] at e
          obtain ⟨σ1, e1, rfl⟩ := e
          rw [more_reps (hsub (.inl h4)) _ _ _ e1]; rfl
        · rename_i h4
          rw [if_neg h4]
          split at e
          · rename_i h5
            rw [if_pos h5]
            unfold winside at e ⊢
            rw [Option.bind_eq_some_iff] at e
            obtain ⟨σ1, e1, e⟩ := e
            rw [hsub (.inr h5) _ _ e1]
            simp only [Option.bind_some]
            rw [Option.map_eq_some_iff] at e
            obtain ⟨σ2, e2, rfl⟩ := e
            rw [show fill (addV r σ1) (d.lens.getD f.frm.toNat (0, 0)) (((addV r σ1).st.length : Int) - (addV r σ).st.length) = some (addV r σ2) from more_fill e2]; rfl
          · rename_i h5
            rw [if_neg h5]
            unfold wcheck at e ⊢
            rw [Option.map_eq_some_iff] at e
            obtain ⟨σ1, e1, rfl⟩ := e
            rw [more_addW e1]; rfl
theorem more_flds {sub : WSub} {fs : List Fld} {start : Nat} {r : List ByteArray} : ∀ (t : List Fld), (∀ f, f ∈ t → f.kind = 4 ∨ f.kind = 5 → More sub f.n r) → ∀ k d σ σ', wflds sub fs start t k d σ = some σ' → wflds sub fs start t k d (addV r σ) = some (addV r σ')
  | [], _, _, _, _, _, e => by rw [wflds] at e ⊢; cases e; rfl
  | f :: t, h, k, d, σ, σ', e => by
    rw [wflds, Option.bind_eq_some_iff] at e
    obtain ⟨p, e1, e2⟩ := e
    obtain ⟨h5, e3⟩ := wnext_eq e1
    have e4 := more_kind (r := r) (h f (List.mem_cons_self ..)) e3
    have e5 : wnext sub fs start k f d (addV r σ) = some (addL r p) := by
      unfold wnext
      rw [if_pos (by exact h5)]
      exact e4
    rw [wflds, e5]
    exact more_flds t (fun g hg => h g (List.mem_cons_of_mem _ hg)) _ _ _ _ e2
theorem more_val {L : List Fm} (h : Ok L) (r : List ByteArray) : ∀ (n : Nat) (id : Int) (i : Nat), At L id i → i < n → More (wval L n) id r
  | 0, _, _, _, hi => absurd hi (Nat.not_lt_zero _)
  | n + 1, id, i, hat, hi => fun σ σ' e => by
    have e : wflds (wval L n) (fieldsOf L id) σ.st.length (fieldsOf L id) 0 ⟨[], []⟩ σ = some σ' := e
    show wflds (wval L n) (fieldsOf L id) σ.st.length (fieldsOf L id) 0 ⟨[], []⟩ (addV r σ) = some (addV r σ')
    refine more_flds _ (fun f hf hkd => ?_) _ _ _ _ e
    rw [fieldsOf_at h hat] at hf
    obtain ⟨k, hk, rfl⟩ := mem_getD hf
    obtain ⟨-, j, hj, hjn⟩ := (fokw_of h hat.1 (show i ≤ n by omega) hk).ok.k4 hkd
    exact more_val h r n _ j hj hjn
/-- With one value more there is no stream. -/
theorem wrote_more {L : List Fm} {id : Int} {vs : List ByteArray} {s : ByteArray} (h : writ L id vs = some s) (x : ByteArray) : writ L id (vs ++ [x]) = none := by
  obtain ⟨hok, i, σ, ha, e1, e2, -⟩ := writ_some h
  have hi : i < 61 := by have := ha.1; have := hok.few; omega
  have e3 : wval L 61 id ⟨[], vs ++ [x], 0, []⟩ = some (addV [x] σ) := more_val hok [x] 61 id i ha hi _ _ e1
  unfold writ wwhole
  rw [if_pos (vd_iff.2 hok), if_pos (has_iff.2 ⟨i, ha⟩), e3]
  simp only [Option.bind_some]
  rw [if_neg (by unfold addV; rw [e2]; simp)]
end Rt
end RtC
section RtP
open Go.RowKit Fx Rec
namespace Rt

/-- A part from lo to hi. -/
def PartOk (L : List Fm) (lo hi : Nat) (p : Pt) : Prop := ∃ i k st en : Nat, At L p.format i ∧ p.field = k ∧ k < (L.getD i zm).fs.length ∧ p.start = st ∧ p.stop = en ∧ lo ≤ st ∧ st ≤ en ∧ en ≤ hi
theorem PartOk.wide {L : List Fm} {lo hi lo' hi' : Nat} {p : Pt} (h : PartOk L lo hi p) (h1 : lo' ≤ lo) (h2 : hi ≤ hi') : PartOk L lo' hi' p := by
  obtain ⟨i, k, st, en, a, b, c, d, e, f, g, j⟩ := h
  exact ⟨i, k, st, en, a, b, c, d, e, by omega, g, by omega⟩
def PsOk (L : List Fm) (lo hi cnt : Nat) (ps : List Pt) : Prop := (∀ p, p ∈ ps → PartOk L lo hi p) ∧ (cnt ≤ 5000 → cnt + ps.length ≤ 5000)
abbrev SP (L : List Fm) (sub : Sub) (id : Int) : Prop := ∀ d a l c e ps, sub id d a l c = .ok (e, ps) → a ≤ l → PsOk L a e c ps
theorem psok_nil (L : List Fm) (lo hi cnt : Nat) : PsOk L lo hi cnt [] := ⟨fun _ h => absurd h (List.not_mem_nil), fun h => h⟩
theorem PsOk.app {L : List Fm} {lo m hi cnt : Nat} {ps qs : List Pt} (h : PsOk L lo m cnt ps) (g : PsOk L m hi (cnt + ps.length) qs) (h1 : lo ≤ m) (h2 : m ≤ hi) : PsOk L lo hi cnt (ps ++ qs) := by
  refine ⟨fun p hp => ?_, fun hc => ?_⟩
  · rcases List.mem_append.1 hp with hp | hp
    · exact (h.1 p hp).wide (Nat.le_refl _) h2
    · exact (g.1 p hp).wide h1 (Nat.le_refl _)
  · have := g.2 (h.2 hc)
    rw [List.length_append]
    omega
theorem reps_parts {L : List Fm} {sub : Sub} {id : Int} (h : SP L sub id) (hW : Within sub) {depth : Int} {limit at_ cnt : Nat} (hl : at_ ≤ limit) : ∀ {n e : Nat} {ps : List Pt}, reps sub id depth limit at_ cnt n = .ok (e, ps) → PsOk L at_ e cnt ps
  | 0, e, ps, hr => by
    rw [reps] at hr
    cases hr
    exact psok_nil _ _ _ _
  | n + 1, e, ps, hr => by
    rw [reps] at hr
    split at hr
    · cases hr
    · rename_i e1 ps1 h1
      have i1 := reps_in hW hl h1
      split at hr
      · cases hr
      · rename_i e2 qs h2
        cases hr
        have i2 := hW _ _ _ _ _ _ _ h2 i1.2
        exact (reps_parts h hW hl h1).app (h _ _ _ _ _ _ h2 i1.2) i1.1 i2.1
theorem kind_parts {L : List Fm} {s : ByteArray} {sub : Sub} {id depth : Int} {start limit k : Nat} {f : Fld} {nums : List Int} {at_ cnt : Nat} {y : Nat × Int × List Pt} (h : f.kind = 4 ∨ f.kind = 5 → SP L sub f.n) (hW : Within sub) (hl : at_ ≤ limit)
    (hr : kind s sub id depth start limit k f nums at_ cnt = .ok y) : PsOk L at_ y.1 cnt y.2.2 := by
  unfold kind at hr
  split at hr
  · obtain ⟨_, g2⟩ := short_ok hr
    obtain ⟨_, g4⟩ := unless_ok g2
    cases g4
    exact psok_nil _ _ _ _
  · split at hr
    · obtain ⟨_, g2⟩ := short_ok hr
      cases g2
      exact psok_nil _ _ _ _
    · split at hr
      · split at hr
        · obtain ⟨_, g2⟩ := short_ok hr
          cases g2
          exact psok_nil _ _ _ _
        · obtain ⟨_, g2⟩ := short_ok hr
          cases g2
          exact psok_nil _ _ _ _
      · split at hr
        · rename_i h4
          exact reps_parts (h (.inl h4)) hW hl (listed_ok hr).1
        · split at hr
          · rename_i h5
            obtain ⟨_, g2⟩ := short_ok hr
            exact h (.inr h5) _ _ _ _ _ _ (boxed_ok g2).1 (by omega)
          · obtain ⟨_, g2⟩ := short_ok hr
            obtain ⟨_, g4⟩ := unless_ok g2
            cases g4
            exact psok_nil _ _ _ _
theorem flds_parts {L : List Fm} {s : ByteArray} {sub : Sub} {id depth : Int} {start limit cnt i : Nat} {fs : List Fld} (hat : At L id i) (hfs : (L.getD i zm).fs = fs) (h : ∀ k, k < fs.length → (fs.getD k zf).kind = 4 ∨ (fs.getD k zf).kind = 5 → SP L sub (fs.getD k zf).n) (hW : Within sub) (hl : start ≤ limit) :
    ∀ {k e : Nat} {nums : List Int} {ps : List Pt}, k ≤ fs.length → flds s sub id depth start limit cnt fs k = .ok (e, nums, ps) → PsOk L start e cnt ps
  | 0, e, nums, ps, _, hr => by
    rw [flds] at hr
    cases hr
    exact psok_nil _ _ _ _
  | k + 1, e, nums, ps, hk, hr => by
    rw [flds] at hr
    split at hr
    · cases hr
    · rename_i at1 nums1 ps1 h1
      obtain ⟨i1, i2, -⟩ := flds_in hW hl h1
      split at hr
      · cases hr
      · rename_i e2 n qs h2
        cases hr
        have i3 := next_in hW i2 h2
        refine (flds_parts hat hfs h hW hl (by omega) h1).app ?_ i1 i3.2.1
        unfold next at h2
        rw [if_neg (by omega)] at h2
        obtain ⟨q1, q2⟩ := kind_parts (L := L) (h k (by omega)) hW i2 h2
        refine ⟨fun p hp => ?_, fun hc => ?_⟩
        · rcases List.mem_cons.1 hp with rfl | hp
          · exact ⟨i, k, at1, e, hat, rfl, by rw [hfs]; omega, rfl, rfl, Nat.le_refl _, i3.2.1, Nat.le_refl _⟩
          · exact q1 p hp
        · have := q2 (by omega)
          rw [List.length_cons]
          simp only at this
          omega
theorem val_parts {L : List Fm} (h : Ok L) (s : ByteArray) : ∀ (n : Nat) (id : Int) (i : Nat), At L id i → SP L (val L s n) id
  | 0, _, _, _ => fun _ _ _ _ _ _ hr _ => by rw [val] at hr; cases hr
  | n + 1, id, i, hat => fun d a l c e ps hr hl => by
    have hr : Rec.ends (flds s (val L s n) id d a l c (fieldsOf L id) (fieldsOf L id).length) = .ok (e, ps) := hr
    rw [fieldsOf_at h hat] at hr
    obtain ⟨nums, hr⟩ := ends_ok hr
    exact flds_parts hat rfl (fun k hk hkd => by
      obtain ⟨_, j, hj, _⟩ := (fok_of h hat.1 (Nat.le_refl i) hk).k4 hkd
      exact val_parts h s n _ j hj) (val_in L s n) hl (Nat.le_refl _) hr
theorem mtch_ok {L : List Fm} {id : Int} {s : ByteArray} {ps : List Pt} (h : mtch L id s = .ok ps) : Ok L ∧ s.size ≤ 65536 ∧ ∃ i, At L id i ∧ val L s 61 id 0 0 s.size 0 = .ok (s.size, ps) := by
  unfold mtch at h
  split at h
  · rename_i hv
    obtain ⟨hv, hs⟩ := hv
    unfold whole at h
    split at h
    · rename_i hh
      obtain ⟨i, ha⟩ := has_iff.1 hh
      split at h
      · cases h
      · rename_i e ps' hval
        split at h
        · cases h
        · rename_i hle
          cases h
          have hin := val_in L s 61 _ _ _ _ _ _ _ hval (Nat.zero_le _)
          obtain rfl : e = s.size := by omega
          exact ⟨vd_iff.1 hv, hs, i, ha, hval⟩
    · cases h
  · cases h
theorem mtch_parts {L : List Fm} {id : Int} {s : ByteArray} {ps : List Pt} (h : mtch L id s = .ok ps) : (∀ p, p ∈ ps → PartOk L 0 s.size p) ∧ ps.length ≤ 5000 := by
  obtain ⟨hok, _, i, ha, hv⟩ := mtch_ok h
  obtain ⟨h1, h2⟩ := val_parts hok s 61 id i ha _ _ _ _ _ _ hv (Nat.zero_le _)
  exact ⟨h1, by have := h2 (Nat.zero_le _); omega⟩
end Rt
end RtP
section AgrP
open Go.RowKit Fx Rec
namespace Rt

theorem ext_same {s s' : ByteArray} {a n : Nat} (h : ∀ i, a ≤ i → i < a + n → s.data.toList[i]? = s'.data.toList[i]?) : s.extract a (a + n) = s'.extract a (a + n) := by
  rw [ext_seg, ext_seg, seg_ext fun i hi => h (a + i) (by omega) (by omega)]
theorem sumTo_same {s s' : ByteArray} {n : Nat} (h : ∀ i, i < n → s.data.toList[i]? = s'.data.toList[i]?) : sumTo s n = sumTo s' n := sumOf_ext h
theorem byteAt_same {s s' : ByteArray} {i : Nat} (h : s.data.toList[i]? = s'.data.toList[i]?) : byteAt s i = byteAt s' i := by
  have e1 := sumTo_step s i
  have e2 := sumTo_step s' i
  unfold sumTo at e1 e2
  rw [List.take_add_one] at e1 e2
  unfold sumL at e1 e2
  rw [List.map_append, List.sum_append] at e1 e2
  rw [h] at e1
  omega
/-- The bytes between two places. -/
theorem sum_between {s s' : ByteArray} {a : Nat} (h : ∀ i, a ≤ i → s.data.toList[i]? = s'.data.toList[i]?) : ∀ d, sumTo s (a + d) - sumTo s a = sumTo s' (a + d) - sumTo s' a
  | 0 => by simp
  | d + 1 => by
    have := sum_between h d
    rw [← Nat.add_assoc, sumTo_step, sumTo_step, byteAt_same (h (a + d) (by omega))]
    omega
theorem sum_gap {s s' : ByteArray} {p a b : Nat} (h : ∀ i, p ≤ i → s.data.toList[i]? = s'.data.toList[i]?) (hp : p ≤ a) (hab : a ≤ b) : sumTo s b - sumTo s a = sumTo s' b - sumTo s' a := by
  obtain ⟨d, rfl⟩ : ∃ d, b = a + d := ⟨b - a, by omega⟩
  exact sum_between (fun i hi => h i (by omega)) d
/-! streams that agree up to a place -/
abbrev LocS (m : Nat) (sub sub' : Sub) : Prop := ∀ id d a l c e ps, sub id d a l c = .ok (e, ps) → a ≤ l → e ≤ m → sub' id d a l c = .ok (e, ps)
theorem reps_local {m : Nat} {sub sub' : Sub} (h : LocS m sub sub') (hW : Within sub) {id depth : Int} {limit at_ cnt : Nat} (hl : at_ ≤ limit) : ∀ {n e : Nat} {ps : List Pt}, reps sub id depth limit at_ cnt n = .ok (e, ps) → e ≤ m → reps sub' id depth limit at_ cnt n = .ok (e, ps)
  | 0, e, ps, hr, _ => by
    rw [reps] at hr ⊢
    exact hr
  | n + 1, e, ps, hr, he => by
    rw [reps] at hr
    split at hr
    · cases hr
    · rename_i e1 ps1 h1
      have i1 := reps_in hW hl h1
      split at hr
      · cases hr
      · rename_i e2 qs h2
        cases hr
        have i2 := hW _ _ _ _ _ _ _ h2 i1.2
        rw [reps, reps_local h hW hl h1 (by omega)]
        simp only
        rw [h _ _ _ _ _ _ _ h2 i1.2 he]
theorem short_same {id : Int} {k a l n : Nat} {x : Except Rf (Nat × Int × List Pt)} (h : a + n ≤ l) : short id k a l n x = x := by unfold short; rw [if_neg (by omega)]
theorem kind_local {m : Nat} {s s' : ByteArray} (hs : ∀ i, i < m → s.data.toList[i]? = s'.data.toList[i]?) {sub sub' : Sub} (h : LocS m sub sub') (hW : Within sub) {id depth : Int} {start limit k : Nat} {f : Fld} {nums : List Int} {at_ cnt : Nat} {y : Nat × Int × List Pt} (hst : start ≤ at_) (hl : at_ ≤ limit)
    (hr : kind s sub id depth start limit k f nums at_ cnt = .ok y) (hy : y.1 ≤ m) : kind s' sub' id depth start limit k f nums at_ cnt = .ok y := by
  unfold kind at hr ⊢
  split at hr
  · rename_i h1
    rw [if_pos h1]
    obtain ⟨g1, g2⟩ := short_ok hr
    obtain ⟨g3, g4⟩ := unless_ok g2
    cases g4
    simp only at hy
    rw [short_same g1, ← ext_same (s := s) (fun i _ hi => hs i (by omega)), g3]
    rfl
  · rename_i h1
    rw [if_neg h1]
    split at hr
    · rename_i h2
      rw [if_pos h2]
      obtain ⟨g1, g2⟩ := short_ok hr
      cases g2
      simp only at hy
      rw [short_same g1, ← ext_same (s := s) (fun i _ hi => hs i (by omega))]
    · rename_i h2
      rw [if_neg h2]
      split at hr
      · rename_i h3
        rw [if_pos h3]
        exact hr
      · rename_i h3
        rw [if_neg h3]
        split at hr
        · rename_i h4
          rw [if_pos h4]
          obtain ⟨g1, g2⟩ := listed_ok hr
          rw [reps_local h hW hl g1 hy]
          obtain ⟨y1, y2, y3⟩ := y
          simp only at g2
          subst g2
          rfl
        · rename_i h4
          rw [if_neg h4]
          split at hr
          · rename_i h5
            rw [if_pos h5]
            obtain ⟨g1, g2⟩ := short_ok hr
            obtain ⟨g3, g4, g5⟩ := boxed_ok g2
            rw [short_same g1, h _ _ _ _ _ _ _ g3 (by omega) hy]
            rw [g3] at g2
            exact g2
          · rename_i h5
            rw [if_neg h5]
            obtain ⟨g1, g2⟩ := short_ok hr
            obtain ⟨g3, g4⟩ := unless_ok g2
            cases g4
            simp only at hy
            rw [short_same g1, ← ext_same (s := s) (fun i _ hi => hs i (by omega)), ← sumTo_same (s := s) (n := at_) (fun i hi => hs i (by omega)), ← sumTo_same (s := s) (n := start) (fun i hi => hs i (by omega)), g3]
            rfl
theorem next_local {m : Nat} {s s' : ByteArray} (hs : ∀ i, i < m → s.data.toList[i]? = s'.data.toList[i]?) {sub sub' : Sub} (h : LocS m sub sub') (hW : Within sub) {id depth : Int} {start limit k : Nat} {f : Fld} {nums : List Int} {at_ cnt : Nat} {y : Nat × Int × List Pt} (hst : start ≤ at_) (hl : at_ ≤ limit)
    (hr : next s sub id depth start limit k f nums at_ cnt = .ok y) (hy : y.1 ≤ m) : next s' sub' id depth start limit k f nums at_ cnt = .ok y := by
  unfold next at hr ⊢
  split at hr
  · cases hr
  · rename_i hc
    rw [if_neg hc]
    exact kind_local hs h hW hst hl hr hy
theorem flds_local {m : Nat} {s s' : ByteArray} (hs : ∀ i, i < m → s.data.toList[i]? = s'.data.toList[i]?) {sub sub' : Sub} (h : LocS m sub sub') (hW : Within sub) {id depth : Int} {start limit cnt : Nat} {fs : List Fld} (hl : start ≤ limit) :
    ∀ {k e : Nat} {nums : List Int} {ps : List Pt}, flds s sub id depth start limit cnt fs k = .ok (e, nums, ps) → e ≤ m → flds s' sub' id depth start limit cnt fs k = .ok (e, nums, ps)
  | 0, e, nums, ps, hr, _ => by
    rw [flds] at hr ⊢
    exact hr
  | k + 1, e, nums, ps, hr, he => by
    rw [flds] at hr
    split at hr
    · cases hr
    · rename_i at1 nums1 ps1 h1
      obtain ⟨i1, i2, -⟩ := flds_in hW hl h1
      split at hr
      · cases hr
      · rename_i e2 n qs h2
        cases hr
        have i3 := next_in hW i2 h2
        simp only at i3
        rw [flds, flds_local hs h hW hl h1 (by omega)]
        simp only
        rw [next_local hs h hW i1 i2 h2 he]
theorem val_local {m : Nat} {s s' : ByteArray} (hs : ∀ i, i < m → s.data.toList[i]? = s'.data.toList[i]?) (L : List Fm) : ∀ n, LocS m (val L s n) (val L s' n)
  | 0 => fun _ _ _ _ _ _ _ hr _ _ => by rw [val] at hr; cases hr
  | n + 1 => fun id d a l c e ps hr hl he => by
    have hr : Rec.ends (flds s (val L s n) id d a l c (fieldsOf L id) (fieldsOf L id).length) = .ok (e, ps) := hr
    obtain ⟨nums, hr⟩ := ends_ok hr
    show Rec.ends (flds s' (val L s' n) id d a l c (fieldsOf L id) (fieldsOf L id).length) = .ok (e, ps)
    rw [flds_local hs (val_local hs L n) (val_in L s n) hl hr he]
    rfl
/-! streams that agree from a place on -/
abbrev AftS (p : Nat) (sub sub' : Sub) : Prop := ∀ id d a l c, p ≤ a → a ≤ l → sub id d a l c = sub' id d a l c
theorem reps_after {p : Nat} {sub sub' : Sub} (h : AftS p sub sub') (hW : Within sub) {id depth : Int} {limit at_ cnt : Nat} (hp : p ≤ at_) (hl : at_ ≤ limit) : ∀ n, reps sub id depth limit at_ cnt n = reps sub' id depth limit at_ cnt n
  | 0 => rfl
  | n + 1 => by
    rw [reps, reps, ← reps_after h hW hp hl n]
    cases h1 : reps sub id depth limit at_ cnt n with
    | error r => rfl
    | ok y =>
      obtain ⟨e, ps⟩ := y
      have i1 := reps_in hW hl h1
      simp only
      rw [h _ _ _ _ _ (by omega) i1.2]
theorem kind_after {p : Nat} {s s' : ByteArray} (hs : ∀ i, p ≤ i → s.data.toList[i]? = s'.data.toList[i]?) {sub sub' : Sub} (h : AftS p sub sub') (hW : Within sub) {id depth : Int} {start limit k : Nat} {f : Fld} {nums : List Int} {at_ cnt : Nat} (hp : p ≤ at_) (hl : at_ ≤ limit)
    (h6 : f.kind = 1 ∨ f.kind = 2 ∨ f.kind = 3 ∨ f.kind = 4 ∨ f.kind = 5 ∨ sumTo s at_ - sumTo s start = sumTo s' at_ - sumTo s' start) : kind s sub id depth start limit k f nums at_ cnt = kind s' sub' id depth start limit k f nums at_ cnt := by
  unfold kind
  split
  · rw [ext_same (s := s) (fun i hi _ => hs i (by omega))]
  · split
    · rw [ext_same (s := s) (fun i hi _ => hs i (by omega))]
    · split
      · rfl
      · split
        · rw [reps_after h hW hp hl]
        · split
          · unfold short
            split
            · rfl
            · rw [h _ _ _ _ _ hp (by omega)]
          · rename_i h1 h2 h3 h4 h5
            rw [ext_same (s := s) (fun i hi _ => hs i (by omega)), h6.resolve_left h1 |>.resolve_left h2 |>.resolve_left h3 |>.resolve_left h4 |>.resolve_left h5]
theorem flds_after {p : Nat} {s s' : ByteArray} (hs : ∀ i, p ≤ i → s.data.toList[i]? = s'.data.toList[i]?) {sub sub' : Sub} (h : AftS p sub sub') (hW : Within sub) {id depth : Int} {start limit cnt : Nat} {fs : List Fld} (hp : p ≤ start) (hl : start ≤ limit) :
    ∀ k, flds s sub id depth start limit cnt fs k = flds s' sub' id depth start limit cnt fs k
  | 0 => rfl
  | k + 1 => by
    rw [flds, flds, ← flds_after hs h hW hp hl k]
    cases h1 : flds s sub id depth start limit cnt fs k with
    | error r => rfl
    | ok y =>
      obtain ⟨e, nums, ps⟩ := y
      obtain ⟨i1, i2, -⟩ := flds_in hW hl h1
      simp only
      unfold next
      rw [kind_after hs h hW (by omega) i2 (.inr (.inr (.inr (.inr (.inr (sum_gap hs hp i1))))))]
theorem val_after {p : Nat} {s s' : ByteArray} (hs : ∀ i, p ≤ i → s.data.toList[i]? = s'.data.toList[i]?) (L : List Fm) : ∀ n, AftS p (val L s n) (val L s' n)
  | 0 => fun _ _ _ _ _ _ _ => rfl
  | n + 1 => fun id d a l c hp hl => by
    show Rec.ends (flds s (val L s n) id d a l c (fieldsOf L id) (fieldsOf L id).length) = Rec.ends (flds s' (val L s' n) id d a l c (fieldsOf L id) (fieldsOf L id).length)
    rw [flds_after hs (val_after hs L n) (val_in L s n) hp hl]
end Rt
end AgrP
section ReaP
open Go.RowKit Fx Rec
namespace Rt

/-! where a refusal stands -/
/-- A refusal between lo and hi. -/
def ErrOk (L : List Fm) (lo hi : Nat) (r : Rf) : Prop := ∃ i k o : Nat, At L r.format i ∧ r.field = k ∧ k ≤ (L.getD i zm).fs.length ∧ r.offset = o ∧ lo ≤ o ∧ o ≤ hi ∧ 1 ≤ r.reason ∧ r.reason ≤ 5 ∧
  (r.reason = 2 ∨ r.reason = 3 → k < (L.getD i zm).fs.length ∧ o + ((L.getD i zm).fs.getD k zf).n.toNat + ((L.getD i zm).fs.getD k zf).text.size ≤ hi ∧ 0 ≤ ((L.getD i zm).fs.getD k zf).n)
theorem ErrOk.wide {L : List Fm} {lo hi lo' hi' : Nat} {r : Rf} (h : ErrOk L lo hi r) (h1 : lo' ≤ lo) (h2 : hi ≤ hi') : ErrOk L lo' hi' r := by
  obtain ⟨i, k, o, a, b, c, d, e, f, g1, g2, g3⟩ := h
  exact ⟨i, k, o, a, b, c, d, by omega, by omega, g1, g2, fun q => by have := g3 q; omega⟩
theorem err_mk {L : List Fm} {id : Int} {i k o lo hi : Nat} {q : Int} (ha : At L id i) (hk : k ≤ (L.getD i zm).fs.length) (h1 : lo ≤ o) (h2 : o ≤ hi) (h3 : 1 ≤ q ∧ q ≤ 5) (h4 : q ≠ 2 ∧ q ≠ 3) : ErrOk L lo hi ⟨o, id, k, q⟩ :=
  ⟨i, k, o, ha, rfl, hk, rfl, h1, h2, h3.1, h3.2, fun h => by rcases h with h | h; exact absurd h h4.1; exact absurd h h4.2⟩
abbrev ErrS (L : List Fm) (sub : Sub) (id : Int) : Prop := ∀ d a l c r, sub id d a l c = .error r → a ≤ l → ErrOk L a l r
theorem reps_err {L : List Fm} {sub : Sub} {id : Int} (h : ErrS L sub id) (hW : Within sub) {depth : Int} {limit at_ cnt : Nat} (hl : at_ ≤ limit) : ∀ {n : Nat} {r : Rf}, reps sub id depth limit at_ cnt n = .error r → ErrOk L at_ limit r
  | 0, r, hr => by rw [reps] at hr; cases hr
  | n + 1, r, hr => by
    rw [reps] at hr
    split at hr
    · rename_i r1 h1
      cases hr
      exact reps_err h hW hl h1
    · rename_i e1 ps1 h1
      have i1 := reps_in hW hl h1
      split at hr
      · rename_i r2 h2
        cases hr
        exact (h _ _ _ _ _ h2 i1.2).wide i1.1 (Nat.le_refl _)
      · cases hr
theorem short_err {id : Int} {k a l n : Nat} {x : Except Rf (Nat × Int × List Pt)} {r : Rf} (h : short id k a l n x = .error r) : (l < a + n ∧ r = ⟨a, id, k, 1⟩) ∨ (a + n ≤ l ∧ x = .error r) := by
  unfold short at h
  split at h
  · cases h; exact .inl ⟨by assumption, rfl⟩
  · exact .inr ⟨by omega, h⟩
theorem unless_err {b : Bool} {q r : Rf} {x : Except Rf (Nat × Int × List Pt)} (h : unlessB b q x = .error r) : (b = false ∧ r = q) ∨ (b = true ∧ x = .error r) := by
  unfold unlessB at h
  split at h
  · exact .inr ⟨by assumption, h⟩
  · cases h; exact .inl ⟨by simpa using ‹¬ b = true›, rfl⟩
theorem kind_err {L : List Fm} {N : Nat} {s : ByteArray} {sub : Sub} {id depth : Int} {start limit k i : Nat} {fs : List Fld} {nums : List Int} {at_ cnt : Nat} {r : Rf} (hat : At L id i) (hfs : (L.getD i zm).fs = fs) (hk : k < fs.length) (hG : Good L N fs)
    (h : (fs.getD k zf).kind = 4 ∨ (fs.getD k zf).kind = 5 → ErrS L sub (fs.getD k zf).n) (hW : Within sub) (hl : at_ ≤ limit) (hr : kind s sub id depth start limit k (fs.getD k zf) nums at_ cnt = .error r) (ht : (fs.getD k zf).kind = 1 → (fs.getD k zf).n = 0) (hx : (fs.getD k zf).kind = 6 → (fs.getD k zf).text.size = 0) : ErrOk L at_ limit r := by
  have mk : ∀ (o : Nat) (q : Int), at_ ≤ o → o ≤ limit → 1 ≤ q ∧ q ≤ 5 → q ≠ 2 ∧ q ≠ 3 → ErrOk L at_ limit ⟨o, id, k, q⟩ := fun o q h1 h2 h3 h4 => err_mk hat (by rw [hfs]; omega) h1 h2 h3 h4
  unfold kind at hr
  split at hr
  · rename_i h1
    rcases short_err hr with ⟨_, rfl⟩ | ⟨g1, g2⟩
    · exact mk _ _ (Nat.le_refl _) hl (by decide) (by decide)
    · rcases unless_err g2 with ⟨_, rfl⟩ | ⟨_, g3⟩
      · have := ht h1
        exact ⟨i, k, at_, hat, rfl, by rw [hfs]; omega, rfl, Nat.le_refl _, hl, show (1 : Int) ≤ 2 by decide, show (2 : Int) ≤ 5 by decide, fun _ => ⟨by rw [hfs]; exact hk, by rw [hfs]; omega, by rw [hfs]; omega⟩⟩
      · cases g3
  · split at hr
    · rcases short_err hr with ⟨_, rfl⟩ | ⟨g1, g2⟩
      · exact mk _ _ (Nat.le_refl _) hl (by decide) (by decide)
      · cases g2
    · split at hr
      · split at hr
        · rcases short_err hr with ⟨_, rfl⟩ | ⟨g1, g2⟩
          · exact mk _ _ (Nat.le_refl _) hl (by decide) (by decide)
          · cases g2
        · rcases short_err hr with ⟨_, rfl⟩ | ⟨g1, g2⟩
          · exact mk _ _ (Nat.le_refl _) hl (by decide) (by decide)
          · cases g2
      · split at hr
        · rename_i h4
          unfold listed at hr
          split at hr
          · rename_i r2 h2
            cases hr
            exact reps_err (h (.inl h4)) hW hl h2
          · cases hr
        · split at hr
          · rename_i h5
            rcases short_err hr with ⟨_, rfl⟩ | ⟨g1, g2⟩
            · exact mk _ _ (Nat.le_refl _) hl (by decide) (by decide)
            · unfold boxed at g2
              split at g2
              · rename_i r2 h2
                cases g2
                exact (h (.inr h5) _ _ _ _ _ h2 (by omega)).wide (Nat.le_refl _) g1
              · rename_i e ps h2
                have hin := hW _ _ _ _ _ _ _ h2 (by omega)
                split at g2
                · cases g2
                  exact mk _ _ hin.1 (by omega) (by decide) (by decide)
                · cases g2
          · rename_i h1 h2 h3 h4 h5
            have o := (hG.ok k hk).ok
            have h6 : (fs.getD k zf).kind = 6 := by have := o.lo; have := o.hi; omega
            have hn := o.k2 (.inr h6)
            rcases short_err hr with ⟨_, rfl⟩ | ⟨g1, g2⟩
            · exact mk _ _ (Nat.le_refl _) hl (by decide) (by decide)
            · rcases unless_err g2 with ⟨_, rfl⟩ | ⟨_, g3⟩
              · have := hx h6
                exact ⟨i, k, at_, hat, rfl, by rw [hfs]; omega, rfl, Nat.le_refl _, hl, show (1 : Int) ≤ 3 by decide, show (3 : Int) ≤ 5 by decide, fun _ => ⟨by rw [hfs]; exact hk, by rw [hfs]; omega, by rw [hfs]; omega⟩⟩
              · cases g3
theorem flds_err {L : List Fm} {N : Nat} {s : ByteArray} {sub : Sub} {id depth : Int} {start limit cnt i : Nat} {fs : List Fld} (hat : At L id i) (hfs : (L.getD i zm).fs = fs) (hG : Good L N fs) (ht : ∀ k, k < fs.length → (fs.getD k zf).kind = 1 → (fs.getD k zf).n = 0) (hx : ∀ k, k < fs.length → (fs.getD k zf).kind = 6 → (fs.getD k zf).text.size = 0)
    (h : ∀ k, k < fs.length → (fs.getD k zf).kind = 4 ∨ (fs.getD k zf).kind = 5 → ErrS L sub (fs.getD k zf).n) (hW : Within sub) (hl : start ≤ limit) : ∀ {k : Nat} {r : Rf}, k ≤ fs.length → flds s sub id depth start limit cnt fs k = .error r → ErrOk L start limit r
  | 0, r, _, hr => by rw [flds] at hr; cases hr
  | k + 1, r, hk, hr => by
    rw [flds] at hr
    split at hr
    · rename_i r1 h1
      cases hr
      exact flds_err hat hfs hG ht hx h hW hl (by omega) h1
    · rename_i at1 nums1 ps1 h1
      obtain ⟨i1, i2, -⟩ := flds_in hW hl h1
      split at hr
      · rename_i r2 h2
        cases hr
        unfold next at h2
        split at h2
        · cases h2
          exact err_mk hat (by rw [hfs]; omega) i1 i2 (by decide) (by decide)
        · exact (kind_err hat hfs (by omega) hG (h k (by omega)) hW i2 h2 (ht k (by omega)) (hx k (by omega))).wide i1 (Nat.le_refl _)
      · cases hr
theorem plain_fields {L : List Fm} (h : Ok L) {i : Nat} (hi : i < L.length) {k : Nat} (hk : k < (L.getD i zm).fs.length) : (((L.getD i zm).fs.getD k zf).kind = 1 → ((L.getD i zm).fs.getD k zf).n = 0) ∧ (((L.getD i zm).fs.getD k zf).kind = 6 → ((L.getD i zm).fs.getD k zf).text.size = 0) := by
  have hr := (h.each i hi).each k hk
  unfold right at hr
  constructor
  · intro h1
    rw [if_pos h1] at hr
    exact (literal_of hr).1
  · intro h1
    rw [if_neg (by omega), if_neg (by omega), if_neg (by omega), if_neg (by omega), if_neg (by omega), if_pos h1] at hr
    exact (sized_of hr).2.1
theorem val_err {L : List Fm} (hok : Ok L) (s : ByteArray) : ∀ (n : Nat) (id : Int) (i : Nat), At L id i → i < n → ErrS L (val L s n) id
  | 0, _, _, _, hi => absurd hi (Nat.not_lt_zero _)
  | n + 1, id, i, hat, hi => fun d a l c r hr hl => by
    have hr : Rec.ends (flds s (val L s n) id d a l c (fieldsOf L id) (fieldsOf L id).length) = .error r := hr
    rw [fieldsOf_at hok hat] at hr
    unfold Rec.ends at hr
    split at hr
    · rename_i r1 h1
      cases hr
      exact flds_err hat rfl (good_of hok hat.1 (show i ≤ n by omega)) (fun k hk => (plain_fields hok hat.1 hk).1) (fun k hk => (plain_fields hok hat.1 hk).2) (fun k hk hkd => by
        obtain ⟨-, j, hj, hjn⟩ := (fokw_of hok hat.1 (show i ≤ n by omega) hk).ok.k4 hkd
        exact val_err hok s n _ j hj hjn) (val_in L s n) hl (Nat.le_refl _) h1
    · cases hr
/-- What a refusal says. -/
theorem mtch_err {L : List Fm} {id : Int} {s : ByteArray} {r : Rf} {i : Nat} (hok : Ok L) (hat : At L id i) (hs : s.size ≤ 65536) (h : mtch L id s = .error r) : ErrOk L 0 s.size r ∧ (r.reason = 2 ∨ r.reason = 3 → val L s 61 id 0 0 s.size 0 = .error r) := by
  unfold mtch whole at h
  rw [if_pos ⟨vd_iff.2 hok, hs⟩, if_pos (has_iff.2 ⟨i, hat⟩)] at h
  have hi : i < 61 := by have := hat.1; have := hok.few; omega
  split at h
  · rename_i r1 h1
    cases h
    exact ⟨val_err hok s 61 id i hat hi _ _ _ _ _ h1 (Nat.zero_le _), fun _ => h1⟩
  · rename_i e ps h1
    split at h
    · cases h
      have hin := val_in L s 61 _ _ _ _ _ _ _ h1 (Nat.zero_le _)
      rw [fieldsOf_at hok hat]
      exact ⟨err_mk hat (Nat.le_refl _) (Nat.zero_le _) hin.2 (by decide) (by decide), fun h => by rcases h with h | h <;> cases h⟩
    · cases h
/-! what a refusal for a literal or a checksum depends on -/
def Early (L : List Fm) (E : Nat) (r : Rf) : Prop := (r.reason = 2 ∨ r.reason = 3) ∧ ∃ i k o : Nat, At L r.format i ∧ r.field = k ∧ r.offset = o ∧ o + ((L.getD i zm).fs.getD k zf).n.toNat + ((L.getD i zm).fs.getD k zf).text.size ≤ E
theorem late {L : List Fm} {E lo hi : Nat} {r : Rf} (h : ErrOk L lo hi r) (hE : E < lo) : ¬ Early L E r := by
  rintro ⟨-, i, k, o, _, _, e1, e2⟩
  obtain ⟨_, _, o', _, _, _, e3, e4, _⟩ := h
  omega
theorem other {L : List Fm} {E : Nat} {o id k q : Int} (h : q ≠ 2 ∧ q ≠ 3) : ¬ Early L E ⟨o, id, k, q⟩ := fun he => he.1.elim h.1 h.2
/-- What is read of the one, where the other is recognised. -/
def Like {α : Type} (L : List Fm) (E : Nat) (pos : α → Nat) (x : Except Rf α) (y : α) : Prop :=
  match x with
  | .error r => ¬ Early L E r
  | .ok z => z = y ∨ E < pos z
abbrev RS (L : List Fm) (E : Nat) (sub sub' : Sub) (id : Int) : Prop := ∀ d a l l' c y, sub' id d a l' c = .ok y → a ≤ l → a ≤ l' → Like L E (·.1) (sub id d a l c) y
theorem reps_like {L : List Fm} {E : Nat} {sub sub' : Sub} {id : Int} (h : RS L E sub sub' id) (he : ErrS L sub id) (hW : Within sub) (hW' : Within sub') {depth : Int} {limit limit' at_ cnt : Nat} (hl : at_ ≤ limit) (hl' : at_ ≤ limit') : ∀ {n : Nat} {y : Nat × List Pt}, reps sub' id depth limit' at_ cnt n = .ok y → Like L E (·.1) (reps sub id depth limit at_ cnt n) y
  | 0, y, hr => by
    rw [reps] at hr ⊢
    cases hr
    exact .inl rfl
  | n + 1, y, hr => by
    rw [reps] at hr
    split at hr
    · cases hr
    · rename_i e1 ps1 h1
      have i1 := reps_in hW' hl' h1
      have ih := reps_like h he hW hW' hl hl' h1
      split at hr
      · cases hr
      · rename_i e2 qs h2
        cases hr
        rw [reps]
        cases hq : reps sub id depth limit at_ cnt n with
        | error r => rw [hq] at ih; exact ih
        | ok z =>
          rw [hq] at ih
          obtain ⟨ez, pz⟩ := z
          have i2 := reps_in hW hl hq
          simp only
          rcases ih with ih | ih
          · cases ih
            have hs := h _ _ _ _ _ _ h2 i2.2 i1.2
            cases hv : sub id depth e1 limit (cnt + ps1.length) with
            | error r => rw [hv] at hs; exact hs
            | ok v =>
              rw [hv] at hs
              obtain ⟨ev, pv⟩ := v
              rcases hs with hs | hs
              · cases hs; exact .inl rfl
              · exact .inr hs
          · cases hv : sub id depth ez limit (cnt + pz.length) with
            | error r => exact late (he _ _ _ _ _ hv i2.2) ih
            | ok v =>
              obtain ⟨ev, pv⟩ := v
              have i3 := hW _ _ _ _ _ _ _ hv i2.2
              exact .inr (Nat.lt_of_lt_of_le ih i3.1)
theorem kind_like {L : List Fm} {N E : Nat} {s s' : ByteArray} (hs : ∀ i, i < E → s.data.toList[i]? = s'.data.toList[i]?) {sub sub' : Sub} {id depth : Int} {start limit limit' k i : Nat} {fs : List Fld} {nums : List Int} {at_ cnt : Nat} {y : Nat × Int × List Pt} (hat : At L id i) (hok : Ok L) (hfs : (L.getD i zm).fs = fs) (hk : k < fs.length) (hG : Good L N fs)
    (h : (fs.getD k zf).kind = 4 ∨ (fs.getD k zf).kind = 5 → RS L E sub sub' (fs.getD k zf).n ∧ ErrS L sub (fs.getD k zf).n) (hW : Within sub) (hW' : Within sub') (hst : start ≤ at_) (hl : at_ ≤ limit) (hl' : at_ ≤ limit')
    (hr : kind s' sub' id depth start limit' k (fs.getD k zf) nums at_ cnt = .ok y) : Like L E (·.1) (kind s sub id depth start limit k (fs.getD k zf) nums at_ cnt) y := by
  have early : ∀ {q : Int}, Early L E ⟨at_, id, k, q⟩ → at_ + (fs.getD k zf).n.toNat + (fs.getD k zf).text.size ≤ E := fun he => by
    obtain ⟨-, i', k', o, a1, a2, a3, a4⟩ := he
    simp only at a1 a2 a3
    obtain rfl : i' = i := by
      have b1 := a1.2
      have b2 := hat.2
      rcases Nat.lt_trichotomy i' i with c | c | c
      · have := asc_lt hok.asc c hat.1; omega
      · exact c
      · have := asc_lt hok.asc c a1.1; omega
    obtain rfl : k = k' := by omega
    obtain rfl : at_ = o := by omega
    rw [hfs] at a4
    exact a4
  have sh : ∀ {n : Nat} {x : Except Rf (Nat × Int × List Pt)}, (at_ + n ≤ limit → Like L E (·.1) x y) → Like L E (·.1) (short id k at_ limit n x) y := fun {n x} hx => by
    unfold short
    split
    · exact other (by decide)
    · exact hx (by omega)
  unfold kind at hr ⊢
  split at hr
  · rename_i h1
    rw [if_pos h1]
    obtain ⟨g1, g2⟩ := short_ok hr
    obtain ⟨g3, g4⟩ := unless_ok g2
    refine sh fun _ => ?_
    unfold unlessB
    split
    · rw [g4]; exact .inl rfl
    · rename_i hne
      intro he
      have := early he
      rw [ext_same (s := s) (s' := s') (fun i _ hi => hs i (by omega))] at hne
      exact hne g3
  · rename_i h1
    rw [if_neg h1]
    split at hr
    · rename_i h2
      rw [if_pos h2]
      obtain ⟨g1, g2⟩ := short_ok hr
      refine sh fun _ => ?_
      cases g2
      rcases Nat.lt_or_ge E (at_ + (fs.getD k zf).n.toNat) with q | q
      · exact .inr q
      · rw [ext_same (s := s) (s' := s') (fun i _ hi => hs i (by omega))]; exact .inl rfl
    · rename_i h2
      rw [if_neg h2]
      split at hr
      · rename_i h3
        rw [if_pos h3]
        split at hr
        · rename_i hf
          rw [if_pos hf]
          obtain ⟨g1, g2⟩ := short_ok hr
          refine sh fun _ => ?_
          rw [g2]; exact .inl rfl
        · rename_i hf
          rw [if_neg hf]
          obtain ⟨g1, g2⟩ := short_ok hr
          refine sh fun _ => ?_
          rw [g2]; exact .inl rfl
      · rename_i h3
        rw [if_neg h3]
        split at hr
        · rename_i h4
          rw [if_pos h4]
          obtain ⟨g1, g2⟩ := listed_ok hr
          have hq := reps_like (h (.inl h4)).1 (h (.inl h4)).2 hW hW' hl hl' g1
          obtain ⟨y1, y2, y3⟩ := y
          simp only at g2
          subst g2
          unfold listed
          cases hv : reps sub (fs.getD k zf).n (depth + 1) limit at_ cnt (told (fs.getD k zf) nums) with
          | error r => rw [hv] at hq; exact hq
          | ok v =>
            rw [hv] at hq
            obtain ⟨ev, pv⟩ := v
            rcases hq with hq | hq
            · cases hq; exact .inl rfl
            · exact .inr hq
        · rename_i h4
          rw [if_neg h4]
          split at hr
          · rename_i h5
            rw [if_pos h5]
            obtain ⟨g1, g2⟩ := short_ok hr
            obtain ⟨g3, g4, g5⟩ := boxed_ok g2
            refine sh fun _ => ?_
            have hq := (h (.inr h5)).1 _ _ (at_ + told (fs.getD k zf) nums) _ _ _ g3 (by omega) (by omega)
            unfold boxed
            cases hv : sub (fs.getD k zf).n (depth + 1) at_ (at_ + told (fs.getD k zf) nums) cnt with
            | error r => rw [hv] at hq; exact hq
            | ok v =>
              rw [hv] at hq
              obtain ⟨ev, pv⟩ := v
              simp only
              split
              · exact other (by decide)
              · rcases hq with hq | hq
                · obtain ⟨y1, y2, y3⟩ := y
                  simp only at g4
                  subst g4
                  cases hq; exact .inl rfl
                · exact .inr hq
          · rename_i h5
            rw [if_neg h5]
            have o := (hG.ok k hk).ok
            have h6 : (fs.getD k zf).kind = 6 := by have := o.lo; have := o.hi; omega
            have hn := o.k2 (.inr h6)
            obtain ⟨g1, g2⟩ := short_ok hr
            obtain ⟨g3, g4⟩ := unless_ok g2
            refine sh fun _ => ?_
            cases g4
            rcases Nat.lt_or_ge E (at_ + (fs.getD k zf).n.toNat) with q | q
            · unfold unlessB
              split
              · exact .inr q
              · intro he
                have := early he
                omega
            · have e1 := ext_same (s := s) (s' := s') (a := at_) (n := (fs.getD k zf).n.toNat) (fun i _ hi => hs i (by omega))
              rw [e1, sumTo_same (s := s) (s' := s') (n := at_) (fun i hi => hs i (by omega)), sumTo_same (s := s) (s' := s') (n := start) (fun i hi => hs i (by omega)), g3]
              exact .inl rfl
theorem flds_like {L : List Fm} {N E : Nat} {s s' : ByteArray} (hs : ∀ i, i < E → s.data.toList[i]? = s'.data.toList[i]?) {sub sub' : Sub} {id depth : Int} {start limit limit' cnt i : Nat} {fs : List Fld} (hat : At L id i) (hok : Ok L) (hfs : (L.getD i zm).fs = fs) (hG : Good L N fs)
    (h : ∀ k, k < fs.length → (fs.getD k zf).kind = 4 ∨ (fs.getD k zf).kind = 5 → RS L E sub sub' (fs.getD k zf).n ∧ ErrS L sub (fs.getD k zf).n) (hW : Within sub) (hW' : Within sub') (hl : start ≤ limit) (hl' : start ≤ limit') (ht : ∀ k, k < fs.length → (fs.getD k zf).kind = 1 → (fs.getD k zf).n = 0) (hx : ∀ k, k < fs.length → (fs.getD k zf).kind = 6 → (fs.getD k zf).text.size = 0) :
    ∀ {k : Nat} {y : Nat × List Int × List Pt}, k ≤ fs.length → flds s' sub' id depth start limit' cnt fs k = .ok y → Like L E (·.1) (flds s sub id depth start limit cnt fs k) y
  | 0, y, _, hr => by
    rw [flds] at hr ⊢
    cases hr
    exact .inl rfl
  | k + 1, y, hk, hr => by
    rw [flds] at hr
    split at hr
    · cases hr
    · rename_i at1 nums1 ps1 h1
      obtain ⟨i1, i2, -⟩ := flds_in hW' hl' h1
      have ih := flds_like hs hat hok hfs hG h hW hW' hl hl' ht hx (show k ≤ fs.length by omega) h1
      split at hr
      · cases hr
      · rename_i e2 n qs h2
        cases hr
        rw [flds]
        cases hq : flds s sub id depth start limit cnt fs k with
        | error r => rw [hq] at ih; exact ih
        | ok z =>
          rw [hq] at ih
          obtain ⟨ez, nz, pz⟩ := z
          obtain ⟨j1, j2, -⟩ := flds_in hW hl hq
          simp only
          rcases ih with ih | ih
          · cases ih
            unfold next at h2
            split at h2
            · cases h2
            · rename_i hc
              have hkl := kind_like hs hat hok hfs (show k < fs.length by omega) hG (h k (by omega)) hW hW' i1 j2 i2 h2
              unfold next
              rw [if_neg hc]
              cases hv : kind s sub id depth start limit k (fs.getD k zf) nums1 at1 (cnt + ps1.length + 1) with
              | error r => rw [hv] at hkl; exact hkl
              | ok v =>
                rw [hv] at hkl
                obtain ⟨ev, nv, pv⟩ := v
                rcases hkl with hkl | hkl
                · cases hkl; exact .inl rfl
                · exact .inr hkl
          · cases hv : next s sub id depth start limit k (fs.getD k zf) nz ez (cnt + pz.length) with
            | error r =>
              unfold next at hv
              split at hv
              · cases hv
                exact other (by decide)
              · exact late (kind_err hat hfs (show k < fs.length by omega) hG (fun hkd => (h k (by omega) hkd).2) hW j2 hv (ht k (by omega)) (hx k (by omega))) ih
            | ok v =>
              obtain ⟨ev, nv, pv⟩ := v
              have i3 := next_in hW j2 hv
              exact .inr (Nat.lt_of_lt_of_le ih i3.2.1)
theorem val_like {L : List Fm} (hok : Ok L) {E : Nat} {s s' : ByteArray} (hs : ∀ i, i < E → s.data.toList[i]? = s'.data.toList[i]?) : ∀ (n : Nat) (id : Int) (i : Nat), At L id i → i < n → RS L E (val L s n) (val L s' n) id
  | 0, _, _, _, hi => absurd hi (Nat.not_lt_zero _)
  | n + 1, id, i, hat, hi => fun d a l l' c y hr hl hl' => by
    have hr : Rec.ends (flds s' (val L s' n) id d a l' c (fieldsOf L id) (fieldsOf L id).length) = .ok (y.1, y.2) := hr
    show Like L E (·.1) (Rec.ends (flds s (val L s n) id d a l c (fieldsOf L id) (fieldsOf L id).length)) y
    rw [fieldsOf_at hok hat] at hr ⊢
    obtain ⟨nums, hr⟩ := ends_ok hr
    have hf := flds_like hs hat hok rfl (good_of hok hat.1 (show i ≤ n by omega)) (fun k hk hkd => by
      obtain ⟨-, j, hj, hjn⟩ := (fokw_of hok hat.1 (show i ≤ n by omega) hk).ok.k4 hkd
      exact ⟨val_like hok hs n _ j hj hjn, val_err hok s n _ j hj hjn⟩) (val_in L s n) (val_in L s' n) hl hl' (fun k hk => (plain_fields hok hat.1 hk).1) (fun k hk => (plain_fields hok hat.1 hk).2) (Nat.le_refl _) hr
    cases hq : flds s (val L s n) id d a l c (L.getD i zm).fs (L.getD i zm).fs.length with
    | error r => rw [hq] at hf; exact hf
    | ok z =>
      rw [hq] at hf
      obtain ⟨ez, nz, pz⟩ := z
      obtain ⟨y1, y2⟩ := y
      rcases hf with hf | hf
      · cases hf; exact .inl rfl
      · exact .inr hf
/-- A refusal for a literal or a checksum: no stream with the same bytes up to the end of the field is of the format. -/
theorem reasons {L : List Fm} {id : Int} {s z : ByteArray} {r : Rf} {i E : Nat} {qs : List Pt} (hok : Ok L) (hat : At L id i) (hs : s.size ≤ 65536) (h : mtch L id s = .error r) (he : Early L E r) (hz : ∀ j, j < E → s.data.toList[j]? = z.data.toList[j]?) : mtch L id z ≠ .ok qs := fun hq => by
  obtain ⟨_, _, _, _, hv'⟩ := mtch_ok hq
  have hv := (mtch_err hok hat hs h).2 he.1
  have hl := val_like hok hz 61 id i hat (by have := hat.1; have := hok.few; omega) _ _ s.size _ _ _ hv' (Nat.zero_le _) (Nat.zero_le _)
  rw [hv] at hl
  exact hl he
end Rt
end ReaP
section LstP
open Go.RowKit Fx Rec
namespace Rt

theorem lk_at {L : List Fm} (h : Ok L) {i : Nat} : ∀ m, i < m → m ≤ L.length → lkz (lm (L.take m)) (L.getD i zm).id = ls (lm (L.take i)) (L.getD i zm).fs
  | 0, hi, _ => absurd hi (Nat.not_lt_zero _)
  | m + 1, hi, hm => by
    rw [take_succ_getD L zm m (by omega), lm_snoc]
    unfold lkz
    rw [lk_cons]
    split
    · rename_i he
      have : m = i := by
        apply Classical.byContradiction
        intro hne
        have := asc_lt h.asc (show i < m by omega) (by omega)
        omega
      subst this
      rfl
    · rename_i he
      have hne : i ≠ m := fun e => he (by rw [e])
      exact lk_at h m (by omega) (by omega)
theorem kind3_n {L : List Fm} (h : Ok L) {i : Nat} (hi : i < L.length) {k : Nat} (hk : k < (L.getD i zm).fs.length) (h3 : ((L.getD i zm).fs.getD k zf).kind = 3) : ((L.getD i zm).fs.getD k zf).frm = -1 ∨ ((L.getD i zm).fs.getD k zf).n = 0 := by
  have hr := (h.each i hi).each k hk
  unfold right at hr
  rw [if_neg (by omega), if_neg (by omega), if_pos h3, Bool.or_eq_true] at hr
  rcases hr with hr | hr
  · exact .inl (sized_of hr).1
  · exact .inr (counted_of hr).1
abbrev LstS (sub : Sub) (id : Int) (n : Int) : Prop := ∀ d a l c e ps, sub id d a l c = .ok (e, ps) → a ≤ l → (a : Int) + n ≤ (e : Int)
theorem kind_least {L : List Fm} (hok : Ok L) {s : ByteArray} {sub : Sub} {id depth : Int} {start limit k i : Nat} {nums : List Int} {at_ cnt : Nat} {y : Nat × Int × List Pt} (hi : i < L.length) (hk : k < (L.getD i zm).fs.length)
    (h : ((L.getD i zm).fs.getD k zf).kind = 5 → LstS sub ((L.getD i zm).fs.getD k zf).n (lkz (lm (L.take i)) ((L.getD i zm).fs.getD k zf).n)) (hW : Within sub) (hl : at_ ≤ limit)
    (hr : kind s sub id depth start limit k ((L.getD i zm).fs.getD k zf) nums at_ cnt = .ok y) : (at_ : Int) + lf (lm (L.take i)) ((L.getD i zm).fs.getD k zf) ≤ (y.1 : Int) := by
  have hin := kind_in hW hl hr
  have o := fok_of hok hi (Nat.le_refl i) hk
  have hk3 := kind3_n hok hi hk
  obtain ⟨f, hf⟩ : ∃ f, f = (L.getD i zm).fs.getD k zf := ⟨_, rfl⟩
  rw [← hf] at h hr o hk3 ⊢
  unfold lf
  unfold kind at hr
  split at hr
  · rename_i h1
    rw [if_pos h1]
    obtain ⟨_, g2⟩ := short_ok hr
    obtain ⟨_, g4⟩ := unless_ok g2
    cases g4
    simp only
    omega
  · rename_i h1
    rw [if_neg h1]
    split at hr
    · rename_i h2
      rw [if_neg (by omega), if_neg (by omega)]
      have := o.k2 (.inl h2)
      obtain ⟨_, g2⟩ := short_ok hr
      cases g2
      simp only
      omega
    · rename_i h2
      split at hr
      · rename_i h3
        rw [if_neg (by omega), if_neg (by omega)]
        split at hr
        · obtain ⟨_, g2⟩ := short_ok hr
          cases g2
          simp only
          omega
        · rename_i hfm
          rcases hk3 h3 with q | q
          · exact absurd q hfm
          · obtain ⟨_, g2⟩ := short_ok hr
            cases g2
            simp only
            omega
      · rename_i h3
        split at hr
        · rename_i h4
          rw [if_pos h4]
          omega
        · rename_i h4
          rw [if_neg h4]
          split at hr
          · rename_i h5
            rw [if_pos h5]
            obtain ⟨g1, g2⟩ := short_ok hr
            exact h h5 _ _ _ _ _ _ (boxed_ok g2).1 (by omega)
          · rename_i h5
            rw [if_neg h5]
            have := o.k2 (.inr (by have := o.lo; have := o.hi; omega))
            obtain ⟨_, g2⟩ := short_ok hr
            obtain ⟨_, g4⟩ := unless_ok g2
            cases g4
            simp only
            omega
theorem flds_least {L : List Fm} (hok : Ok L) {s : ByteArray} {sub : Sub} {id depth : Int} {start limit cnt i : Nat} (hi : i < L.length)
    (h : ∀ k, k < (L.getD i zm).fs.length → ((L.getD i zm).fs.getD k zf).kind = 5 → LstS sub ((L.getD i zm).fs.getD k zf).n (lkz (lm (L.take i)) ((L.getD i zm).fs.getD k zf).n)) (hW : Within sub) (hl : start ≤ limit) :
    ∀ {k e : Nat} {nums : List Int} {ps : List Pt}, k ≤ (L.getD i zm).fs.length → flds s sub id depth start limit cnt (L.getD i zm).fs k = .ok (e, nums, ps) → (start : Int) + ls (lm (L.take i)) ((L.getD i zm).fs.take k) ≤ (e : Int)
  | 0, e, nums, ps, _, hr => by
    rw [flds] at hr
    cases hr
    simp [ls]
  | k + 1, e, nums, ps, hk, hr => by
    rw [flds] at hr
    split at hr
    · cases hr
    · rename_i at1 nums1 ps1 h1
      obtain ⟨i1, i2, -⟩ := flds_in hW hl h1
      have ih := flds_least hok hi h hW hl (by omega) h1
      split at hr
      · cases hr
      · rename_i e2 n qs h2
        cases hr
        unfold next at h2
        split at h2
        · cases h2
        · have hkl := kind_least hok hi (show k < (L.getD i zm).fs.length by omega) (h k (by omega)) hW i2 h2
          rw [take_succ_getD _ zf k (by omega), ls_snoc]
          simp only at hkl
          omega
theorem val_least {L : List Fm} (hok : Ok L) (s : ByteArray) : ∀ (n : Nat) (id : Int) (i : Nat), At L id i → i < n → LstS (val L s n) id (ls (lm (L.take i)) (L.getD i zm).fs)
  | 0, _, _, _, hi => absurd hi (Nat.not_lt_zero _)
  | n + 1, id, i, hat, hi => fun d a l c e ps hr hl => by
    have hr : Rec.ends (flds s (val L s n) id d a l c (fieldsOf L id) (fieldsOf L id).length) = .ok (e, ps) := hr
    rw [fieldsOf_at hok hat] at hr
    obtain ⟨nums, hr⟩ := ends_ok hr
    have := flds_least hok hat.1 (fun k hk h5 => by
      obtain ⟨-, j, hj, hjn⟩ := (fok_of hok hat.1 (Nat.le_refl i) hk).k4 (.inr h5)
      have e1 := lk_at hok (i := j) i hjn (by have := hat.1; omega)
      rw [hj.2] at e1
      rw [e1]
      exact val_least hok s n _ j hj (by omega)) (val_in L s n) hl (Nat.le_refl _) hr
    rw [List.take_length] at this
    exact this
/-- A stream that is of a format has at least its least length. -/
theorem mtch_least {L : List Fm} {id : Int} {s : ByteArray} {ps : List Pt} (h : mtch L id s = .ok ps) : least L id ≤ (s.size : Int) := by
  obtain ⟨hok, _, i, ha, hv⟩ := mtch_ok h
  have h1 := val_least hok s 61 id i ha (by have := ha.1; have := hok.few; omega) _ _ _ _ _ _ hv (Nat.zero_le _)
  have h2 := lk_at hok (i := i) L.length ha.1 (Nat.le_refl _)
  rw [List.take_length, ha.2] at h2
  unfold least
  rw [if_pos (vd_iff.2 hok), h2]
  omega
end Rt
end LstP
section ChgA
open Go.RowKit Go.Sort Fx Rec

theorem empty_of_size {s : ByteArray} (h : s.size = 0) : s = ByteArray.empty := by
  apply ByteArray.ext
  apply Array.eq_empty_of_size_eq_zero
  exact h
set_option maxRecDepth 20000 in
set_option maxHeartbeats 600000 in
theorem changed_any (s : ByteArray) (a c : Int) (w : World) (hs : s.size ≤ 1000000) (a1 : -9223372036854775808 ≤ a) (a2 : a ≤ 9223372036854775807) :
    Calls Tryz.prog 17 #[.string s, .int .i64 a, .int .u8 c] w fun e w' => ∃ t, e = .returned (.string t) ∧ t.size = s.size ∧ Below w.heap.size w w' := by
  by_cases h0 : s.size = 0
  · obtain rfl := empty_of_size h0
    go_enter Tryz.func17, Tryz.ntmps17
    go_wp2_with fail
    first | go_end0 | go_ret
    exact ⟨_, rfl, rfl, Below.refl _ _⟩
  · obtain ⟨n, hn⟩ : ∃ n, n = s.size := ⟨_, rfl⟩
    have hne : ¬ s.toList = [] := fun h => h0 (by
      rw [ByteArray.toList_eq] at h
      have := congrArg List.length h
      simpa using this)
    have hne2 : s.toList.isEmpty = false := by rw [Bool.eq_false_iff]; intro h; exact hne (List.isEmpty_iff.1 h)
    obtain ⟨k, hk, hkn⟩ := cpick_nat a n (by omega)
    have e3 : (0 : Int) ≤ (k : Int) ∧ (k : Int) + 1 ≤ (n : Int) := by omega
    have HP := Lib.hid (And.intro (show pickI a (s.size : Nat) = (k : Nat) from by rw [← hn]; exact hk) (And.intro a1 a2))
    have e4 : (0 : Int) ≤ (k : Int) ∧ (k : Int) < (s.size : Int) ∧ (k : Int) + 1 ≤ (s.size : Int) := by omega
    clear hk a1 a2 e3 hn hkn
    go_enter Tryz.func17, Tryz.ntmps17
    go_wp2_with fail
    refine (fpick_any a s.size k w HP.out.2.1 HP.out.2.2 (by omega) (by omega) HP.out.1).mono ?_
    rintro e w3 ⟨rfl, e3w⟩
    subst e3w
    go_wp2_with fail
    have hcv : (convert 64 9 (.slice (some ⟨w3.heap.size, 0, none⟩) 1 1)).run Tryz.prog (w3.alloc (.cells #[.int .u8 c] 5)).drew = .ok (.string ⟨#[UInt8.ofNat c.toNat]⟩) (w3.alloc (.cells #[.int .u8 c] 5)).drew := by
      have hb := Blk.new w3 5 #[.int .u8 c]
      rw [run_convert_bytes_arg (P := Tryz.prog) _ 64 5 Tryz.underlying64 Tryz.underlying5 w3.heap.size 0 1 1 [c] rfl ?_ 9 Tryz.underlying9]
      · rfl
      · intro i hi
        obtain rfl : i = 0 := by omega
        rw [Nat.zero_add]
        exact hb.cell 0
    go_region
    have hsz : (s.extract 0 k ++ (⟨#[UInt8.ofNat c.toNat]⟩ : ByteArray) ++ s.extract (k + 1) s.size).size = s.size := by
      rw [ByteArray.size_append, ByteArray.size_append, ByteArray.size_extract, ByteArray.size_extract]
      have : (⟨#[UInt8.ofNat c.toNat]⟩ : ByteArray).size = 1 := rfl
      omega
    have HZ := Lib.hid hsz
    have hb : Below w3.heap.size w3 (w3.alloc (.cells #[.int .u8 c] 5)).drew := (bx _).trans ((drewN_below _ 1).mono (by simp))
    have HB := Lib.hid hb
    clear hsz hb hcv
    go_wp2_with fail
    first | go_end0 | go_ret
    exact ⟨_, rfl, HZ.out, HB.out⟩
end ChgA
end Go.Proofs.YtdndmhlmbpgdeaaGreatDoor
