/- The functions of fractions, for valid fractions, in terms of rational numbers. Condition: the variable of the error holds a pointer. (Written by gen_v.py.) -/
import Derived.Test.YtphphamfejgdaaaGreatDoorRatClamp
namespace Go.Proofs.YtphphamfejgdaaaGreatDoor
open Go.RowKit

/-- The fraction a / b stands for p. -/
structure Is (p : Rat) (a b : Int) : Prop where
  fits : Rt.fits p = true
  num : p.num = a
  den : (p.den : Int) = b
theorem Is.bounds {p : Rat} {a b : Int} (h : Is p a b) : -1000000000 ≤ a ∧ a ≤ 1000000000 ∧ 1 ≤ b ∧ b ≤ 1000000000 := by
  obtain ⟨h1, h2⟩ := Rt.fits_iff.1 h.fits
  have := p.den_pos
  have := h.num
  have := h.den
  omega
theorem Is.rd {p : Rat} {a b : Int} (h : Is p a b) : Rt.rd a b = some p := by
  rw [← h.num, ← h.den]; exact Rt.rd_self h.fits
theorem Is.of {p q : Rat} (h : Rt.fit p = some q) : Is q q.num q.den := ⟨(Rt.fit_some h).1 ▸ (Rt.fit_some h).2, rfl, rfl⟩
theorem Is.made {n d : Int} {q : Rat} (h : Rt.mk n d = some q) : Is q q.num q.den := ⟨(Rt.mk_some h).2.2, rfl, rfl⟩
theorem Is.eq {p q : Rat} {a b : Int} (hp : Is p a b) (hq : Is q a b) : p = q := Rat.ext (hp.num.trans hq.num.symm) (by have := hp.den; have := hq.den; omega)
/-- The parts of a result. -/
structure Parts (o : Option Rat) (x y z : Int) : Prop where
  nm : Rt.nm o = x
  dn : Rt.dn o = y
  er : Rt.er o = z
theorem Parts.of (o : Option Rat) : Parts o (Rt.nm o) (Rt.dn o) (Rt.er o) := ⟨rfl, rfl, rfl⟩
/-- A result is a fraction, with no error, or it is 0 / 0 with the error. -/
theorem Parts.cases {o : Option Rat} {x y z : Int} (h : Parts o x y z) : (z = 0 ∧ ∃ q, o = some q ∧ q.num = x ∧ (q.den : Int) = y) ∨ (z = 30 ∧ x = 0 ∧ y = 0 ∧ o = none) := by
  obtain ⟨rfl, rfl, rfl⟩ := h
  cases o with
  | some q => exact .inl ⟨rfl, q, rfl, rfl, rfl⟩
  | none => exact .inr ⟨rfl, rfl, rfl, rfl⟩
/-- A result that fits, of a number that is fitted in. -/
theorem Parts.is {p : Rat} {x y z : Int} (h : Parts (Rt.fit p) x y z) (hz : z = 0) : Is p x y ∧ Rt.fit p = some p := by
  rcases h.cases with ⟨_, q, hq, hx, hy⟩ | ⟨h1, _⟩
  · obtain ⟨e, f⟩ := Rt.fit_some hq
    subst e
    exact ⟨⟨f, hx, hy⟩, hq⟩
  · omega
theorem Parts.val {o : Option Rat} {x y z : Int} (h : Parts o x y z) (hz : z = 0) : ∃ p, o = some p ∧ p.num = x ∧ (p.den : Int) = y := by
  rcases h.cases with ⟨_, q, hq, hx, hy⟩ | ⟨h1, _⟩
  · exact ⟨q, hq, hx, hy⟩
  · omega
theorem Parts.err {o : Option Rat} {x y z : Int} (h : Parts o x y z) : z = 0 ∨ z = 30 := by
  rcases h.cases with ⟨h, _⟩ | ⟨h, _⟩
  · exact .inl h
  · exact .inr h
theorem Parts.fits {p : Rat} {a b x y z : Int} (h : Parts (Rt.fit p) x y z) (hp : Is p a b) : z = 0 ∧ x = a ∧ y = b := by
  obtain ⟨h1, h2, h3⟩ := h
  rw [Rt.fit_of hp.fits] at h1 h2 h3
  exact ⟨h3.symm, h1.symm.trans hp.num, h2.symm.trans hp.den⟩

theorem addF (p q : Rat) (o : Option Rat) (a b c d x y z : Int) (er : Addr) (w : World) (hp : Is p a b) (hq : Is q c d) (hE : ErrAt w er) (ho : Rt.fit (p + q) = o) (hx : Parts o x y z) :
    Calls Tryz.prog 10 #[frac a b, frac c d] w fun e w' => e = .returned (.tuple #[frac x y, .int .i64 z]) ∧ Below w.heap.size w w' := by
  have h1 := hp.bounds
  have h2 := hq.bounds
  have e : Rt.addO a b c d = o := by rw [← ho, ← hp.num, ← hp.den, ← hq.num, ← hq.den, Rt.add_self hp.fits hq.fits]
  exact add_any a b c d x y z er w (by omega) (by omega) (by omega) (by omega) (by omega) (by omega) (by omega) (by omega) hE (by rw [e]; exact hx.nm) (by rw [e]; exact hx.dn) (by rw [e]; exact hx.er)
theorem subF (p q : Rat) (o : Option Rat) (a b c d x y z : Int) (er : Addr) (w : World) (hp : Is p a b) (hq : Is q c d) (hE : ErrAt w er) (ho : Rt.fit (p - q) = o) (hx : Parts o x y z) :
    Calls Tryz.prog 12 #[frac a b, frac c d] w fun e w' => e = .returned (.tuple #[frac x y, .int .i64 z]) ∧ Below w.heap.size w w' := by
  have h1 := hp.bounds
  have h2 := hq.bounds
  have e : Rt.subO a b c d = o := by rw [← ho, ← hp.num, ← hp.den, ← hq.num, ← hq.den, Rt.sub_self hp.fits hq.fits]
  exact sub_any a b c d x y z er w (by omega) (by omega) (by omega) (by omega) (by omega) (by omega) (by omega) (by omega) hE (by rw [e]; exact hx.nm) (by rw [e]; exact hx.dn) (by rw [e]; exact hx.er)
theorem mulF (p q : Rat) (o : Option Rat) (a b c d x y z : Int) (er : Addr) (w : World) (hp : Is p a b) (hq : Is q c d) (hE : ErrAt w er) (ho : Rt.fit (p * q) = o) (hx : Parts o x y z) :
    Calls Tryz.prog 14 #[frac a b, frac c d] w fun e w' => e = .returned (.tuple #[frac x y, .int .i64 z]) ∧ Below w.heap.size w w' := by
  have h1 := hp.bounds
  have h2 := hq.bounds
  have e : Rt.mulO a b c d = o := by rw [← ho, ← hp.num, ← hp.den, ← hq.num, ← hq.den, Rt.mul_self hp.fits hq.fits]
  exact mul_any a b c d x y z er w (by omega) (by omega) (by omega) (by omega) (by omega) (by omega) (by omega) (by omega) hE (by rw [e]; exact hx.nm) (by rw [e]; exact hx.dn) (by rw [e]; exact hx.er)
theorem divF (p q : Rat) (o : Option Rat) (a b c d x y z : Int) (er : Addr) (w : World) (hp : Is p a b) (hq : Is q c d) (hE : ErrAt w er) (ho : (if q = 0 then none else Rt.fit (p / q)) = o) (hx : Parts o x y z) :
    Calls Tryz.prog 16 #[frac a b, frac c d] w fun e w' => e = .returned (.tuple #[frac x y, .int .i64 z]) ∧ Below w.heap.size w w' := by
  have h1 := hp.bounds
  have h2 := hq.bounds
  have e : Rt.divO a b c d = o := by rw [← ho, ← hp.num, ← hp.den, ← hq.num, ← hq.den, Rt.div_self hp.fits hq.fits]
  exact div_any a b c d x y z er w (by omega) (by omega) (by omega) (by omega) (by omega) (by omega) (by omega) (by omega) hE (by rw [e]; exact hx.nm) (by rw [e]; exact hx.dn) (by rw [e]; exact hx.er)
theorem cmpF (p q : Rat) (a b c d r : Int) (er : Addr) (w : World) (hp : Is p a b) (hq : Is q c d) (hE : ErrAt w er) (hr : Rt.cmpR p q = r) :
    Calls Tryz.prog 22 #[frac a b, frac c d] w fun e w' => e = .returned (.int .i64 r) ∧ Below w.heap.size w w' := by
  have h1 := hp.bounds
  have h2 := hq.bounds
  have e : Rt.cmpO a b c d = r := by rw [← hr, ← hp.num, ← hp.den, ← hq.num, ← hq.den, Rt.cmp_self hp.fits hq.fits]
  exact Compare_any a b c d r er w (by omega) (by omega) (by omega) (by omega) (by omega) (by omega) (by omega) (by omega) hE e
theorem floorF (p : Rat) (a b k : Int) (er : Addr) (w : World) (hp : Is p a b) (hE : ErrAt w er) (hk : a / b = k) :
    Calls Tryz.prog 24 #[frac a b] w fun e w' => e = .returned (.int .i64 k) ∧ Below w.heap.size w w' := by
  have h1 := hp.bounds
  have e : Rt.floorO a b = k := by rw [← hk, ← hp.num, ← hp.den, Rt.floor_self hp.fits]
  exact Floor_any a b k er w (by omega) (by omega) (by omega) (by omega) hE e
theorem roundF (p : Rat) (o : Option Rat) (a b k x y z : Int) (er : Addr) (w : World) (hp : Is p a b) (k1 : 1 ≤ k) (k2 : k ≤ 1000000000) (hE : ErrAt w er) (ho : Rt.mk (Rt.near p k) k = o) (hx : Parts o x y z) :
    Calls Tryz.prog 18 #[frac a b, .int .i64 k] w fun e w' => e = .returned (.tuple #[frac x y, .int .i64 z]) ∧ Below w.heap.size w w' := by
  have h1 := hp.bounds
  have e : Rt.roundO a b k = o := by rw [← ho, ← hp.num, ← hp.den, Rt.round_self hp.fits k1 k2]
  exact round_any a b k x y z er w (by omega) (by omega) (by omega) (by omega) (by omega) (by omega) hE (by rw [e]; exact hx.nm) (by rw [e]; exact hx.dn) (by rw [e]; exact hx.er)
theorem clampF (p l h : Rat) (a b c d e f x y : Int) (er : Addr) (w : World) (hp : Is p a b) (hl : Is l c d) (hh : Is h e f) (hE : ErrAt w er)
    (hx : Is (if Rt.cmpR p l < 0 then l else if 0 < Rt.cmpR p h then h else p) x y) :
    Calls Tryz.prog 26 #[frac a b, frac c d, frac e f] w fun en w' => en = .returned (frac x y) ∧ Below w.heap.size w w' := by
  have h1 := hp.bounds
  have h2 := hl.bounds
  have h3 := hh.bounds
  have e1 : clampO a b c d e f = some (if Rt.cmpR p l < 0 then l else if 0 < Rt.cmpR p h then h else p) := by
    unfold clampO; rw [hp.rd, hl.rd, hh.rd, ← hp.num, ← hp.den, ← hl.num, ← hl.den, ← hh.num, ← hh.den]; rfl
  exact clamp_any a b c d e f x y er w (by omega) (by omega) (by omega) (by omega) (by omega) (by omega) (by omega) (by omega) (by omega) (by omega) (by omega) (by omega) hE (by rw [e1]; exact hx.num) (by rw [e1]; exact hx.den)
end Go.Proofs.YtphphamfejgdaaaGreatDoor
