/- The reference's block of a digest. Conditions: the words and the block are readable; a block has 64 bytes. -/
import Derived.Test.YtlnlhjkdbpkaiaaDoorDigRb
import Derived.RegionTactic
import Derived.Deep.QuietTactic
import Derived.BigQuiet
import Derived.BigRegion
import Derived.Deep.RegionHeld3
import Derived.Deep.CutRange
namespace Go.Proofs.YtlnlhjkdbpkaiaaDoor
open Go.RowKit

theorem NumsAt.drew {W : World} {k : IntKind} {g off : Nat} {l : List Nat} (h : NumsAt W k g off l) : NumsAt W.drew k g off l := h
theorem or4_raw (x0 x1 x2 x3 : Nat) (h0 : x0 < 256) (h1 : x1 < 256) (h2 : x2 < 256) (h3 : x3 < 256) :
    bits .or .u32 (bits .or .u32 (bits .or .u32 ((x0 : Int) * 16777216) ((x1 : Int) * 65536)) ((x2 : Int) * 256)) (x3 : Int) = ((x0 * 16777216 + x1 * 65536 + x2 * 256 + x3 : Nat) : Int) := by
  have e1 : (x0 * 16777216) ||| (x1 * 65536) = x0 * 16777216 + x1 * 65536 := by
    have := Nat.two_pow_add_eq_or_of_lt (i := 24) (b := x1 * 65536) (by omega) x0
    rw [show x0 * 16777216 = 2 ^ 24 * x0 by omega]; exact this.symm
  have e2 : (x0 * 16777216 + x1 * 65536) ||| (x2 * 256) = x0 * 16777216 + x1 * 65536 + x2 * 256 := by
    have := Nat.two_pow_add_eq_or_of_lt (i := 16) (b := x2 * 256) (by omega) (x0 * 256 + x1)
    rw [show x0 * 16777216 + x1 * 65536 = 2 ^ 16 * (x0 * 256 + x1) by omega]; exact this.symm
  have e3 : (x0 * 16777216 + x1 * 65536 + x2 * 256) ||| x3 = x0 * 16777216 + x1 * 65536 + x2 * 256 + x3 := by
    have := Nat.two_pow_add_eq_or_of_lt (i := 8) (b := x3) (by omega) (x0 * 65536 + x1 * 256 + x2)
    rw [show x0 * 16777216 + x1 * 65536 + x2 * 256 = 2 ^ 8 * (x0 * 65536 + x1 * 256 + x2) by omega]; exact this.symm
  rw [show ((x0 : Int) * 16777216) = ((x0 * 16777216 : Nat) : Int) by omega, show ((x1 : Int) * 65536) = ((x1 * 65536 : Nat) : Int) by omega, show ((x2 : Int) * 256) = ((x2 * 256 : Nat) : Int) by omega,
    u32_or_nat _ _ (by omega) (by omega), e1, u32_or_nat _ _ (by omega) (by omega), e2, u32_or_nat _ _ (by omega) (by omega), e3]

/-- Appending leaves the numbers that were there where they were. -/
theorem run_append_stays {ST E : TypeId} {k : IntKind} (hT : NumT ST E k) (w : World) (base : Nat) (ty : TypeId) (g cp : Nat) (l : List Nat) (hown : OwnI w base E k (.slice (some ⟨g, 0, none⟩) l.length cp) l) (b off c m : Nat) (news : List Nat) (hm : m = news.length)
    (hc : NumsAt w k b off news) (hl : l.length + news.length ≤ 1000000) (v' : Value) (w' : World)
    (hrun : (Builtin.append_ #[ST, ST] ty #[.slice (some ⟨g, 0, none⟩) l.length cp, .slice (some ⟨b, off, none⟩) m c]).run Tryd.prog w = .ok v' w') (hown' : OwnI w' base E k v' (l ++ news)) :
    ∀ j, j < l.length → w'.cell? ⟨g, j, none⟩ = w.cell? ⟨g, j, none⟩ := by
  obtain ⟨hu, i0, hi, hz0, hz1, hz2⟩ := hT
  subst hm
  have hnews : ∀ j u, (news.map fun (n : Nat) => Value.int k (n : Int))[j]? = some u → w.cell? ((⟨b, off, none⟩ : Addr).add j) = some u := fun j u hu => by
    rw [List.getElem?_map] at hu
    cases hj : news[j]? with
    | none => rw [hj] at hu; cases hu
    | some y =>
      rw [hj] at hu
      injection hu with hu
      subst hu
      have hjl := (List.getElem?_eq_some_iff.1 hj).1
      have := hc j hjl
      simp only [List.getD, hj, Option.getD_some] at this
      rw [show (⟨b, off, none⟩ : Addr).add j = ⟨b, off + j, none⟩ by cases j <;> simp [Addr.add]]
      exact this
  have h1 : ∀ u ∈ (news.map fun (n : Nat) => Value.int k (n : Int)), u.oneCell' = true := fun u hu => by
    obtain ⟨y, _, rfl⟩ := List.mem_map.1 hu
    rfl
  have hown2 := hown
  obtain ⟨hlen, ⟨h0, _⟩ | ⟨g', cap, cur, hv, hbg, hg, hnc, hcm, hcs, htake⟩⟩ := hown2
  · cases h0
  injection hv with e1 e2 e3
  injection e1 with e1
  injection e1 with e1
  subst e1; subst e3
  have holds : ∀ j u, (l.map fun (n : Nat) => Value.int k (n : Int))[j]? = some u → w.cell? ((⟨g, 0, none⟩ : Addr).add j) = some u := World.ownsRow.cells hown (g := g) rfl
  intro j hj
  have hadd : (⟨g, 0, none⟩ : Addr).add j = ⟨g, j, none⟩ := by cases j <;> simp [Addr.add]
  by_cases hroom : l.length + news.length ≤ cp
  · have hr := run_append_room (P := Tryd.prog) w ST ty E i0 hu hi g l.length cp cur hg ⟨b, off, none⟩ news.length c _ (by rw [List.length_map, hz1]; omega) hnews h1 hroom (by rw [List.length_map, hz1, hcs]; omega)
    rw [hrun] at hr
    injection hr with ev ew
    have hc' := World.ownsRow.cells hown' (g := g) (by rw [ev]; rfl)
    have a1 := holds j (Value.int k ((l[j] : Nat) : Int)) (by simp [hj])
    have a2 := hc' j (Value.int k ((l[j] : Nat) : Int)) (by simp [hj, List.getElem?_append_left])
    rw [hadd] at a1 a2
    rw [a1, a2]
  · have hr := run_append_grow (P := Tryd.prog) w ST ty E i0 (.int k 0) hu hi hz0 ⟨g, 0, none⟩ l.length cp _ (by rw [List.length_map, hz1]; omega) holds ⟨b, off, none⟩ news.length c _ (by rw [List.length_map, hz1]; omega) hnews (by omega) (by omega) (growslice_fits (by omega) (Nat.le_trans (Nat.mul_le_mul hl hz2) (by decide)))
    rw [hrun] at hr
    injection hr with ev ew
    rw [ew]
    exact (World.cell?_of_block (w := w) (Below.heap_alloc w.drew _ g (Array.getElem?_eq_some_iff.1 hg).1))
theorem step_append_nums_from {ST E : TypeId} {k : IntKind} (hT : NumT ST E k) {ops : Array Oper} {o : Oper} {a : Act} {w : World} {K : Act → World → Prop} {Q : Exit → Act → World → Prop} {E' : Prop}
    (hg : o.guard = none) (s x : Operand) (hop : o.op = Op.call { callee := Callee.builtin Builtin.append, args := #[s, x], argTypes := #[ST, ST] })
    (w0 : World) (v : Value) (l : List Nat) (hs : a.eval s = v) (b off c m : Nat) (news : List Nat) (hx : a.eval x = .slice (some ⟨b, off, none⟩) m c) (hm : m = news.length) (hl : l.length + news.length ≤ 1000000)
    (hown : OwnI w w0.heap.size E k v l) (hc : NumsAt w k b off news) (hb : Below w0.heap.size w0 w)
    (hK : ∀ v' w', OwnI w' w0.heap.size E k v' (l ++ news) → Below w0.heap.size w0 w' → K (a.put o.dst v') w') :
    if Region.wanted o (yielded ops a.tmps) = true then Oper.wp Tryd.prog o a w K Q else E' :=
  step_append_nums hT hg s x hop w0.heap.size v l hs hown b off c m news hx hm hc hl hb.size (fun v' w' h1 h2 => hK v' w' h1 (hb.trans h2))
theorem step_append_nums_two {ST E : TypeId} {k : IntKind} (hT : NumT ST E k) {ops : Array Oper} {o : Oper} {a : Act} {w : World} {K : Act → World → Prop} {Q : Exit → Act → World → Prop} {E' : Prop}
    (hg : o.guard = none) (s x : Operand) (hop : o.op = Op.call { callee := Callee.builtin Builtin.append, args := #[s, x], argTypes := #[ST, ST] })
    (w0 : World) (g n cp : Nat) (l : List Nat) (hs : a.eval s = .slice (some ⟨g, 0, none⟩) n cp) (hn : n = l.length) (b off c m : Nat) (news : List Nat) (hx : a.eval x = .slice (some ⟨b, off, none⟩) m c) (hm : m = news.length) (hl : l.length + news.length ≤ 1000000)
    (pA pB : Nat) (xA xB : Value) (hpA : pA < n) (hpB : pB < n)
    (hown : OwnI w w0.heap.size E k (.slice (some ⟨g, 0, none⟩) n cp) l) (hc : NumsAt w k b off news) (hb : Below w0.heap.size w0 w) (hA : w.cell? ⟨g, pA, none⟩ = some xA) (hB : w.cell? ⟨g, pB, none⟩ = some xB)
    (hK : ∀ v' w', OwnI w' w0.heap.size E k v' (l ++ news) → Below w0.heap.size w0 w' → w'.cell? ⟨g, pA, none⟩ = some xA → w'.cell? ⟨g, pB, none⟩ = some xB → K (a.put o.dst v') w') :
    if Region.wanted o (yielded ops a.tmps) = true then Oper.wp Tryd.prog o a w K Q else E' := by
  subst hn
  have hw : Region.wanted o (yielded ops a.tmps) = true := by simp [Region.wanted, hg]
  rw [if_pos hw]
  obtain ⟨v', w', hr, h2, h3⟩ := run_append_nums hT w w0.heap.size o.type _ l hown b off c m news hm hc hl hb.size
  have hst := run_append_stays hT w w0.heap.size o.type g cp l hown b off c m news hm hc hl v' w' hr h2
  unfold Oper.wp
  simp [execOp, hop, resolve, invoke, builtin, hs, hx, hr, Result.andThen]
  exact hK _ _ h2 (hb.trans h3) ((hst pA hpA).trans hA) ((hst pB hpB).trans hB)
/-- What the rounds of the block's beginning read. -/
theorem getD_bN (b : List UInt8) (i : Nat) : (bN b).getD i 0 < 256 := by rw [bN_get]; exact (b.getD i 0).toNat_lt
/-- The rows that the rounds read. -/
def BlkAt (w W : World) (gs gk gv : Nat) (ws : List Nat) (t : Ds.St) : Prop :=
  NumsAt W .u32 gv 0 t.list ∧ gv < W.heap.size ∧ NumsAt W .u32 gs 0 ws ∧ NumsAt W .u32 gk 0 Ds.kTab ∧ gs < W.heap.size ∧ gk < W.heap.size ∧ Below w.heap.size w W
theorem BlkAt.next {w W W' : World} {gs gk gv gv' : Nat} {ws : List Nat} {t t' : Ds.St} (h : BlkAt w W gs gk gv ws t) (hb : Below W.heap.size W W') (hn : NumsAt W' .u32 gv' 0 t'.list) (hv : gv' < W'.heap.size) : BlkAt w W' gs gk gv' ws t' := by
  obtain ⟨_, _, h3, h4, h5, h6, h7⟩ := h
  exact ⟨hn, hv, h3.below hb h5, h4.below hb h6, Nat.lt_of_lt_of_le h5 hb.size, Nat.lt_of_lt_of_le h6 hb.size, h7.trans (hb.mono h7.size)⟩
theorem NumsAt.at {W : World} {k : IntKind} {g : Nat} {l : List Nat} (h : NumsAt W k g 0 l) {j : Nat} (hj : j < l.length) : W.cell? ⟨g, j, none⟩ = some (.int k ((l.getD j 0 : Nat) : Int)) := by
  have := h j hj
  rwa [Nat.zero_add] at this
set_option maxRecDepth 100000 in
set_option maxHeartbeats 100000000 in
theorem block_any (s : Ds.St) (b : List UInt8) (gh oh ch gb ob cb : Nat) (w : World) (hs : s.Ok) (hb : b.length = 64) (hH : NumsAt w .u32 gh oh s.list) (hB : NumsAt w .u8 gb ob (bN b)) (lh : gh < w.heap.size) (lb : gb < w.heap.size) :
    Calls Tryd.prog 39 #[.slice (some ⟨gh, oh, none⟩) 8 ch, .slice (some ⟨gb, ob, none⟩) 64 cb] w fun e w' => ∃ v, e = .returned v ∧ OwnI w' w.heap.size 47 .u32 v (Ds.comp s b).list ∧ Below w.heap.size w w' := by
  have HH : Hid (∀ W, Below w.heap.size w W → NumsAt W .u32 gh oh s.list) := Lib.hid (fun W hW => hH.below hW lh)
  have HBB : Hid (∀ W, Below w.heap.size w W → NumsAt W .u8 gb ob (bN b)) := Lib.hid (fun W hW => hB.below hW lb)
  have HBL : Hid (∀ W o, Below w.heap.size w W → Below w.heap.size w (W.alloc o)) := Lib.hid (fun W o h => h.alloc h.size o)
  have HOK := Lib.hid hs
  have HBZ : Hid ((bN b).length = 64) := Lib.hid (by rw [bN_len]; exact hb)
  clear hs hH hB
  go_enter Tryd.func39, Tryd.ntmps39
  go_wp2
  go_loopw [5, 6] (fun v c wr => ∃ i : Nat, i ≤ 16 ∧ c = .int .i64 i ∧ OwnI wr w.heap.size 47 .u32 v ((Ds.words b).take i) ∧ Below w.heap.size w wr) (fun _ c _ => 16 - (intOf c).toNat)
  case atStart => exact ⟨0, by omega, rfl, OwnI.nil _ _ _ _, Below.refl _ _⟩
  case round =>
    obtain ⟨i, hi, rfl, hO, hB⟩ := hrel
    have HO := Lib.hid hO
    have HB := Lib.hid hB
    clear hO hB
    by_cases hlt : i < 16
    · have hcell := fun (W : World) (hW : Below w.heap.size w W) (j : Nat) (hj : j < 64) => HBB.out W hW j (by rw [HBZ.out]; exact hj)
      obtain ⟨p0, hp0⟩ : ∃ p, p = 4 * i := ⟨_, rfl⟩
      obtain ⟨p1, hp1⟩ : ∃ p, p = 4 * i + 1 := ⟨_, rfl⟩
      obtain ⟨p2, hp2⟩ : ∃ p, p = 4 * i + 2 := ⟨_, rfl⟩
      obtain ⟨p3, hp3⟩ : ∃ p, p = 4 * i + 3 := ⟨_, rfl⟩
      obtain ⟨x0, hx0⟩ : ∃ x, x = (bN b).getD p0 0 := ⟨_, rfl⟩
      obtain ⟨x1, hx1⟩ : ∃ x, x = (bN b).getD p1 0 := ⟨_, rfl⟩
      obtain ⟨x2, hx2⟩ : ∃ x, x = (bN b).getD p2 0 := ⟨_, rfl⟩
      obtain ⟨x3, hx3⟩ : ∃ x, x = (bN b).getD p3 0 := ⟨_, rfl⟩
      have HC : Hid (∀ W, Below w.heap.size w W → W.cell? ⟨gb, ob + p0, none⟩ = some (.int .u8 (x0 : Int)) ∧ W.cell? ⟨gb, ob + p1, none⟩ = some (.int .u8 (x1 : Int)) ∧ W.cell? ⟨gb, ob + p2, none⟩ = some (.int .u8 (x2 : Int)) ∧ W.cell? ⟨gb, ob + p3, none⟩ = some (.int .u8 (x3 : Int)) ∧ Below w.heap.size w W) := Lib.hid (fun W hW => by
        rw [hx0, hx1, hx2, hx3]
        exact ⟨hcell W hW p0 (by omega), hcell W hW p1 (by omega), hcell W hW p2 (by omega), hcell W hW p3 (by omega), hW⟩)
      have b0 : x0 < 256 := by rw [hx0]; exact getD_bN b p0
      have b1 : x1 < 256 := by rw [hx1]; exact getD_bN b p1
      have b2 : x2 < 256 := by rw [hx2]; exact getD_bN b p2
      have b3 : x3 < 256 := by rw [hx3]; exact getD_bN b p3
      obtain ⟨wd, hwd⟩ : ∃ x, x = x0 * 16777216 + x1 * 65536 + x2 * 256 + x3 := ⟨_, rfl⟩
      have rw1 := or4_raw x0 x1 x2 x3 b0 b1 b2 b3
      rw [← hwd] at rw1
      have HN : Hid ((Ds.words b).take (i + 1) = (Ds.words b).take i ++ [wd]) := Lib.hid (by
        rw [words_take b i hlt, hwd, hx0, hx1, hx2, hx3, hp0, hp1, hp2, hp3, bN_get, bN_get, bN_get, bN_get]; rfl)
      obtain ⟨L, hL⟩ : ∃ L, L = (Ds.words b).take i := ⟨_, rfl⟩
      have hll : L.length + [wd].length ≤ 1000000 := by rw [hL, List.length_take]; simp; omega
      rw [← hL] at HO HN
      have q0 : 4 * (i : Int) = (p0 : Int) := by omega
      have q1 : (p0 : Int) + 1 = (p1 : Int) := by omega
      have q2 : (p0 : Int) + 2 = (p2 : Int) := by omega
      have q3 : (p0 : Int) + 3 = (p3 : Int) := by omega
      have w0 : IntKind.i64.wrap (p0 : Int) = (p0 : Int) := IntWalk.i64_in _ (by omega)
      have w1 : IntKind.i64.wrap (p1 : Int) = (p1 : Int) := IntWalk.i64_in _ (by omega)
      have w2 : IntKind.i64.wrap (p2 : Int) = (p2 : Int) := IntWalk.i64_in _ (by omega)
      have w3 : IntKind.i64.wrap (p3 : Int) = (p3 : Int) := IntWalk.i64_in _ (by omega)
      have n0 : 0 ≤ (p0 : Int) := by omega
      have n1 : 0 ≤ (p1 : Int) := by omega
      have n2 : 0 ≤ (p2 : Int) := by omega
      have n3 : 0 ≤ (p3 : Int) := by omega
      have m0 : (p0 : Int) < 64 := by omega
      have m1 : (p1 : Int) < 64 := by omega
      have m2 : (p2 : Int) < 64 := by omega
      have m3 : (p3 : Int) < 64 := by omega
      have u0 : IntKind.u32.wrap (x0 : Int) = (x0 : Int) := by show (x0 : Int) % 4294967296 = _; omega
      have u1 : IntKind.u32.wrap (x1 : Int) = (x1 : Int) := by show (x1 : Int) % 4294967296 = _; omega
      have u2 : IntKind.u32.wrap (x2 : Int) = (x2 : Int) := by show (x2 : Int) % 4294967296 = _; omega
      have u3 : IntKind.u32.wrap (x3 : Int) = (x3 : Int) := by show (x3 : Int) % 4294967296 = _; omega
      have v0 : IntKind.u32.wrap ((x0 : Int) * 16777216) = (x0 : Int) * 16777216 := by show ((x0 : Int) * 16777216) % 4294967296 = _; omega
      have v1 : IntKind.u32.wrap ((x1 : Int) * 65536) = (x1 : Int) * 65536 := by show ((x1 : Int) * 65536) % 4294967296 = _; omega
      have v2 : IntKind.u32.wrap ((x2 : Int) * 256) = (x2 : Int) * 256 := by show ((x2 : Int) * 256) % 4294967296 = _; omega
      clear hL hwd hx0 hx1 hx2 hx3 hp0 hp1 hp2 hp3 hcell
      go_wp2
      go_region_held3 (fun w' => w'.cell? ⟨gb, ob + p0, none⟩ = some (.int .u8 (x0 : Int)) ∧ w'.cell? ⟨gb, ob + p1, none⟩ = some (.int .u8 (x1 : Int)) ∧ w'.cell? ⟨gb, ob + p2, none⟩ = some (.int .u8 (x2 : Int)) ∧ w'.cell? ⟨gb, ob + p3, none⟩ = some (.int .u8 (x3 : Int)) ∧ Below w.heap.size w w') ((refine HC.out _ ?_; (repeat (first | assumption | exact HB.out | (with_reducible refine Below.drew ?_) | (with_reducible refine HBL.out _ _ ?_))); done)) ((refine step_append_nums_from numU32 rfl (.tmp 23) (.tmp 57) rfl w _ L rfl _ 0 1 1 [wd] rfl rfl hll ?_ ?_ ?_ ?_; (focus (first | exact (HO.out.alloc _).drew | exact HO.out.alloc _ | exact (HO.out.drew).alloc _)); (focus (first | exact (nums_one _ _ _ _ _ rfl).drew | exact nums_one _ _ _ _ _ rfl)); (focus ((repeat (first | assumption | exact HB.out | (with_reducible refine Below.drew ?_) | (with_reducible refine HBL.out _ _ ?_))); done)); intro v7 w7 ho7 hb7))
      all_goals
        have HO7 := Lib.hid ho7
        have HB7 := Lib.hid hb7
        clear ho7 hb7
        go_wp2
        go_roundw
        case rel => exact ⟨i + 1, by omega, by go_num, by rw [HN.out]; exact HO7.out, HB7.out⟩
        case measure => simp [intOf]; omega
    · obtain rfl : i = 16 := by omega
      rw [show (((16 : Nat) : Nat) : Int) = (16 : Int) from rfl]
      have HO' : Hid (OwnI wr w.heap.size 47 .u32 u5 (Ds.words b)) := Lib.hid (by have := HO.out; rwa [List.take_of_length_le (by rw [Ds.words_len]; omega)] at this)
      clear HO
      go_wp2
      obtain ⟨wo, rfl⟩ : ∃ wo : World, wo = wr := ⟨_, rfl⟩
      go_loopw [5, 7, 8, 9] (fun v c _ _ wr => ∃ i : Nat, 16 ≤ i ∧ i ≤ 64 ∧ c = .int .i64 i ∧ OwnI wr w.heap.size 47 .u32 v (Ds.extK (Ds.words b) (i - 16)) ∧ Below w.heap.size w wr) (fun _ c _ _ _ => 64 - (intOf c).toNat)
      case atStart => exact ⟨16, by omega, by omega, rfl, HO'.out, HB.out⟩
      case round =>
        obtain ⟨i, hi1, hi2, rfl, hO, hB⟩ := hrel
        have HB2 := Lib.hid hB
        have hll : (Ds.extK (Ds.words b) (i - 16)).length = i := by rw [Ds.extK_len, Ds.words_len]; omega
        obtain ⟨l, hl⟩ : ∃ l, l = Ds.extK (Ds.words b) (i - 16) := ⟨_, rfl⟩
        have HL := Lib.hid hl
        rw [← hl] at hO hll
        obtain ⟨g, cp, rfl, hcp, hcm, hg, hnums⟩ := hO.row (by omega)
        rw [hll] at hcp ⊢
        have HO2 : Hid (OwnI wr w.heap.size 47 .u32 (.slice (some ⟨g, 0, none⟩) i cp) l) := Lib.hid (by rw [hll] at hO; exact hO)
        have HLL := Lib.hid hll
        clear hO hB
        by_cases hlt : i < 64
        · have hsm : Ds.Small l := by rw [hl]; exact Ds.extK_small (Ds.words_small b) _
          have gets : ∀ j, j < i → wr.cell? ⟨g, j, none⟩ = some (.int .u32 ((l.getD j 0 : Nat) : Int)) := fun j hj => by
            have := hnums j (by rw [hll]; exact hj)
            rwa [Nat.zero_add] at this
          obtain ⟨p15, hp15⟩ : ∃ p, p = i - 15 := ⟨_, rfl⟩
          obtain ⟨p2, hp2⟩ : ∃ p, p = i - 2 := ⟨_, rfl⟩
          obtain ⟨p16, hp16⟩ : ∃ p, p = i - 16 := ⟨_, rfl⟩
          obtain ⟨p7, hp7⟩ : ∃ p, p = i - 7 := ⟨_, rfl⟩
          have HN : Hid (Ds.nextW l = (((l.getD p16 0 + Ds.sig0 (l.getD p15 0)) % 4294967296 + l.getD p7 0) % 4294967296 + Ds.sig1 (l.getD p2 0)) % 4294967296) := Lib.hid (by
            unfold Ds.nextW; rw [hll, hp15, hp2, hp16, hp7])
          obtain ⟨x15, e15⟩ : ∃ x, x = l.getD p15 0 := ⟨_, rfl⟩
          obtain ⟨x2, e2⟩ : ∃ x, x = l.getD p2 0 := ⟨_, rfl⟩
          obtain ⟨x16, e16⟩ : ∃ x, x = l.getD p16 0 := ⟨_, rfl⟩
          obtain ⟨x7, e7⟩ : ∃ x, x = l.getD p7 0 := ⟨_, rfl⟩
          have c15 := gets p15 (by omega)
          have c2 := gets p2 (by omega)
          have c16 := gets p16 (by omega)
          have c7 := gets p7 (by omega)
          rw [← e15] at c15
          rw [← e2] at c2
          rw [← e16] at c16
          rw [← e7] at c7
          have b15 : x15 < 4294967296 := by rw [e15]; exact hsm _
          have b2 : x2 < 4294967296 := by rw [e2]; exact hsm _
          have b16 : x16 < 4294967296 := by rw [e16]; exact hsm _
          have b7 : x7 < 4294967296 := by rw [e7]; exact hsm _
          have q15 : (i : Int) - 15 = (p15 : Int) := by omega
          have q2 : (i : Int) - 2 = (p2 : Int) := by omega
          have q16 : (i : Int) - 16 = (p16 : Int) := by omega
          have q7 : (i : Int) - 7 = (p7 : Int) := by omega
          have w15 : IntKind.i64.wrap (p15 : Int) = (p15 : Int) := IntWalk.i64_in _ (by omega)
          have w2 : IntKind.i64.wrap (p2 : Int) = (p2 : Int) := IntWalk.i64_in _ (by omega)
          have w16 : IntKind.i64.wrap (p16 : Int) = (p16 : Int) := IntWalk.i64_in _ (by omega)
          have w7 : IntKind.i64.wrap (p7 : Int) = (p7 : Int) := IntWalk.i64_in _ (by omega)
          have l15 : p15 < i := by omega
          have l2 : p2 < i := by omega
          have l16 : p16 < i := by omega
          have l7 : p7 < i := by omega
          have n15 : 0 ≤ (p15 : Int) := by omega
          have n2 : 0 ≤ (p2 : Int) := by omega
          have n16 : 0 ≤ (p16 : Int) := by omega
          have n7 : 0 ≤ (p7 : Int) := by omega
          have HM := Lib.hid (show Ds.extK (Ds.words b) (i + 1 - 16) = l ++ [Ds.nextW l] by rw [show i + 1 - 16 = (i - 16) + 1 by omega, Ds.extK, ← hl])
          rw [← e15, ← e2, ← e16, ← e7] at HN
          obtain ⟨s0, hs0⟩ : ∃ s, Ds.sig0 x15 = s := ⟨_, rfl⟩
          obtain ⟨s1, hs1⟩ : ∃ s, Ds.sig1 x2 = s := ⟨_, rfl⟩
          have r0 := sig0_raw b15 hs0
          have r1 := sig1_raw b2 hs1
          rw [hs0, hs1] at HN
          obtain ⟨y1, hy1⟩ : ∃ y, y = (x16 + s0) % 4294967296 := ⟨_, rfl⟩
          obtain ⟨y2, hy2⟩ : ∃ y, y = (y1 + x7) % 4294967296 := ⟨_, rfl⟩
          obtain ⟨y3, hy3⟩ : ∃ y, y = (y2 + s1) % 4294967296 := ⟨_, rfl⟩
          have HY3 : Hid (Ds.nextW l = y3) := Lib.hid (by rw [HN.out, hy3, hy2, hy1])
          have t1 : IntKind.u32.wrap ((x16 : Int) + (s0 : Int)) = (y1 : Int) := by show ((x16 : Int) + s0) % 4294967296 = _; omega
          have t2 : IntKind.u32.wrap ((y1 : Int) + (x7 : Int)) = (y2 : Int) := by show ((y1 : Int) + x7) % 4294967296 = _; omega
          have t3 : IntKind.u32.wrap ((y2 : Int) + (s1 : Int)) = (y3 : Int) := by show ((y2 : Int) + s1) % 4294967296 = _; omega
          have HC : Hid (∀ W, Below wr.heap.size wr W → W.cell? ⟨g, p16, none⟩ = some (.int .u32 (x16 : Int)) ∧ W.cell? ⟨g, p7, none⟩ = some (.int .u32 (x7 : Int)) ∧ Below w.heap.size w W) := Lib.hid (fun W hW => ⟨(hW.cell (p := ⟨g, p16, none⟩) hg).trans c16, (hW.cell (p := ⟨g, p7, none⟩) hg).trans c7, HB2.out.trans (hW.mono HB2.out.size)⟩)
          have HOW : Hid (∀ W, Below wr.heap.size wr W → OwnI W w.heap.size 47 .u32 (.slice (some ⟨g, 0, none⟩) i cp) l) := Lib.hid (fun W hW => HO2.out.below hW)
          have HRR : Hid (∀ W n, Below wr.heap.size wr W → Below wr.heap.size wr (W.drewN n)) := Lib.hid (fun W n h => h.trans ⟨rfl, rfl, rfl, Nat.le_refl _, fun _ _ => rfl⟩)
          have HRA : Hid (∀ W o, Below wr.heap.size wr W → Below wr.heap.size wr (W.alloc o)) := Lib.hid (fun W o h => h.alloc h.size o)
          have hll2 : l.length + [y3].length ≤ 1000000 := by rw [hll]; simp; omega
          clear gets hnums hsm hl e15 e2 e16 e7 hs0 hs1 hp15 hp2 hp16 hp7 hy1 hy2 hy3 hll HN
          go_wp2
          go_quiet ((go_at_call 50; first | exact Calls.quiet_of (rotated_int x15 _ _ b15 (by decide) (by decide)) | exact quiet2N (rotated_int x15 _ _ b15 (by decide) (by decide))))
          go_wp2
          go_quiet ((go_at_call 50; first | exact Calls.quiet_of (rotated_int x2 _ _ b2 (by decide) (by decide)) | exact quiet2N (rotated_int x2 _ _ b2 (by decide) (by decide))))
          go_wp2
          go_region_held3 (fun w' => w'.cell? ⟨g, p16, none⟩ = some (.int .u32 (x16 : Int)) ∧ w'.cell? ⟨g, p7, none⟩ = some (.int .u32 (x7 : Int)) ∧ Below w.heap.size w w') (first | (refine ⟨?_, ?_, ?_⟩ <;> assumption) | (refine HC.out _ ?_; (repeat (first | assumption | exact Below.refl _ _ | (with_reducible refine HRR.out _ _ ?_) | (with_reducible refine Below.drew ?_) | (with_reducible refine HRA.out _ _ ?_))); done)) ((refine step_append_nums_two numU32 rfl (.tmp 103) (.tmp 119) rfl w g i cp l rfl HLL.out.symm _ 0 1 1 [y3] rfl rfl hll2 p16 p7 (.int .u32 (x16 : Int)) (.int .u32 (x7 : Int)) l16 l7 ?_ ?_ ?_ ?_ ?_ ?_; (focus (refine HOW.out _ ?_; (repeat (first | assumption | exact Below.refl _ _ | (with_reducible refine HRR.out _ _ ?_) | (with_reducible refine Below.drew ?_) | (with_reducible refine HRA.out _ _ ?_))); done)); (focus (first | exact (nums_one _ _ _ _ _ rfl).drew | exact nums_one _ _ _ _ _ rfl)); (focus (refine (HC.out _ ?_).2.2; (repeat (first | assumption | exact Below.refl _ _ | (with_reducible refine HRR.out _ _ ?_) | (with_reducible refine Below.drew ?_) | (with_reducible refine HRA.out _ _ ?_))); done)); (focus (refine (HC.out _ ?_).1; (repeat (first | assumption | exact Below.refl _ _ | (with_reducible refine HRR.out _ _ ?_) | (with_reducible refine Below.drew ?_) | (with_reducible refine HRA.out _ _ ?_))); done)); (focus (refine (HC.out _ ?_).2.1; (repeat (first | assumption | exact Below.refl _ _ | (with_reducible refine HRR.out _ _ ?_) | (with_reducible refine Below.drew ?_) | (with_reducible refine HRA.out _ _ ?_))); done)); intro v7 w7 ho7 hb7 hc7a hc7b))
          all_goals
            have HO7 := Lib.hid ho7
            have HB7 := Lib.hid hb7
            clear ho7 hb7
            go_wp2
            go_roundw
            case rel => exact ⟨i + 1, by omega, by omega, by go_num, by rw [HM.out, HY3.out]; exact HO7.out, HB7.out⟩
            case measure => simp [intOf]; omega
        · obtain rfl : i = 64 := by omega
          rw [show (((64 : Nat) : Nat) : Int) = (64 : Int) from rfl]
          have HSW : Hid (∀ W, Below wr.heap.size wr W → NumsAt W .u32 g 0 (Ds.sched b)) := Lib.hid (fun W hW => by
            have h := hnums.below hW hg
            rw [hl] at h
            exact h)
          clear hnums hl hll hcp
          go_wp2_with fail
          refine (rConstants_any _).mono ?_
          rintro e w3 ⟨rfl, hk3, hB3, hlt3⟩
          obtain ⟨gk, hgk⟩ : ∃ x, x = wr.heap.size := ⟨_, rfl⟩
          rw [← hgk] at hk3 hlt3 ⊢
          have hs3 := HSW.out _ hB3
          have hg3 : g < w3.heap.size := Nat.lt_of_lt_of_le hg hB3.size
          have HB3 := Lib.hid (HB2.out.trans (hB3.mono HB2.out.size))
          have HHD := Lib.hid (HH.out _ HB3.out)
          have HK3 := Lib.hid hk3
          have HS3 := Lib.hid hs3
          clear hk3 hs3 hgk hB3
          have hl8 : ([] : List Nat).length + s.list.length ≤ 1000000 := by rw [st_len]; decide
          go_wp2_with (refine wpList_append_nums numU32 rfl (.tmp 122) (.tmp 123) rfl w3.heap.size _ [] rfl (OwnI.nil _ _ _ _) gh oh ch 8 s.list rfl rfl HHD.out hl8 (Nat.le_refl _) ?_; intro v4 w4 ho4 hb4)
          rw [List.nil_append] at ho4
          obtain ⟨gv, cv, rfl, hcv, _, hgv, hnv⟩ := ho4.row (by rw [st_len]; decide)
          rw [st_len]
          have HA4 : Hid (BlkAt w w4 g gk gv (Ds.sched b) s) := Lib.hid ⟨hnv, hgv, HS3.out.below hb4 hg3, HK3.out.below hb4 hlt3, Nat.lt_of_lt_of_le hg3 hb4.size, Nat.lt_of_lt_of_le hlt3 hb4.size, HB3.out.trans (hb4.mono HB3.out.size)⟩
          clear ho4 hb4 hnv hgv hg3 hlt3 hcv hg
          go_wp2
          go_loopw [11, 12] (fun v c W => ∃ (k gv cv : Nat), k ≤ 64 ∧ c = .int .i64 k ∧ v = .slice (some ⟨gv, 0, none⟩) 8 cv ∧ BlkAt w W g gk gv (Ds.sched b) (Ds.rounds s (Ds.sched b) k)) (fun _ c _ => 64 - (intOf c).toNat)
          case atStart => exact ⟨0, gv, cv, by omega, rfl, rfl, HA4.out⟩
          case round =>
            obtain ⟨k, gt, ct, hk, rfl, rfl, hA⟩ := hrel
            obtain ⟨wq, rfl⟩ : ∃ x, x = wr := ⟨_, rfl⟩
            obtain ⟨t, ht⟩ : ∃ t, t = Ds.rounds s (Ds.sched b) k := ⟨_, rfl⟩
            rw [← ht] at hA
            by_cases hlt3 : k < 64
            · have hsucc : Ds.rounds s (Ds.sched b) (k + 1) = Ds.rnd t (Ds.kTab.getD k 0) ((Ds.sched b).getD k 0) := by rw [ht]; rfl
              have hok : t.Ok := by rw [ht]; exact Ds.rounds_ok HOK.out _ _
              have HA := Lib.hid hA
              obtain ⟨ta, tb, tc, td, te, tf, tg, th⟩ := t
              obtain ⟨ba, bb, bc, bd, be, bf, bg, bh⟩ := hok
              dsimp only at ba bb bc bd be bf bg bh
              obtain ⟨kk, hkk⟩ : ∃ x, x = Ds.kTab.getD k 0 := ⟨_, rfl⟩
              obtain ⟨ww, hww⟩ : ∃ x, x = (Ds.sched b).getD k 0 := ⟨_, rfl⟩
              have bk : kk < 4294967296 := by rw [hkk]; exact Ds.kTab_lt k
              have bw : ww < 4294967296 := by rw [hww]; exact Ds.sched_small b k
              obtain ⟨a1, a2, a3, a4, a5, a6, a7⟩ := hA
              have HCC : Hid (∀ W, Below wq.heap.size wq W → W.cell? ⟨gt, 0, none⟩ = some (.int .u32 (ta : Int)) ∧ W.cell? ⟨gt, 1, none⟩ = some (.int .u32 (tb : Int)) ∧ W.cell? ⟨gt, 2, none⟩ = some (.int .u32 (tc : Int)) ∧ W.cell? ⟨gt, 3, none⟩ = some (.int .u32 (td : Int)) ∧ W.cell? ⟨gt, 5, none⟩ = some (.int .u32 (tf : Int)) ∧ W.cell? ⟨gt, 6, none⟩ = some (.int .u32 (tg : Int)) ∧ Below wq.heap.size wq W) := Lib.hid (fun W hW => by
                have h := a1.below hW a2
                exact ⟨h.at (j := 0) (by simp [Ds.St.list]), h.at (j := 1) (by simp [Ds.St.list]), h.at (j := 2) (by simp [Ds.St.list]), h.at (j := 3) (by simp [Ds.St.list]), h.at (j := 5) (by simp [Ds.St.list]), h.at (j := 6) (by simp [Ds.St.list]), hW⟩)
              have d0 := a1.at (j := 0) (by simp [Ds.St.list])
              have d1 := a1.at (j := 1) (by simp [Ds.St.list])
              have d2 := a1.at (j := 2) (by simp [Ds.St.list])
              have d3 := a1.at (j := 3) (by simp [Ds.St.list])
              have d4 := a1.at (j := 4) (by simp [Ds.St.list])
              have d5 := a1.at (j := 5) (by simp [Ds.St.list])
              have d6 := a1.at (j := 6) (by simp [Ds.St.list])
              have d7 := a1.at (j := 7) (by simp [Ds.St.list])
              simp only [Ds.St.list, List.getD, List.getElem?_cons_zero, List.getElem?_cons_succ, Option.getD_some] at d0 d1 d2 d3 d4 d5 d6 d7
              have ck := a4.at (j := k) (by show k < 64; omega)
              have cw := a3.at (j := k) (by rw [Ds.sched_len]; omega)
              rw [← hkk] at ck
              rw [← hww] at cw
              rw [← hkk, ← hww] at hsucc
              obtain ⟨s1, e1⟩ : ∃ x, Ds.big1 te = x := ⟨_, rfl⟩
              obtain ⟨s0, e0⟩ : ∃ x, Ds.big0 ta = x := ⟨_, rfl⟩
              obtain ⟨cc, ec⟩ : ∃ x, Ds.chs te tf tg = x := ⟨_, rfl⟩
              obtain ⟨mm, em⟩ : ∃ x, Ds.maj ta tb tc = x := ⟨_, rfl⟩
              have r1 := big1_raw be e1
              have r0 := big0_raw ba e0
              have rc : bits .xor .u32 (bits .and .u32 (te : Int) (tf : Int)) (bits .and .u32 (bits .xor .u32 (if IntKind.u32.signed = true then -1 else IntKind.u32.max) (te : Int)) (tg : Int)) = (cc : Int) := chs_raw be bf bg ec
              have rm := maj_raw ba bb bc em
              have z1 : s1 < 4294967296 := by rw [← e1]; exact Ds.big1_lt be
              have z0 : s0 < 4294967296 := by rw [← e0]; exact Ds.big0_lt ba
              have zc : cc < 4294967296 := by rw [← ec]; exact Ds.chs_lt be
              have zm : mm < 4294967296 := by rw [← em]; exact Ds.maj_lt ba bb
              obtain ⟨y1, hy1⟩ : ∃ y, y = (th + s1) % 4294967296 := ⟨_, rfl⟩
              obtain ⟨y2, hy2⟩ : ∃ y, y = (y1 + cc) % 4294967296 := ⟨_, rfl⟩
              obtain ⟨y3, hy3⟩ : ∃ y, y = (y2 + kk) % 4294967296 := ⟨_, rfl⟩
              obtain ⟨T, hT⟩ : ∃ y, y = (y3 + ww) % 4294967296 := ⟨_, rfl⟩
              obtain ⟨U, hU⟩ : ∃ y, y = (s0 + mm) % 4294967296 := ⟨_, rfl⟩
              obtain ⟨A, hAA⟩ : ∃ y, y = (T + U) % 4294967296 := ⟨_, rfl⟩
              obtain ⟨D, hD⟩ : ∃ y, y = (td + T) % 4294967296 := ⟨_, rfl⟩
              have HS : Hid (Ds.rounds s (Ds.sched b) (k + 1) = ⟨A, ta, tb, tc, D, te, tf, tg⟩) := Lib.hid (by
                rw [hsucc]; unfold Ds.rnd Ds.tee Ds.you; dsimp only; rw [e1, e0, ec, em, ← hy1, ← hy2, ← hy3, ← hT, ← hU, ← hAA, ← hD])
              have f1 : IntKind.u32.wrap ((th : Int) + (s1 : Int)) = (y1 : Int) := by show ((th : Int) + s1) % 4294967296 = _; omega
              have f1' : ((th : Int) + (s1 : Int)) % 4294967296 = (y1 : Int) := by omega
              have f2 : IntKind.u32.wrap ((y1 : Int) + (cc : Int)) = (y2 : Int) := by show ((y1 : Int) + cc) % 4294967296 = _; omega
              have f2' : ((y1 : Int) + (cc : Int)) % 4294967296 = (y2 : Int) := by omega
              have f3 : IntKind.u32.wrap ((y2 : Int) + (kk : Int)) = (y3 : Int) := by show ((y2 : Int) + kk) % 4294967296 = _; omega
              have f3' : ((y2 : Int) + (kk : Int)) % 4294967296 = (y3 : Int) := by omega
              have f4 : IntKind.u32.wrap ((y3 : Int) + (ww : Int)) = (T : Int) := by show ((y3 : Int) + ww) % 4294967296 = _; omega
              have f4' : ((y3 : Int) + (ww : Int)) % 4294967296 = (T : Int) := by omega
              have f5 : IntKind.u32.wrap ((s0 : Int) + (mm : Int)) = (U : Int) := by show ((s0 : Int) + mm) % 4294967296 = _; omega
              have f5' : ((s0 : Int) + (mm : Int)) % 4294967296 = (U : Int) := by omega
              have f6 : IntKind.u32.wrap ((T : Int) + (U : Int)) = (A : Int) := by show ((T : Int) + U) % 4294967296 = _; omega
              have f6' : ((T : Int) + (U : Int)) % 4294967296 = (A : Int) := by omega
              have f7 : IntKind.u32.wrap ((td : Int) + (T : Int)) = (D : Int) := by show ((td : Int) + T) % 4294967296 = _; omega
              have f7' : ((td : Int) + (T : Int)) % 4294967296 = (D : Int) := by omega
              have HRR : Hid (∀ W n, Below wq.heap.size wq W → Below wq.heap.size wq (W.drewN n)) := Lib.hid (fun W n h => h.trans ⟨rfl, rfl, rfl, Nat.le_refl _, fun _ _ => rfl⟩)
              have HRA : Hid (∀ W o, Below wq.heap.size wq W → Below wq.heap.size wq (W.alloc o)) := Lib.hid (fun W o h => h.alloc h.size o)
              have i0 : 0 ≤ (k : Int) := by omega
              have i64 : (k : Int) < 64 := by omega
              clear a1 a2 a3 a4 a5 a6 a7 ht hsucc hkk hww e1 e0 ec em hy1 hy2 hy3 hT hU hAA hD
              go_wp2
              go_quiet ((go_at_call 50; first | exact Calls.quiet_of (rotated_int te _ _ be (by decide) (by decide)) | exact quiet2N (rotated_int te _ _ be (by decide) (by decide))))
              go_wp2
              go_quiet ((go_at_call 50; first | exact Calls.quiet_of (rotated_int ta _ _ ba (by decide) (by decide)) | exact quiet2N (rotated_int ta _ _ ba (by decide) (by decide))))
              go_wp2
              clear f1 f2 f3 f4 f5 f1' f2' f3' f4' f5' r1 r0 rc rm
              go_region_held3 (fun w' => w'.cell? ⟨gt, 0, none⟩ = some (.int .u32 (ta : Int)) ∧ w'.cell? ⟨gt, 1, none⟩ = some (.int .u32 (tb : Int)) ∧ w'.cell? ⟨gt, 2, none⟩ = some (.int .u32 (tc : Int)) ∧ w'.cell? ⟨gt, 3, none⟩ = some (.int .u32 (td : Int)) ∧ w'.cell? ⟨gt, 5, none⟩ = some (.int .u32 (tf : Int)) ∧ w'.cell? ⟨gt, 6, none⟩ = some (.int .u32 (tg : Int)) ∧ Below wq.heap.size wq w') ((refine HCC.out _ ?_; (repeat (first | assumption | exact Below.refl _ _ | (with_reducible refine HRR.out _ _ ?_) | (with_reducible refine Below.drew ?_) | (with_reducible refine HRA.out _ _ ?_))); done)) (fail)
              all_goals
                go_wp2
                go_roundw
                case rel => exact ⟨k + 1, wq.heap.size, 8, by omega, by go_num, rfl, by
                  rw [HS.out]
                  exact HA.out.next (HRA.out _ _ (HRR.out _ _ (Below.refl _ _))) (nums_new (wq.drewN _) .u32 _ _ _ rfl) (by simp)⟩
                case measure => simp [intOf]; omega
            · obtain rfl : k = 64 := by omega
              rw [show (((64 : Nat) : Nat) : Int) = (64 : Int) from rfl]
              have HPL : Hid (Ds.plus s t = Ds.comp s b) := Lib.hid (by rw [ht]; rfl)
              have HX : Hid (∀ j, j < 8 → ∀ W, Below wq.heap.size wq W → W.cell? ⟨gh, oh + j, none⟩ = some (.int .u32 ((s.list.getD j 0 : Nat) : Int)) ∧ W.cell? ⟨gt, j, none⟩ = some (.int .u32 ((t.list.getD j 0 : Nat) : Int)) ∧ Below wq.heap.size wq W) := Lib.hid (fun j hj W hW => by
                obtain ⟨a1, a2, _, _, _, _, a7⟩ := hA
                exact ⟨HH.out W (a7.trans (hW.mono a7.size)) j hj, (a1.below hW a2).at hj, hW⟩)
              have HBW : Hid (Below w.heap.size w wq) := Lib.hid hA.2.2.2.2.2.2
              have HZ : Hid (∀ j, j < 8 → (Ds.plus s t).list.take (j + 1) = (Ds.plus s t).list.take j ++ [(s.list.getD j 0 + t.list.getD j 0) % 4294967296]) := Lib.hid (fun j hj => by
                obtain rfl | rfl | rfl | rfl | rfl | rfl | rfl | rfl : j = 0 ∨ j = 1 ∨ j = 2 ∨ j = 3 ∨ j = 4 ∨ j = 5 ∨ j = 6 ∨ j = 7 := by omega
                all_goals rfl)
              have HRR : Hid (∀ W n, Below wq.heap.size wq W → Below wq.heap.size wq (W.drewN n)) := Lib.hid (fun W n h => h.trans ⟨rfl, rfl, rfl, Nat.le_refl _, fun _ _ => rfl⟩)
              have HRA : Hid (∀ W o, Below wq.heap.size wq W → Below wq.heap.size wq (W.alloc o)) := Lib.hid (fun W o h => h.alloc h.size o)
              clear hA ht
              go_wp2
              go_loopw [17, 18] (fun v c W => ∃ j : Nat, j ≤ 8 ∧ c = .int .i64 j ∧ OwnI W wq.heap.size 47 .u32 v ((Ds.plus s t).list.take j) ∧ Below wq.heap.size wq W) (fun _ c _ => 8 - (intOf c).toNat)
              case atStart => exact ⟨0, by omega, rfl, OwnI.nil _ _ _ _, Below.refl _ _⟩
              case round =>
                obtain ⟨j, hj, rfl, hO, hB⟩ := hrel
                obtain ⟨wz, rfl⟩ : ∃ x, x = wr := ⟨_, rfl⟩
                have HO4 := Lib.hid hO
                have HB4 := Lib.hid hB
                clear hO hB
                by_cases hj8 : j < 8
                · obtain ⟨x, hx⟩ : ∃ x, x = s.list.getD j 0 := ⟨_, rfl⟩
                  obtain ⟨y, hy⟩ : ∃ y, y = t.list.getD j 0 := ⟨_, rfl⟩
                  obtain ⟨z, hz⟩ : ∃ z, z = (x + y) % 4294967296 := ⟨_, rfl⟩
                  have HXJ := Lib.hid (HX.out j hj8)
                  have HZJ := Lib.hid (HZ.out j hj8)
                  rw [← hx, ← hy] at HXJ HZJ
                  rw [← hz] at HZJ
                  obtain ⟨L, hL⟩ : ∃ L, L = (Ds.plus s t).list.take j := ⟨_, rfl⟩
                  have hll : L.length + [z].length ≤ 1000000 := by rw [hL, List.length_take]; simp; omega
                  rw [← hL] at HO4 HZJ
                  have f1 : IntKind.u32.wrap ((x : Int) + (y : Int)) = (z : Int) := by show ((x : Int) + y) % 4294967296 = _; omega
                  have j0 : 0 ≤ (j : Int) := by omega
                  have j1 : (j : Int) < 8 := by omega
                  have hD : Below wq.heap.size wq wz := HB4.out
                  have HOX : Hid (∀ W, Below wz.heap.size wz W → OwnI W wq.heap.size 47 .u32 u17 L) := Lib.hid (fun W hW => HO4.out.below hW)
                  clear hx hy hz hL
                  go_wp2
                  go_region_held3 (fun w' => w'.cell? ⟨gh, oh + j, none⟩ = some (.int .u32 (x : Int)) ∧ w'.cell? ⟨gt, j, none⟩ = some (.int .u32 (y : Int)) ∧ Below wq.heap.size wq w') ((refine HXJ.out _ ?_; (repeat (first | assumption | exact Below.refl _ _ | (with_reducible refine HRR.out _ _ ?_) | (with_reducible refine Below.drew ?_) | (with_reducible refine HRA.out _ _ ?_))); done)) ((refine step_append_nums_from numU32 rfl (.tmp 225) (.tmp 235) rfl wq _ L rfl _ 0 1 1 [z] rfl rfl hll ?_ ?_ ?_ ?_; (focus (first | exact (HO4.out.alloc _).drew | exact HO4.out.alloc _ | exact (HO4.out.drew).alloc _)); (focus (first | exact (nums_one _ _ _ _ _ rfl).drew | exact nums_one _ _ _ _ _ rfl)); (focus ((repeat (first | assumption | exact Below.refl _ _ | (with_reducible refine HRR.out _ _ ?_) | (with_reducible refine Below.drew ?_) | (with_reducible refine HRA.out _ _ ?_))); done)); intro v7 w7 ho7 hb7))
                  all_goals
                    have HO7 := Lib.hid ho7
                    have HB7 := Lib.hid hb7
                    clear ho7 hb7
                    go_wp2
                    go_roundw
                    case rel => exact ⟨j + 1, by omega, by go_num, by rw [HZJ.out]; exact HO7.out, HB7.out⟩
                    case measure => simp [intOf]; omega
                · obtain rfl : j = 8 := by omega
                  go_wp2
                  go_ret
                  exact ⟨_, rfl, by
                    have h := HO4.out.mono HBW.out.size
                    rw [List.take_of_length_le (Nat.le_refl 8), HPL.out] at h
                    exact h, HBW.out.trans (HB4.out.mono HBW.out.size)⟩
end Go.Proofs.YtlnlhjkdbpkaiaaDoor
