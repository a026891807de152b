/- The reference's hexadecimal digits of a text. Conditions: the text has at most a million bytes. -/
import Derived.Test.YtcnokccgdiodlaaGreatDoorRefJ
import Derived.Deep.RegionLaw
namespace Go.Proofs.YtcnokccgdiodlaaGreatDoor
open Go.RowKit Go.Shelf Fx Go.Sort

theorem run_append_u8 (w : World) (B : Nat) (ty : TypeId) (v : Value) (n : Nat) (xs : List Value) (hown : w.ownsRow B 5 1 v n xs) (hB : B ≤ w.heap.size) (hn : n ≤ 100000000) (g m : Nat) (news : List Value) (hm : news.length = m) (hm4 : m ≤ 4) (h1 : ∀ y ∈ news, y.oneCell' = true) (hg : w.heap[g]? = some (.cells news.toArray 5 (0, 0))) :
    ∃ v' w', (Builtin.append_ #[44, 44] ty #[v, .slice (some ⟨g, 0, none⟩) m m]).run Tryz.prog w = .ok v' w' ∧ Grew w w' B 5 1 v v' (n + m) (xs ++ news) := by
  obtain ⟨i0, hi, hz0, hz1, hz2⟩ := info_parts infoByte
  obtain ⟨v', w', h1, h2, h3, _, h5⟩ := run_append_own_at (P := Tryz.prog) w B 44 ty 5 i0 _ 1 1 Tryz.underlying44 hi hz0 hz1 hz2 rfl (by decide) v n xs hown ⟨g, 0, none⟩ m m news (by omega)
    (fun j y hy => by
      have hadd : (⟨g, 0, none⟩ : Addr).add j = ⟨g, j, none⟩ := by unfold Addr.add; split <;> simp_all
      rw [hadd, cell_of_row w g j _ _ _ hg]; simpa using hy)
    h1 (by unfold maxLen; omega) (by omega) hB
  exact ⟨v', w', h1, h2, h3, h5⟩
theorem step_append_u8 {ops : Array Oper} {o : Oper} {a : Act} {w : World} {K : Act → World → Prop} {Q : Exit → Act → World → Prop} {E : Prop}
    (hg : o.guard = none) (s x : Operand) (hop : o.op = Op.call { callee := Callee.builtin Builtin.append, args := #[s, x], argTypes := #[44, 44] })
    (B : Nat) (v : Value) (n : Nat) (xs : List Value) (hs : a.eval s = v) (hown : w.ownsRow B 5 1 v n xs) (hB : B ≤ w.heap.size) (hn : n ≤ 100000000) (g m : Nat) (news : List Value) (hx : a.eval x = .slice (some ⟨g, 0, none⟩) m m)
    (hb : w.heap[g]? = some (.cells news.toArray 5 (0, 0))) (hm : news.length = m) (hm4 : m ≤ 4) (h1 : ∀ y ∈ news, y.oneCell' = true)
    (hK : ∀ v' w', Grew w w' B 5 1 v v' (n + m) (xs ++ news) → K (a.put o.dst v') w') :
    if Region.wanted o (yielded ops a.tmps) = true then Oper.wp Tryz.prog o a w K Q else E := by
  have hw : Region.wanted o (yielded ops a.tmps) = true := by simp [Region.wanted, hg]
  rw [if_pos hw]
  obtain ⟨v', w', hr, h2⟩ := run_append_u8 w B o.type v n xs hown hB hn g m news hm hm4 h1 hb
  unfold Oper.wp
  simp [execOp, hop, resolve, invoke, builtin, hs, hx, hr, Result.andThen]
  exact hK _ _ h2
theorem own_ge {w : World} {B : Nat} {e : TypeId} {size : Nat} {v : Value} {n : Nat} {xs : List Value} (h : w.ownsRow B e size v n xs) {g : Nat} (hg : v.ownBlock = some g) : B ≤ g := by
  rcases h.2 with ⟨rfl, _⟩ | ⟨g', cap, cur, rfl, hg', _⟩
  · simp [Value.ownBlock] at hg
  · simp only [Value.ownBlock, Option.some.injEq] at hg; omega
theorem conv_own {w : World} {B : Nat} {v : Value} {l : List UInt8} {n : Nat} (h : w.ownsRow B 5 1 v n (Lib.byteCells l)) (hn : n = l.length) : (convert 44 9 v).run Tryz.prog w = .ok (.string (bs l)) w := by
  subst hn
  rcases h.2 with ⟨rfl, h0⟩ | ⟨g, cap, cur, rfl, hg, hh, hl, hm, hs, ht⟩
  · obtain rfl : l = [] := List.eq_nil_of_length_eq_zero h0
    exact run_convert_bytes_nil (P := Tryz.prog) (w := w) 44 5 Tryz.underlying44 Tryz.underlying5 0 0 9 Tryz.underlying9
  · refine run_convert_bytes_back w 44 9 5 ⟨g, 0, none⟩ cap l Tryz.underlying44 Tryz.underlying5 Tryz.underlying9 fun j hj => ?_
    have hadd : (⟨g, 0, none⟩ : Addr).add j = ⟨g, j, none⟩ := by unfold Addr.add; split <;> simp_all
    rw [hadd, cell_of_row w g j cur _ (0, 0) hh]
    have e : cur[j]? = (cur.toList.take (l.length * 1))[j]? := by
      rw [List.getElem?_take, if_pos (by omega)]; simp
    rw [e, ht]
    simp [Lib.byteCells, List.getElem?_eq_getElem hj]
set_option maxRecDepth 100000 in
set_option maxHeartbeats 2000000 in
theorem rHex_any (s : ByteArray) (w : World) (hs : s.size ≤ 1000000) :
    Calls Tryz.prog 64 #[.string s] w fun e w' => e = .returned (.string (bs (hex s.data.toList))) ∧ Below w.heap.size w w' := by
  go_enter Tryz.func64, Tryz.ntmps64
  go_wp2_with fail
  go_loopw [4, 5] (fun o i wr => ∃ (k : Nat), k ≤ s.size ∧ i = .int .i64 k ∧ Hid (Below w.heap.size w wr ∧ wr.ownsRow w.heap.size 5 1 o (2 * k) (Lib.byteCells (hex (s.data.toList.take k))))) (fun _ i _ => s.size - (intOf i).toNat)
  case atStart => exact ⟨0, Nat.zero_le _, rfl, Lib.hid ⟨Below.refl _ _, World.ownsRow_nil _ _ _ _⟩⟩
  case round =>
    obtain ⟨k, hk, rfl, HI⟩ := hrel
    obtain ⟨wq, rfl⟩ : ∃ wq, wq = wr := ⟨_, rfl⟩
    by_cases hlt : k < s.size
    · have hc : (s[k]).toNat < 256 := (s[k]).toNat_lt
      obtain ⟨p, hp⟩ : ∃ p : Nat, p = (s[k]).toNat / 16 := ⟨_, rfl⟩
      obtain ⟨q, hq⟩ : ∃ q : Nat, q = (s[k]).toNat % 16 := ⟨_, rfl⟩
      have hp16 : p < 16 := by omega
      have hq16 : q < 16 := by omega
      have hw1 : IntKind.u8.wrap (((s[k]).toNat : Int) / 16) = (p : Int) := by
        have e : (((s[k]).toNat : Int) / 16) = (p : Int) := by omega
        rw [e]; exact IntWalk.u8_in _ ⟨by omega, by omega⟩
      have hw2 : ((s[k]).toNat : Int).tmod 16 = (q : Int) := by
        rw [Int.tmod_eq_emod_of_nonneg (by omega)]; omega
      have hi1 : (0 : Int) ≤ (p : Int) ∧ (p : Int) < 16 := by omega
      have hi2 : (0 : Int) ≤ (q : Int) ∧ (q : Int) < 16 := by omega
      have HT : Hid (hex (s.data.toList.take (k + 1)) = hex (s.data.toList.take k) ++ [hexD p, hexD q]) := Lib.hid (by rw [hex_take s k hlt, hp, hq])
      have HK : Hid (∀ (W : World) (v1 : Value) (w1 : World), Below wq.heap.size wq W → Grew W w1 w.heap.size 5 1 u4 v1 (2 * k + 2) (Lib.byteCells (hex (s.data.toList.take k)) ++ [.int .u8 (hexD p).toNat, .int .u8 (hexD q).toNat]) → Below w.heap.size w w1 ∧ w1.ownsRow w.heap.size 5 1 v1 (2 * (k + 1)) (Lib.byteCells (hex (s.data.toList.take (k + 1))))) := Lib.hid fun W v1 w1 hb hG => by
        refine ⟨(HI.out.1.trans (hb.mono HI.out.1.size)).grown hG.grown (Nat.le_trans HI.out.1.size hb.size) fun g hg => ?_, ?_⟩
        · exact own_ge HI.out.2 hg
        · have e : Lib.byteCells (hex (s.data.toList.take (k + 1))) = Lib.byteCells (hex (s.data.toList.take k)) ++ [.int .u8 (hexD p).toNat, .int .u8 (hexD q).toNat] := by rw [HT.out]; simp [Lib.byteCells]
          rw [e, show 2 * (k + 1) = 2 * k + 2 from rfl]
          exact hG.own
      have hsz := HI.out.1.size
      have h2k : 2 * k ≤ 100000000 := by omega
      clear hp hq
      go_wp2_with fail
      go_region_law (first
        | (refine step_append_u8 rfl (.tmp 12) (.tmp 25) rfl w.heap.size _ (2 * k) (Lib.byteCells (hex (s.data.toList.take k))) rfl ?_ ?_ h2k _ 2 [.int .u8 (hexD p).toNat, .int .u8 (hexD q).toNat] rfl ?_ rfl ?_ ?_ ?_
           · exact ownsRow_below HI.out.2 (bx _).drew
           · simp; omega
           · rw [← digits_get p hp16 hp16, ← digits_get q hq16 hq16]; exact heap_alloc_new _ _
           · omega
           · simp [Value.oneCell']
           intro v1 w1 hGr
           have HN := Lib.hid (HK.out _ _ _ (bx _).drew hGr)))
      all_goals
        clear hGr
        go_wp2_with fail
        exact ⟨⟨k + 1, by omega, by go_num, HN⟩, by simp [intOf]; omega⟩
    · obtain rfl : k = s.size := by omega
      have e : s.data.toList.take s.size = s.data.toList := List.take_of_length_le (by simp)
      have hcv := conv_own HI.out.2 (by rw [e, hex_len]; simp)
      rw [e] at hcv
      have HB := Lib.hid HI.out.1
      clear HI
      go_wp2_with fail
      go_ret
      exact ⟨rfl, HB.out⟩
theorem bs_cat (a b : List UInt8) : bs a ++ bs b = bs (a ++ b) := bs_append a b
set_option maxRecDepth 100000 in
set_option maxHeartbeats 2000000 in
theorem rLine_any (k n fr : Int) (t : ByteArray) (w : World) (hk : 1 ≤ k ∧ k ≤ 6) (hn : 0 ≤ n ∧ n ≤ 1000000000) (hf : -1 ≤ fr ∧ fr ≤ 1000000000) (ht : t.size ≤ 1000000) (h45 : k = 4 ∨ k = 5 → 0 ≤ fr) :
    Calls Tryz.prog 42 #[fldV ⟨k, n, fr, t⟩] w fun e w' => e = .returned (.string (bs (lineF ⟨k, n, fr, t⟩))) ∧ Below w.heap.size w w' := by
  obtain ⟨N, rfl⟩ : ∃ N : Nat, n = N := ⟨n.toNat, by omega⟩
  obtain ⟨M, hM⟩ : ∃ M : Nat, max fr 0 = M := ⟨(max fr 0).toNat, by omega⟩
  have hM1 : M ≤ 1000000000 := by omega
  obtain ⟨W, hW⟩ : ∃ W, W = w.alloc (.cells #[.int .i64 k, .int .i64 N, .int .i64 fr, .string t] 56) := ⟨_, rfl⟩
  have HB0 : Hid (Below w.heap.size w W) := Lib.hid (by rw [hW]; exact bx _)
  have c0 : W.cell? ⟨w.heap.size, 0, none⟩ = some (.int .i64 k) := by rw [hW]; exact cell_of_row _ _ 0 _ _ _ (heap_alloc_new _ _)
  have c1 : W.cell? ⟨w.heap.size, 1, none⟩ = some (.int .i64 N) := by rw [hW]; exact cell_of_row _ _ 1 _ _ _ (heap_alloc_new _ _)
  have c2 : W.cell? ⟨w.heap.size, 2, none⟩ = some (.int .i64 fr) := by rw [hW]; exact cell_of_row _ _ 2 _ _ _ (heap_alloc_new _ _)
  have c3 : W.cell? ⟨w.heap.size, 3, none⟩ = some (.string t) := by rw [hW]; exact cell_of_row _ _ 3 _ _ _ (heap_alloc_new _ _)
  obtain ⟨bl, hbl⟩ : ∃ bl, bl = w.heap.size := ⟨_, rfl⟩
  have hlt : bl < W.heap.size := by rw [hW, hbl]; simp
  show Calls Tryz.prog 42 #[.agg #[.int .i64 k, .int .i64 N, .int .i64 fr, .string t]] w _
  go_enter Tryz.func42, Tryz.ntmps42
  go_wp2_with fail
  rw [← hW, ← hbl]
  rw [← hbl] at c0 c1 c2 c3
  refine (rDigits_any M W (by omega)).mono ?_
  rintro e w1 ⟨rfl, hB1⟩
  have HB1 : Hid (Below w.heap.size w w1) := Lib.hid (HB0.out.trans (hB1.mono HB0.out.size))
  have k0 := (hB1.cell (p := ⟨bl, 0, none⟩) hlt).trans c0
  have k1 := (hB1.cell (p := ⟨bl, 1, none⟩) hlt).trans c1
  have k2 := (hB1.cell (p := ⟨bl, 2, none⟩) hlt).trans c2
  have k3 := (hB1.cell (p := ⟨bl, 3, none⟩) hlt).trans c3
  have HDI : Hid (∀ w2 : World, Below w.heap.size w w2 → Calls Tryz.prog 41 #[.int .i64 N] w2 fun e w' => e = .returned (.string (bs (Go.Lib.itoa N))) ∧ Below w.heap.size w w') := Lib.hid fun w2 h2 => (rDigits_any N w2 (by omega)).mono fun e w' ⟨he, h3⟩ => ⟨by rw [he, itoa_pos (by omega)]; rfl, h2.trans (h3.mono h2.size)⟩
  have HHX : Hid (∀ w2 : World, Below w.heap.size w w2 → Calls Tryz.prog 64 #[.string t] w2 fun e w' => e = .returned (.string (bs (hex t.data.toList))) ∧ Below w.heap.size w w') := Lib.hid fun w2 h2 => (rHex_any t w2 ht).mono fun e w' ⟨he, h3⟩ => ⟨he, h2.trans (h3.mono h2.size)⟩
  have hMi : 0 ≤ fr → Lib.decDigits M = Go.Lib.itoa fr := fun h => by rw [itoa_pos h]; congr 1; omega
  clear hB1 c0 c1 c2 c3 hlt hW hbl
  obtain ⟨Y, hY⟩ : ∃ Y, Y = bs (Lib.decDigits M) := ⟨_, rfl⟩
  rw [← hY]
  have hYs : Y.size ≤ 19 := by rw [hY]; exact dec_len 19 M (by decide) (by omega)
  obtain ⟨D, hD⟩ : ∃ D, D = bs (Go.Lib.itoa N) := ⟨_, rfl⟩
  rw [← hD] at HDI
  have hDs : D.size ≤ 19 := by rw [hD, itoa_pos (by omega)]; exact dec_len 19 N (by decide) (by omega)
  obtain ⟨X, hX⟩ : ∃ X, X = bs (hex t.data.toList) := ⟨_, rfl⟩
  rw [← hX] at HHX
  have hXs : X.size ≤ 2000000 := by rw [hX]; show (hex t.data.toList).length ≤ _; rw [hex_len]; simp; omega
  have HD := Lib.hid hD
  have HX := Lib.hid hX
  have HY := Lib.hid hY
  clear hD hX hY
  obtain rfl | rfl | rfl | rfl | rfl | rfl : k = 1 ∨ k = 2 ∨ k = 3 ∨ k = 4 ∨ k = 5 ∨ k = 6 := by omega
  · have HE : Hid (⟨#[108, 105, 116, 101, 114, 97, 108, 32]⟩ ++ X = bs (lineF ⟨1, N, fr, t⟩)) := Lib.hid (by rw [HX.out]; exact bs_append _ _)
    go_wp2_with fail
    refine (HHX.out _ HB1.out).mono ?_
    rintro e w2 ⟨rfl, hB2⟩
    have HB2 := Lib.hid hB2
    clear hB2
    go_wp2_with fail
    go_ret
    exact ⟨by rw [← HE.out]; rfl, HB2.out⟩
  · have HE : Hid (⟨#[110, 117, 109, 98, 101, 114, 32]⟩ ++ D = bs (lineF ⟨2, N, fr, t⟩)) := Lib.hid (by rw [HD.out]; exact bs_append _ _)
    go_wp2_with fail
    refine (HDI.out _ HB1.out).mono ?_
    rintro e w2 ⟨rfl, hB2⟩
    have HB2 := Lib.hid hB2
    clear hB2
    go_wp2_with fail
    go_ret
    exact ⟨by rw [← HE.out]; rfl, HB2.out⟩
  · by_cases h0 : fr < 0
    · have HE : Hid (⟨#[98, 121, 116, 101, 115, 32]⟩ ++ D = bs (lineF ⟨3, N, fr, t⟩)) := Lib.hid (by
        obtain rfl : fr = -1 := by omega
        rw [HD.out]
        exact bs_append _ _)
      go_wp2_with fail
      refine (HDI.out _ HB1.out).mono ?_
      rintro e w2 ⟨rfl, hB2⟩
      have HB2 := Lib.hid hB2
      clear hB2
      go_wp2_with fail
      go_ret
      exact ⟨by rw [← HE.out]; rfl, HB2.out⟩
    · have HE : Hid (⟨#[98, 121, 116, 101, 115]⟩ ++ (⟨#[32, 102, 114, 111, 109, 32]⟩ ++ Y) = bs (lineF ⟨3, N, fr, t⟩)) := Lib.hid (by
        have e : lineF ⟨3, N, fr, t⟩ = [98, 121, 116, 101, 115] ++ ([32, 102, 114, 111, 109, 32] ++ Lib.decDigits M) := by
          rw [hMi (by omega)]
          show wordK 3 ++ 32 :: (if fr = -1 then Go.Lib.itoa N else wFrom ++ 32 :: Go.Lib.itoa fr) = _
          rw [if_neg (by omega)]; rfl
        rw [e, ← bs_append, ← bs_append, HY.out])
      go_wp2_with fail
      go_ret
      exact ⟨by rw [← HE.out]; rfl, HB1.out⟩
  · have HE : Hid ((⟨#[108, 105, 115, 116, 32]⟩ ++ D) ++ (⟨#[32, 102, 114, 111, 109, 32]⟩ ++ Y) = bs (lineF ⟨4, N, fr, t⟩)) := Lib.hid (by
      have e : lineF ⟨4, N, fr, t⟩ = ([108, 105, 115, 116, 32] ++ Go.Lib.itoa N) ++ ([32, 102, 114, 111, 109, 32] ++ Lib.decDigits M) := by
        rw [hMi (h45 (.inl rfl))]
        show wordK 4 ++ 32 :: (Go.Lib.itoa N ++ 32 :: (wFrom ++ 32 :: Go.Lib.itoa fr)) = _
        rw [List.append_assoc]; rfl
      rw [e, ← bs_append, ← bs_append, ← bs_append, HY.out, HD.out])
    go_wp2_with fail
    refine (HDI.out _ HB1.out).mono ?_
    rintro e w2 ⟨rfl, hB2⟩
    have HB2 := Lib.hid hB2
    clear hB2
    go_wp2_with fail
    go_ret
    exact ⟨by rw [← HE.out]; rfl, HB2.out⟩
  · have HE : Hid ((⟨#[105, 110, 115, 105, 100, 101, 32]⟩ ++ D) ++ (⟨#[32, 102, 114, 111, 109, 32]⟩ ++ Y) = bs (lineF ⟨5, N, fr, t⟩)) := Lib.hid (by
      have e : lineF ⟨5, N, fr, t⟩ = ([105, 110, 115, 105, 100, 101, 32] ++ Go.Lib.itoa N) ++ ([32, 102, 114, 111, 109, 32] ++ Lib.decDigits M) := by
        rw [hMi (h45 (.inr rfl))]
        show wordK 5 ++ 32 :: (Go.Lib.itoa N ++ 32 :: (wFrom ++ 32 :: Go.Lib.itoa fr)) = _
        rw [List.append_assoc]; rfl
      rw [e, ← bs_append, ← bs_append, ← bs_append, HY.out, HD.out])
    go_wp2_with fail
    refine (HDI.out _ HB1.out).mono ?_
    rintro e w2 ⟨rfl, hB2⟩
    have HB2 := Lib.hid hB2
    clear hB2
    go_wp2_with fail
    go_ret
    exact ⟨by rw [← HE.out]; rfl, HB2.out⟩
  · have HE : Hid (⟨#[99, 104, 101, 99, 107, 32]⟩ ++ D = bs (lineF ⟨6, N, fr, t⟩)) := Lib.hid (by rw [HD.out]; exact bs_append _ _)
    go_wp2_with fail
    refine (HDI.out _ HB1.out).mono ?_
    rintro e w2 ⟨rfl, hB2⟩
    have HB2 := Lib.hid hB2
    clear hB2
    go_wp2_with fail
    go_ret
    exact ⟨by rw [← HE.out]; rfl, HB2.out⟩
end Go.Proofs.YtcnokccgdiodlaaGreatDoor
