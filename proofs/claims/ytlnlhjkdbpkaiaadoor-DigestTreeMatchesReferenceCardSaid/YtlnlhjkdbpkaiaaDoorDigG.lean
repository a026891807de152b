/- sum returns the SHA-256 of its parts, one after the other. Conditions: the parts are readable and together at most 2^40 bytes; the tables digest.initial and digest.constants hold their numbers. -/
import Derived.Test.YtlnlhjkdbpkaiaaDoorDigF
import Derived.Lib.SlBytesConst
namespace Go.Proofs.YtlnlhjkdbpkaiaaDoor
open Go.RowKit Go.Shelf
attribute [local go_sem] Oper.semAt_some

/-- The first words are in their table. -/
def TabI (w : World) : Prop := ∀ i, i < 8 → w.cell? ⟨0, i, none⟩ = some (.int .u32 ((Ds.iv.list.getD i 0 : Nat) : Int))
theorem TabI.below {B : Nat} {w w' : World} (h : TabI w) (hb : Below B w w') (hB : 0 < B) : TabI w' := fun i hi => (hb.cell (p := ⟨0, i, none⟩) hB).trans (h i hi)
/-- Both tables, and that they lie ahead of what a call makes. -/
structure Tabs (w : World) : Prop where
  i : TabI w
  k : TabK w
  li : 0 < w.heap.size
  lk : 1 < w.heap.size
theorem Tabs.below {w w' : World} (h : Tabs w) (hb : Below w.heap.size w w') : Tabs w' := ⟨h.i.below hb h.li, h.k.below hb h.lk, Nat.lt_of_lt_of_le h.li hb.size, Nat.lt_of_lt_of_le h.lk hb.size⟩

set_option maxHeartbeats 400000 in
theorem blocks_any (v : Value) (w : World) (hv : ∃ a n c, v = .slice a n c) :
    Calls Tryd.prog 48 #[v] w fun e w' => e = .returned (.func (.func 53) #[] #[.pointer (some ⟨w.heap.size, 0, none⟩)]) ∧ w.alloc (.cells #[v] 26) = w' := by
  obtain ⟨a, n, c, rfl⟩ := hv
  have hmf : ∀ (fn : Fn) (first cap : Array Value) (w : World), (Instr.makeFunc fn first cap).run Tryd.prog w = .ok (.func fn first cap) w := fun _ _ _ _ => rfl
  go_enter Tryd.func48, Tryd.ntmps48
  go_wp2
  go_ret
  exact ⟨rfl, rfl⟩

theorem stays_sum (w w0 : World) (hw : w0.heap.size = w.heap.size + 2) : Stays w0.heap.size (fun (pre : List Blk) W => Row W w.heap.size 58 .u32 (Ds.comps (pre.map (·.1))).list ∧ Below w.heap.size w W) :=
  fun _ _ _ h hb => ⟨h.1.below hb (by omega), h.2.trans (hb.mono (by omega))⟩

theorem al32 : Tryd.prog.arrayLen 64 = 32 := by kernel_rfl
theorem el32 : Tryd.prog.elem 64 = 5 := by kernel_rfl
theorem ht32 : Tryd.prog.underlying 64 = some (.array (Tryd.prog.arrayLen 64) (Tryd.prog.elem 64)) := by rw [al32, el32]; exact Tryd.underlying64
theorem slice32 (W : World) (b : Nat) : (Instr.sliceAt 64 (.pointer (some ⟨b, 0, none⟩)) none none none).run Tryd.prog W = .ok (.slice (some ⟨b, 0, none⟩) 32 32) W := by
  rw [run_sliceAt_array_all W _ _ ht32, el32, szU8]
  simp [Result.andThen, slicedAt, al32, Addr.add]
theorem str_final (u : Ds.St) : strOfNums ((bN (Ds.final u)).map fun (n : Nat) => (n : Int)) = ⟨(Ds.final u).toArray⟩ := by
  unfold strOfNums bN
  rw [List.map_map, List.map_map]
  congr 2
  conv => rhs; rw [← List.map_id (Ds.final u)]
  apply List.map_congr_left
  intro x _
  simp
/-- The first m numbers, filled with zeros up to 32 places. -/
def part32 (L : List Nat) (m : Nat) : List Nat := L.take m ++ List.replicate (32 - m) 0
theorem part32_len (L : List Nat) (m : Nat) (hL : L.length = 32) (hm : m ≤ 32) : (part32 L m).length = 32 := by simp [part32]; omega
theorem part32_put (L : List Nat) (m : Nat) (hL : L.length = 32) (hm : m < 32) : (part32 L m).set m (L.getD m 0) = part32 L (m + 1) := by
  unfold part32
  rw [List.set_append_right _ _ (by simp; omega), List.take_succ_eq_append_getElem (by omega)]
  simp only [List.length_take, show min m L.length = m by omega, Nat.sub_self, show 32 - m = (32 - (m + 1)) + 1 by omega, List.replicate_succ, List.set_cons_zero, List.append_assoc, List.singleton_append]
  congr 3
  simp [List.getD, show m < L.length by omega]
theorem st_small {u : Ds.St} (h : u.Ok) (i : Nat) : u.list.getD i 0 < 4294967296 := by
  obtain ⟨a, b, c, d, e, f, g, k⟩ := h
  rcases Nat.lt_or_ge i 8 with h8 | h8
  · obtain rfl | rfl | rfl | rfl | rfl | rfl | rfl | rfl : i = 0 ∨ i = 1 ∨ i = 2 ∨ i = 3 ∨ i = 4 ∨ i = 5 ∨ i = 6 ∨ i = 7 := by omega
    all_goals simpa [Ds.St.list]
  · rw [List.getD, List.getElem?_eq_none (by rw [st_len]; exact h8)]; decide
theorem idx_list (u : Ds.St) (i : Nat) (h : i < 8) (W : World) : (Instr.index 58 (.agg (cellsN .u32 u.list)) (.int .i64 (i : Int))).run Tryd.prog W = .ok (.int .u32 ((u.list.getD i 0 : Nat) : Int)) W := by
  obtain rfl | rfl | rfl | rfl | rfl | rfl | rfl | rfl : i = 0 ∨ i = 1 ∨ i = 2 ∨ i = 3 ∨ i = 4 ∨ i = 5 ∨ i = 6 ∨ i = 7 := by omega
  · exact idx8_0 _ _ _ _ _ _ _ _ W
  · exact idx8_1 _ _ _ _ _ _ _ _ W
  · exact idx8_2 _ _ _ _ _ _ _ _ W
  · exact idx8_3 _ _ _ _ _ _ _ _ W
  · exact idx8_4 _ _ _ _ _ _ _ _ W
  · exact idx8_5 _ _ _ _ _ _ _ _ W
  · exact idx8_6 _ _ _ _ _ _ _ _ W
  · exact idx8_7 _ _ _ _ _ _ _ _ W
theorem final_get (u : Ds.St) (i j : Nat) (hi : i < 8) (hj : j < 4) : (bN (Ds.final u)).getD (4 * i + j) 0 = u.list.getD i 0 / 256 ^ (3 - j) % 256 := by
  obtain rfl | rfl | rfl | rfl : j = 0 ∨ j = 1 ∨ j = 2 ∨ j = 3 := by omega
  all_goals
    obtain rfl | rfl | rfl | rfl | rfl | rfl | rfl | rfl : i = 0 ∨ i = 1 ∨ i = 2 ∨ i = 3 ∨ i = 4 ∨ i = 5 ∨ i = 6 ∨ i = 7 := by omega
    all_goals simp [bN, Ds.final, Ds.be4, Ds.St.list]

set_option maxRecDepth 100000 in
set_option maxHeartbeats 8000000 in
theorem sum_any (pb po n c : Nat) (f : Nat → ByteArray) (w : World) (hP : ∀ k, k < n → w.cell? ⟨pb, po + k, none⟩ = some (.string (f k))) (hpb : pb < w.heap.size) (hT : Tabs w) (hlen : (cat f n).length ≤ 1099511627776) (hnm : n ≤ maxLen) :
    Calls Tryd.prog 37 #[.slice (some ⟨pb, po, none⟩) n c] w fun e w' => e = .returned (.string ⟨(Ds.sha (cat f n)).toArray⟩) ∧ Below w.heap.size w w' := by
  have HT := Lib.hid hT
  have d0 := hT.i 0 (by omega)
  have d1 := hT.i 1 (by omega)
  have d2 := hT.i 2 (by omega)
  have d3 := hT.i 3 (by omega)
  have d4 := hT.i 4 (by omega)
  have d5 := hT.i 5 (by omega)
  have d6 := hT.i 6 (by omega)
  have d7 := hT.i 7 (by omega)
  simp only [Ds.St.list, List.getD, List.getElem?_cons_zero, List.getElem?_cons_succ, Option.getD_some] at d0 d1 d2 d3 d4 d5 d6 d7
  have HP := Lib.hid hP
  clear hT hP
  refine (callsIn_wide (n := 6)).1 ?_
  refine callsIn_of_wp_marks Tryd.func37 rfl trivial ?_ rfl
  simp only [Tryd.ntmps37, List.size_toArray, List.length_cons, List.length_nil, Nat.reduceAdd, Nat.reduceSub, Array.replicate_succ, Array.replicate_zero, List.push_toArray, List.append_toArray, List.nil_append, List.cons_append]
  gi_wp2_with (first | (refine inStoreRow rfl 58 _ _ rfl w.heap.size (cellsN .u32 Ds.iv.list) rfl rfl 58 _ (heap_alloc_new w _) (info8r rfl) (by rw [cellsN_size]; rfl) (cellsN_one _ _) ?_; rw [alloc_setRow]) | (refine ⟨trivial, ?_⟩; gi_at_call 48; refine (callsIn_wide.2 (blocks_any _ _ ⟨_, _, _, rfl⟩)).mono ?_; rintro e w' ⟨rfl, rfl⟩))
  clear d0 d1 d2 d3 d4 d5 d6 d7
  obtain ⟨w0, hw0⟩ : ∃ w0, w0 = (w.alloc (.cells (cellsN .u32 Ds.iv.list) 58)).alloc (.cells #[.slice (some ⟨pb, po, none⟩) n c] 26) := ⟨_, rfl⟩
  have s0 : w0.heap.size = w.heap.size + 2 := by rw [hw0]; simp
  have b0 : Below w.heap.size w w0 := by rw [hw0]; exact ((Below.refl _ w).alloc (Nat.le_refl _) _).alloc (by simp) _
  have r0 : Row w0 w.heap.size 58 .u32 Ds.iv.list := by rw [hw0]; exact (Row.new w _ .u32 _).alloc _
  have c0 : w0.cell? ⟨w.heap.size + 1, 0, none⟩ = some (.slice (some ⟨pb, po, none⟩) n c) := by
    have h := heap_alloc_new (w.alloc (.cells (cellsN .u32 Ds.iv.list) 58)) (.cells #[.slice (some ⟨pb, po, none⟩) n c] 26)
    rw [← hw0, World.size_alloc] at h
    rw [cell_of_row w0 (w.heap.size + 1) 0 _ _ _ h]; rfl
  rw [← hw0]
  clear hw0
  have hPA : PartsAt (w.heap.size + 1) pb po n c f w0 := ⟨c0, fun k hk => (b0.cell (p := ⟨pb, po + k, none⟩) hpb).trans (HP.out k hk)⟩
  refine wpIn_rangeFunc_cells rfl (by decide) (gf := 53) (lb := #[.pointer (some ⟨w.heap.size + 1, 0, none⟩)]) rfl trivial (enters_of Tryd.func53 (by kernel_rfl) rfl)
    (blocks_own (6 - 1) (by decide) (fun k => k = w.heap.size) (w.heap.size + 1) pb po n c f w0 hPA (by omega) (by omega) (by omega) (by omega) (fun k hk => by omega) hlen hnm) (fun k hk => by omega) (fun _ => rfl)
    (fun pre W => Row W w.heap.size 58 .u32 (Ds.comps (pre.map (·.1))).list ∧ Below w.heap.size w W) (stays_sum w w0 s0) ⟨r0, b0⟩
    (fun x a' W => ∃ Bx, w0.heap.size + 2 ≤ Bx ∧ Row W Bx 62 .u8 (bN x.1) ∧ a' = { tmps := #[.slice (some ⟨pb, po, none⟩) n c, undef, .string ⟨#[]⟩, .pointer (some ⟨w.heap.size, 0, none⟩), .pointer (some ⟨Bx, 0, none⟩), undef, undef, undef, undef, .agg #[.int .u32 (Ds.iv.a : Int), .int .u32 (Ds.iv.b : Int), .int .u32 (Ds.iv.c : Int), .int .u32 (Ds.iv.d : Int), .int .u32 (Ds.iv.e : Int), .int .u32 (Ds.iv.f : Int), .int .u32 (Ds.iv.g : Int), .int .u32 (Ds.iv.h : Int)], .slice (some ⟨pb, po, none⟩) n c, .func (.func 53) #[] #[.pointer (some ⟨w.heap.size + 1, 0, none⟩)], .agg (cellsN .u8 (bN x.1)), undef, undef, undef, undef, undef, undef, undef, undef, undef, undef, undef, undef, undef, undef, undef, undef, undef, undef, undef, undef, undef, undef, undef, undef, undef, undef], defers := [] })
    ?ax ?assign ?body ?done
  case ax =>
    rintro x a' W o ⟨Bx, h1, h2, h3⟩
    exact ⟨Bx, h1, (World.putObj_heap_other (by omega)).trans h2, h3⟩
  case assign =>
    intro l x W K hs hK
    dsimp only [blkEnc]
    gi_wp2_with (first | (refine inStoreRow rfl 62 _ _ rfl W.heap.size (cellsN .u8 (bN x.1)) rfl rfl 62 _ (heap_alloc_new W _) (info64br x.2) (by rw [cellsN_size, bN_len, x.2]; rfl) (cellsN_one _ _) ?_; rw [alloc_setRow]) | fail)
    exact hK _ _ ((Below.refl _ W).alloc (Nat.le_refl _) _) ⟨W.heap.size, hs, Row.new W _ _ _, rfl⟩
  case body =>
    rintro l pre x a' W ⟨hr, hb⟩ hs ⟨Bx, hBx, hx, rfl⟩
    obtain ⟨u, hu⟩ : ∃ u, u = Ds.comps (pre.map (·.1)) := ⟨_, rfl⟩
    have huo : u.Ok := by rw [hu]; exact Ds.comps_ok _
    rw [← hu] at hr
    have hnew : Ds.comps ((pre ++ [x]).map (·.1)) = Ds.comp u x.1 := by rw [List.map_append, hu]; exact Ds.comps_snoc _ _
    have HR := Lib.hid hr
    have HX := Lib.hid hx
    have HN := Lib.hid hnew
    have HB := Lib.hid hb
    have HT2 := HT.out.below hb
    have HT3 := Lib.hid HT2
    clear hr hx hnew hb hu HT2
    gi_wp2_with (first | (refine inLoadRow rfl 58 (.tmp 3) rfl w.heap.size rfl 58 (cellsN .u32 u.list) (0, 0) _ HR.out Tryd.underlying58 rfl (info8r (st_len u)) ?_) | (refine inLoadRow rfl 62 (.tmp 4) rfl Bx rfl 62 (cellsN .u8 (bN x.1)) (0, 0) _ HX.out Tryd.underlying62 rfl (info64br x.2) ?_))
    refine ⟨trivial, ?_⟩
    refine (CallsIn.inRound l (callsIn_wide.2 (compress_any u x.1 W huo x.2 HT3.out.k HT3.out.lk))).mono ?_
    rintro e w1 ⟨rfl, hB1⟩
    obtain ⟨v, hv⟩ : ∃ v, v = Ds.comp u x.1 := ⟨_, rfl⟩
    rw [← hv]
    rw [← hv] at HN
    clear hv
    have HR1 := Lib.hid (HR.out.below hB1 HR.out.lt)
    have HB1 := Lib.hid hB1
    clear hB1
    gi_wp2_with (first | (refine inStoreRow rfl 58 _ _ rfl w.heap.size (cellsN .u32 v.list) rfl rfl 58 _ HR1.out (info8r (st_len v)) (by rw [cellsN_size, cellsN_size, st_len, st_len]) (cellsN_one _ _) ?_) | fail)
    refine ⟨(Spares.of_below HB1.out).trans (Spares.setRow (may := fun k => k = w.heap.size) w1 rfl _), ?_, (HB.out.trans (HB1.out.mono (by omega))).trans (below_row _ (Nat.le_refl _))⟩
    rw [HN.out]
    exact setRow_heap _ _ _ _ _ _ HR1.out
  case done =>
    rintro D ys W hD hys ⟨hr, hb⟩ hK
    obtain ⟨u, hu⟩ : ∃ u, u = Ds.comps (ys.map (·.1)) := ⟨_, rfl⟩
    have huo : u.Ok := by rw [hu]; exact Ds.comps_ok _
    rw [← hu] at hr
    have hsha : Ds.sha (cat f n) = Ds.final u := by
      rw [hu]; exact Ds.sha_of hys (fun y hy => by obtain ⟨z, _, rfl⟩ := List.mem_map.1 hy; exact z.2)
    have HR := Lib.hid hr
    have HB := Lib.hid hb
    have HS := Lib.hid hsha
    have HK := Lib.hid hK
    have HD := Lib.hid hD
    have hWs : w.heap.size < W.heap.size := hr.lt
    clear hr hb hsha hK hD hys hu HP HT b0 r0 c0 hPA
    gi_wp2_with (first | (refine inLoadRow rfl 58 _ rfl w.heap.size rfl 58 (cellsN .u32 u.list) (0, 0) _ (HR.out.alloc _) Tryd.underlying58 rfl (info8r (st_len u)) ?_) | fail)
    obtain ⟨dB, hdB⟩ : ∃ dB, dB = W.heap.size := ⟨_, rfl⟩
    obtain ⟨W2, hW2⟩ : ∃ W2, W2 = W.alloc (.cells (cellsN .u8 (List.replicate 32 0)) 64) := ⟨_, rfl⟩
    have hlit : cellsN .u8 (List.replicate 32 0) = #[.int .u8 0, .int .u8 0, .int .u8 0, .int .u8 0, .int .u8 0, .int .u8 0, .int .u8 0, .int .u8 0, .int .u8 0, .int .u8 0, .int .u8 0, .int .u8 0, .int .u8 0, .int .u8 0, .int .u8 0, .int .u8 0, .int .u8 0, .int .u8 0, .int .u8 0, .int .u8 0, .int .u8 0, .int .u8 0, .int .u8 0, .int .u8 0, .int .u8 0, .int .u8 0, .int .u8 0, .int .u8 0, .int .u8 0, .int .u8 0, .int .u8 0, .int .u8 0] := rfl
    rw [← hlit, ← hW2, ← hdB]
    have hR0 : Row W2 dB 64 .u8 (List.replicate 32 0) := by rw [hW2, hdB]; exact Row.new W _ _ _
    have hB0 : Below dB W W2 := by rw [hW2, hdB]; exact (Below.refl _ W).alloc (Nat.le_refl _) _
    have HR0 := Lib.hid hR0
    have HB0 := Lib.hid hB0
    have HDB := Lib.hid hdB
    clear hlit hW2 hdB hR0 hB0
    have hfl : (bN (Ds.final u)).length = 32 := by rw [bN_len]; rfl
    gi_loopw [6, 7, 8, 17] (fun _ _ _ pk wr => ∃ i : Nat, i ≤ 8 ∧ pk = .int .i64 i ∧ Row wr dB 64 .u8 (part32 (bN (Ds.final u)) (4 * i)) ∧ Below dB W wr) (fun _ _ _ pk _ => 8 - (intOf pk).toNat)
    case atStart => exact ⟨0, by omega, rfl, HR0.out, HB0.out⟩
    case round =>
      obtain ⟨i, hi, rfl, hRi, hBi⟩ := hrel
      have HRi := Lib.hid hRi
      have HBi := Lib.hid hBi
      clear hRi hBi
      by_cases hi8 : i < 8
      · obtain ⟨wd, hwd⟩ : ∃ wd, wd = u.list.getD i 0 := ⟨_, rfl⟩
        have hidx := fun W => idx_list u i hi8 W
        rw [← hwd] at hidx
        have HWD := Lib.hid hwd
        have hi0 : 0 ≤ (i : Int) := by omega
        clear hwd
        gi_wp2
        obtain ⟨wo, rfl⟩ : ∃ wo : World, wo = wr := ⟨_, rfl⟩
        gi_loopw [8, 21] (fun _ pk wr => ∃ j : Nat, j ≤ 4 ∧ pk = .int .i64 j ∧ Row wr dB 64 .u8 (part32 (bN (Ds.final u)) (4 * i + j)) ∧ Below dB W wr) (fun _ pk _ => 4 - (intOf pk).toNat)
        case atStart => exact ⟨0, by omega, rfl, HRi.out, HBi.out⟩
        case round =>
          obtain ⟨j, hj, rfl, hRj, hBj⟩ := hrel
          by_cases hj4 : j < 4
          · have hfr := hRj.frozen (4 * i + j)
            have hcl := hRj.cell (j := 4 * i + j) (by rw [part32_len _ _ hfl (by omega)]; omega)
            have HRj := Lib.hid hRj
            have HBj := Lib.hid hBj
            have hwl : wd < 4294967296 := by rw [HWD.out]; exact st_small huo i
            clear hRj hBj
            obtain rfl | rfl | rfl | rfl : j = 0 ∨ j = 1 ∨ j = 2 ∨ j = 3 := by omega
            · have hput := part32_put (bN (Ds.final u)) (4 * i + 0) hfl (by omega)
              rw [final_get u i 0 hi8 (by omega), ← HWD.out] at hput
              have HPUT := Lib.hid hput
              clear hput
              simp only [Nat.add_zero] at hfr hcl
              gi_wp2
              go_roundw
              case rel => exact ⟨1, by omega, rfl, by
                have h := HRj.out.set (4 * i + 0) (wd / 256 ^ (3 - 0) % 256)
                rw [HPUT.out] at h
                rw [show (wd : Int) / 16777216 = ((wd / 256 ^ (3 - 0) % 256 : Nat) : Int) by rw [show (256 : Nat) ^ (3 - 0) = 16777216 from rfl]; omega]
                exact h, HBj.out.setCell (p := ⟨dB, _, none⟩) (Nat.le_refl _) _⟩
              case measure => simp [intOf]
            · have hput := part32_put (bN (Ds.final u)) (4 * i + 1) hfl (by omega)
              rw [final_get u i 1 hi8 (by omega), ← HWD.out] at hput
              have HPUT := Lib.hid hput
              clear hput
              gi_wp2
              go_roundw
              case rel => exact ⟨2, by omega, rfl, by
                have h := HRj.out.set (4 * i + 1) (wd / 256 ^ (3 - 1) % 256)
                rw [HPUT.out] at h
                rw [show (wd : Int) / 65536 % 256 = ((wd / 256 ^ (3 - 1) % 256 : Nat) : Int) by rw [show (256 : Nat) ^ (3 - 1) = 65536 from rfl]; omega]
                exact h, HBj.out.setCell (p := ⟨dB, _, none⟩) (Nat.le_refl _) _⟩
              case measure => simp [intOf]
            · have hput := part32_put (bN (Ds.final u)) (4 * i + 2) hfl (by omega)
              rw [final_get u i 2 hi8 (by omega), ← HWD.out] at hput
              have HPUT := Lib.hid hput
              clear hput
              gi_wp2
              go_roundw
              case rel => exact ⟨3, by omega, rfl, by
                have h := HRj.out.set (4 * i + 2) (wd / 256 ^ (3 - 2) % 256)
                rw [HPUT.out] at h
                rw [show (wd : Int) / 256 % 256 = ((wd / 256 ^ (3 - 2) % 256 : Nat) : Int) by rw [show (256 : Nat) ^ (3 - 2) = 256 from rfl]; omega]
                exact h, HBj.out.setCell (p := ⟨dB, _, none⟩) (Nat.le_refl _) _⟩
              case measure => simp [intOf]
            · have hput := part32_put (bN (Ds.final u)) (4 * i + 3) hfl (by omega)
              rw [final_get u i 3 hi8 (by omega), ← HWD.out] at hput
              have HPUT := Lib.hid hput
              clear hput
              gi_wp2
              go_roundw
              case rel => exact ⟨4, by omega, rfl, by
                have h := HRj.out.set (4 * i + 3) (wd / 256 ^ (3 - 3) % 256)
                rw [HPUT.out] at h
                rw [show (wd : Int) % 256 = ((wd / 256 ^ (3 - 3) % 256 : Nat) : Int) by rw [show (256 : Nat) ^ (3 - 3) = 1 from rfl]; omega]
                exact h, HBj.out.setCell (p := ⟨dB, _, none⟩) (Nat.le_refl _) _⟩
              case measure => simp [intOf]
          · obtain rfl : j = 4 := by omega
            have HRj := Lib.hid hRj
            have HBj := Lib.hid hBj
            clear hRj hBj
            gi_wp2
            go_roundw
            case rel => exact ⟨i + 1, by omega, by go_num, HRj.out, HBj.out⟩
            case measure => simp [intOf]; omega
      · obtain rfl : i = 8 := by omega
        have hfull : part32 (bN (Ds.final u)) (4 * 8) = bN (Ds.final u) := by
          unfold part32; rw [List.take_of_length_le (by rw [hfl]; omega)]; simp
        have hrow : Row wr dB 64 .u8 (bN (Ds.final u)) := by rw [← hfull]; exact HRi.out
        have hsa := slice32 wr dB
        have hcv := run_convert_bytes_arg (P := Tryd.prog) wr 42 5 Tryd.underlying42 Tryd.underlying5 dB 0 32 32 ((bN (Ds.final u)).map fun (n : Nat) => (n : Int)) (by rw [List.length_map, hfl]) (fun i hi => by
          rw [Nat.zero_add, hrow.cell (by rw [hfl]; exact hi)]
          simp [List.getD, List.getElem?_eq_getElem (show i < (bN (Ds.final u)).length by rw [hfl]; exact hi)]) 9 Tryd.underlying9
        have hK2 : wr.heap[D]? = some (.deferred (some [])) := (HBi.out.block D (by have h1 := (Array.getElem?_eq_some_iff.1 HK.out).1; have h2 := HDB.out; omega)).trans HK.out
        have HK2 := Lib.hid hK2
        clear hK2 hrow hfull
        gi_wp2
        refine ⟨by simp, .inl ⟨_, _, rfl, run_takeDeferred HK2.out, ?_⟩⟩
        refine ⟨_, results_tmp rfl _ _ _, ?_, (HB.out.trans (HBi.out.mono (by have := HDB.out; omega))).trans (belowK_b (w := w) (Nat.le_refl _) wr D _ _ (by have := HD.out; omega) HK2.out rfl rfl)⟩
        rw [HS.out, ← str_final]
        rfl
end Go.Proofs.YtlnlhjkdbpkaiaaDoor
