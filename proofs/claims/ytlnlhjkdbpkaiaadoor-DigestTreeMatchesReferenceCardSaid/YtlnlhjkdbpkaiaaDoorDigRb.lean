/- The reference's extended string. Condition: the string has at most 4000 bytes. -/
import Derived.Test.YtlnlhjkdbpkaiaaDoorDigRa
namespace Go.Proofs.YtlnlhjkdbpkaiaaDoor
open Go.RowKit

def be8N (n : Nat) : List Nat := [n / 72057594037927936 % 256, n / 281474976710656 % 256, n / 1099511627776 % 256, n / 4294967296 % 256, n / 16777216 % 256, n / 65536 % 256, n / 256 % 256, n % 256]
theorem bN_be8 (n : Nat) : bN (Ds.be8 n) = be8N n := by simp [bN, Ds.be8, be8N]
theorem bN_zeros (k : Nat) : bN (List.replicate k 0) = List.replicate k 0 := by simp [bN]
theorem bN_pad (m : List UInt8) : bN (Ds.pad m) = (bN m ++ 128 :: List.replicate ((119 - m.length % 64) % 64) 0) ++ be8N (8 * m.length) := by
  unfold Ds.pad
  rw [bN_append, show (128 : UInt8) :: (List.replicate ((119 - m.length % 64) % 64) 0 ++ Ds.be8 (8 * m.length)) = [128] ++ (List.replicate ((119 - m.length % 64) % 64) 0 ++ Ds.be8 (8 * m.length)) from rfl, bN_append, bN_append, bN_zeros, bN_be8]
  simp [bN]
theorem bN_take_succ (s : ByteArray) (i : Nat) (h : i < s.size) : (bN s.data.toList).take (i + 1) = (bN s.data.toList).take i ++ [s[i].toNat] := by
  have hl : i < (bN s.data.toList).length := by rw [bN_len]; simpa using h
  rw [List.take_succ_eq_append_getElem hl]
  simp [bN]
  rfl

set_option maxRecDepth 100000 in
set_option maxHeartbeats 4000000 in
theorem extended_any (s : ByteArray) (w : World) (hs : s.size ≤ 4000) :
    Calls Tryd.prog 38 #[.string s] w fun e w' => ∃ v, e = .returned v ∧ OwnI w' w.heap.size 5 .u8 v (bN (Ds.pad s.data.toList)) ∧ Below w.heap.size w w' := by
  obtain ⟨Z, hZ⟩ : ∃ Z, Z = (119 - s.size % 64) % 64 := ⟨_, rfl⟩
  have HP : Hid (bN (Ds.pad s.data.toList) = (bN s.data.toList ++ 128 :: List.replicate Z 0) ++ be8N (8 * s.size)) := Lib.hid (by rw [bN_pad, hZ]; simp)
  have HLEN : Hid (∀ j, (bN s.data.toList ++ 128 :: List.replicate j 0).length = s.size + 1 + j) := Lib.hid (fun j => by simp [bN_len]; omega)
  have HZ := Lib.hid hZ
  have hz63 : Z ≤ 63 := by omega
  clear hZ
  go_enter Tryd.func38, Tryd.ntmps38
  go_wp2
  go_loopw [3, 4] (fun v c wr => ∃ i : Nat, i ≤ s.size ∧ c = .int .i64 i ∧ OwnI wr w.heap.size 5 .u8 v ((bN s.data.toList).take i) ∧ Below w.heap.size w wr) (fun _ c _ => s.size - (intOf c).toNat)
  case atStart => exact ⟨0, by omega, rfl, OwnI.nil _ _ _ _, Below.refl _ _⟩
  case round =>
    obtain ⟨i, hi, rfl, hO, hB⟩ := hrel
    have HO := Lib.hid hO
    have HB := Lib.hid hB
    clear hO hB
    have HBA : Hid (∀ o, Below w.heap.size w (wr.alloc o)) := Lib.hid (fun o => HB.out.alloc HB.out.size o)
    by_cases hlt : i < s.size
    · obtain ⟨b, hb⟩ : ∃ b, s[i].toNat = b := ⟨_, rfl⟩
      have HN : Hid ((bN s.data.toList).take (i + 1) = (bN s.data.toList).take i ++ [b]) := Lib.hid (by rw [bN_take_succ s i hlt, hb])
      obtain ⟨L, hL⟩ : ∃ L, L = (bN s.data.toList).take i := ⟨_, rfl⟩
      have hll : L.length + [b].length ≤ 1000000 := by rw [hL, List.length_take]; simp; omega
      rw [← hL] at HO HN
      clear hL
      go_wp2_with (refine wpList_append_nums numU8 rfl (.tmp 12) (.tmp 16) rfl w.heap.size _ L rfl (HO.out.alloc _) wr.heap.size 0 1 1 [b] rfl rfl (nums_one _ _ _ _ _ rfl) hll (HBA.out _).size ?_; intro v1 w1 ho1 hb1; have HO1 := Lib.hid ho1; have HB1 := Lib.hid ((HBA.out _).trans hb1); clear ho1 hb1)
      go_roundw
      case rel => exact ⟨i + 1, by omega, by go_num, by rw [HN.out]; exact HO1.out, HB1.out⟩
      case measure => simp [intOf]; omega
    · have HE : Hid ((bN s.data.toList).take i = bN s.data.toList) := Lib.hid (List.take_of_length_le (by rw [bN_len]; simp; omega))
      obtain ⟨wo, rfl⟩ : ∃ wo : World, wo = wr := ⟨_, rfl⟩
      rw [HE.out] at HO
      have hll : (bN s.data.toList).length + [128].length ≤ 1000000 := by rw [bN_len]; simp; omega
      go_wp2_with (refine wpList_append_nums numU8 rfl (.tmp 18) (.tmp 19) rfl w.heap.size _ (bN s.data.toList) rfl (HO.out.alloc _) wo.heap.size 0 1 1 [128] rfl rfl (nums_one _ _ _ _ _ rfl) hll (HBA.out _).size ?_; intro v1 w1 ho1 hb1; have HO1 := Lib.hid ho1; have HB1 := Lib.hid ((HBA.out _).trans hb1); clear ho1 hb1)
      go_loopw [3] (fun v wr => ∃ j : Nat, j ≤ Z ∧ (∃ a c, v = .slice a (s.size + 1 + j) c) ∧ OwnI wr w.heap.size 5 .u8 v (bN s.data.toList ++ 128 :: List.replicate j 0) ∧ Below w.heap.size w wr) (fun v _ => match v with | .slice _ n _ => s.size + 1 + Z - n | _ => 0)
      case atStart =>
        refine ⟨0, by omega, ?_, HO1.out, HB1.out⟩
        obtain ⟨a, c, e, _⟩ := HO1.out.form
        exact ⟨a, c, by rw [e]; simp [bN_len]⟩
      case round =>
        obtain ⟨j, hj, ⟨a, c, rfl⟩, hO, hB⟩ := hrel
        have HO2 := Lib.hid hO
        have HB2 := Lib.hid hB
        clear hO hB
        have HBA2 : Hid (∀ o, Below w.heap.size w (wr.alloc o)) := Lib.hid (fun o => HB2.out.alloc HB2.out.size o)
        obtain ⟨n, hn⟩ : ∃ n, n = s.size + 1 + j := ⟨_, rfl⟩
        have hn2 : n ≤ 5000 := by omega
        have HZ' := HZ.out
        rw [← hn] at HO2 ⊢
        by_cases hlt2 : j < Z
        · have t1 : ((n : Int) % 64 == 56) = false := by simp; omega
          have t2 : ¬ (n : Int) % 64 = 56 := by omega
          have HN2 : Hid (bN s.data.toList ++ 128 :: List.replicate (j + 1) 0 = (bN s.data.toList ++ 128 :: List.replicate j 0) ++ [0]) := Lib.hid (by rw [List.replicate_succ']; simp)
          obtain ⟨L, hL⟩ : ∃ L, L = bN s.data.toList ++ 128 :: List.replicate j 0 := ⟨_, rfl⟩
          have hll2 : L.length + [0].length ≤ 1000000 := by rw [hL, HLEN.out]; simp; omega
          have HNN := Lib.hid hn
          rw [← hL] at HO2 HN2
          clear hL HZ' hn
          go_wp2_with (refine wpList_append_nums numU8 rfl (.tmp 25) (.tmp 26) rfl w.heap.size _ L rfl (HO2.out.alloc _) wr.heap.size 0 1 1 [0] rfl rfl (nums_one _ _ _ _ _ rfl) hll2 (HBA2.out _).size ?_; intro v3 w3 ho3 hb3; have HO3 := Lib.hid ho3; have HB3 := Lib.hid ((HBA2.out _).trans hb3); clear ho3 hb3)
          obtain ⟨a3, c3, e3, _⟩ := HO3.out.form
          have e4 : v3 = .slice a3 (s.size + 1 + (j + 1)) c3 := by rw [e3, ← HN2.out, HLEN.out]
          subst e4
          clear e3
          go_roundw
          case rel => exact ⟨j + 1, by omega, ⟨a3, c3, rfl⟩, by rw [HN2.out]; exact HO3.out, HB3.out⟩
          case measure => have := HNN.out; simp; omega
        · obtain rfl : j = Z := by omega
          have t1 : ((n : Int) % 64 == 56) = true := by simp; omega
          have t2 : (n : Int) % 64 = 56 := by omega
          have HNN := Lib.hid hn
          clear HZ' hn
          go_wp2_with fail
          clear t1 t2
          obtain ⟨wp, rfl⟩ : ∃ wp : World, wp = wr := ⟨_, rfl⟩
          go_loopw [3, 5] (fun v c wr => ∃ k : Nat, k ≤ 8 ∧ c = .int .i64 (7 - (k : Int)) ∧ OwnI wr w.heap.size 5 .u8 v ((bN s.data.toList ++ 128 :: List.replicate j 0) ++ (be8N (8 * s.size)).take k) ∧ Below w.heap.size w wr) (fun _ c _ => (intOf c + 1).toNat)
          case atStart => exact ⟨0, by omega, rfl, by rw [List.take_zero, List.append_nil]; exact HO2.out, HB2.out⟩
          case round =>
            obtain ⟨k, hk, rfl, hO, hB⟩ := hrel
            have HO4 := Lib.hid hO
            have HB4 := Lib.hid hB
            clear hO hB
            have HBA4 : Hid (∀ o, Below w.heap.size w (wr.alloc o)) := Lib.hid (fun o => HB4.out.alloc HB4.out.size o)
            obtain ⟨N, hN⟩ : ∃ N, N = 8 * s.size := ⟨_, rfl⟩
            have hN2 : N ≤ 32000 := by omega
            have q8 : 8 * (s.size : Int) = (N : Int) := by omega
            rw [← hN] at HO4 ⊢
            have HNN8 := Lib.hid hN
            clear hN
            by_cases hk8 : k < 8
            · have HAP : Hid (∀ k x, (be8N N).take (k + 1) = (be8N N).take k ++ [x] → (bN s.data.toList ++ 128 :: List.replicate j 0) ++ (be8N N).take (k + 1) = ((bN s.data.toList ++ 128 :: List.replicate j 0) ++ (be8N N).take k) ++ [x]) := Lib.hid (fun k x h => by rw [h]; simp only [List.append_assoc])
              obtain rfl | rfl | rfl | rfl | rfl | rfl | rfl | rfl : k = 0 ∨ k = 1 ∨ k = 2 ∨ k = 3 ∨ k = 4 ∨ k = 5 ∨ k = 6 ∨ k = 7 := by omega
              · rw [show (7 - ((0 : Nat) : Int)) = 7 from rfl]
                have HAPP := Lib.hid (HAP.out 0 (N / 72057594037927936 % 256) rfl)
                obtain ⟨L, hL⟩ : ∃ L, L = (bN s.data.toList ++ 128 :: List.replicate j 0) ++ (be8N N).take 0 := ⟨_, rfl⟩
                have hll4 : L.length + [N / 72057594037927936 % 256].length ≤ 1000000 := by rw [hL, List.length_append, HLEN.out]; simp [be8N]; omega
                rw [← hL] at HO4 HAPP
                clear hL
                go_wp2_with (refine wpList_append_nums numU8 rfl (.tmp 32) (.tmp 40) rfl w.heap.size _ L rfl (HO4.out.alloc _) wr.heap.size 0 1 1 [N / 72057594037927936 % 256] rfl rfl (nums_one _ _ _ _ _ (by omega)) hll4 (HBA4.out _).size ?_; intro v5 w5 ho5 hb5; have HO5 := Lib.hid ho5; have HB5 := Lib.hid ((HBA4.out _).trans hb5); clear ho5 hb5)
                go_roundw
                case rel => exact ⟨1, by omega, by go_num, by rw [HAPP.out]; exact HO5.out, HB5.out⟩
                case measure => simp [intOf]
              · rw [show (7 - ((1 : Nat) : Int)) = 6 from rfl]
                have HAPP := Lib.hid (HAP.out 1 (N / 281474976710656 % 256) rfl)
                obtain ⟨L, hL⟩ : ∃ L, L = (bN s.data.toList ++ 128 :: List.replicate j 0) ++ (be8N N).take 1 := ⟨_, rfl⟩
                have hll4 : L.length + [N / 281474976710656 % 256].length ≤ 1000000 := by rw [hL, List.length_append, HLEN.out]; simp [be8N]; omega
                rw [← hL] at HO4 HAPP
                clear hL
                go_wp2_with (refine wpList_append_nums numU8 rfl (.tmp 32) (.tmp 40) rfl w.heap.size _ L rfl (HO4.out.alloc _) wr.heap.size 0 1 1 [N / 281474976710656 % 256] rfl rfl (nums_one _ _ _ _ _ (by omega)) hll4 (HBA4.out _).size ?_; intro v5 w5 ho5 hb5; have HO5 := Lib.hid ho5; have HB5 := Lib.hid ((HBA4.out _).trans hb5); clear ho5 hb5)
                go_roundw
                case rel => exact ⟨2, by omega, by go_num, by rw [HAPP.out]; exact HO5.out, HB5.out⟩
                case measure => simp [intOf]
              · rw [show (7 - ((2 : Nat) : Int)) = 5 from rfl]
                have HAPP := Lib.hid (HAP.out 2 (N / 1099511627776 % 256) rfl)
                obtain ⟨L, hL⟩ : ∃ L, L = (bN s.data.toList ++ 128 :: List.replicate j 0) ++ (be8N N).take 2 := ⟨_, rfl⟩
                have hll4 : L.length + [N / 1099511627776 % 256].length ≤ 1000000 := by rw [hL, List.length_append, HLEN.out]; simp [be8N]; omega
                rw [← hL] at HO4 HAPP
                clear hL
                go_wp2_with (refine wpList_append_nums numU8 rfl (.tmp 32) (.tmp 40) rfl w.heap.size _ L rfl (HO4.out.alloc _) wr.heap.size 0 1 1 [N / 1099511627776 % 256] rfl rfl (nums_one _ _ _ _ _ (by omega)) hll4 (HBA4.out _).size ?_; intro v5 w5 ho5 hb5; have HO5 := Lib.hid ho5; have HB5 := Lib.hid ((HBA4.out _).trans hb5); clear ho5 hb5)
                go_roundw
                case rel => exact ⟨3, by omega, by go_num, by rw [HAPP.out]; exact HO5.out, HB5.out⟩
                case measure => simp [intOf]
              · rw [show (7 - ((3 : Nat) : Int)) = 4 from rfl]
                have HAPP := Lib.hid (HAP.out 3 (N / 4294967296 % 256) rfl)
                obtain ⟨L, hL⟩ : ∃ L, L = (bN s.data.toList ++ 128 :: List.replicate j 0) ++ (be8N N).take 3 := ⟨_, rfl⟩
                have hll4 : L.length + [N / 4294967296 % 256].length ≤ 1000000 := by rw [hL, List.length_append, HLEN.out]; simp [be8N]; omega
                rw [← hL] at HO4 HAPP
                clear hL
                go_wp2_with (refine wpList_append_nums numU8 rfl (.tmp 32) (.tmp 40) rfl w.heap.size _ L rfl (HO4.out.alloc _) wr.heap.size 0 1 1 [N / 4294967296 % 256] rfl rfl (nums_one _ _ _ _ _ (by omega)) hll4 (HBA4.out _).size ?_; intro v5 w5 ho5 hb5; have HO5 := Lib.hid ho5; have HB5 := Lib.hid ((HBA4.out _).trans hb5); clear ho5 hb5)
                go_roundw
                case rel => exact ⟨4, by omega, by go_num, by rw [HAPP.out]; exact HO5.out, HB5.out⟩
                case measure => simp [intOf]
              · rw [show (7 - ((4 : Nat) : Int)) = 3 from rfl]
                have HAPP := Lib.hid (HAP.out 4 (N / 16777216 % 256) rfl)
                obtain ⟨L, hL⟩ : ∃ L, L = (bN s.data.toList ++ 128 :: List.replicate j 0) ++ (be8N N).take 4 := ⟨_, rfl⟩
                have hll4 : L.length + [N / 16777216 % 256].length ≤ 1000000 := by rw [hL, List.length_append, HLEN.out]; simp [be8N]; omega
                rw [← hL] at HO4 HAPP
                clear hL
                go_wp2_with (refine wpList_append_nums numU8 rfl (.tmp 32) (.tmp 40) rfl w.heap.size _ L rfl (HO4.out.alloc _) wr.heap.size 0 1 1 [N / 16777216 % 256] rfl rfl (nums_one _ _ _ _ _ (by omega)) hll4 (HBA4.out _).size ?_; intro v5 w5 ho5 hb5; have HO5 := Lib.hid ho5; have HB5 := Lib.hid ((HBA4.out _).trans hb5); clear ho5 hb5)
                go_roundw
                case rel => exact ⟨5, by omega, by go_num, by rw [HAPP.out]; exact HO5.out, HB5.out⟩
                case measure => simp [intOf]
              · rw [show (7 - ((5 : Nat) : Int)) = 2 from rfl]
                have HAPP := Lib.hid (HAP.out 5 (N / 65536 % 256) rfl)
                obtain ⟨L, hL⟩ : ∃ L, L = (bN s.data.toList ++ 128 :: List.replicate j 0) ++ (be8N N).take 5 := ⟨_, rfl⟩
                have hll4 : L.length + [N / 65536 % 256].length ≤ 1000000 := by rw [hL, List.length_append, HLEN.out]; simp [be8N]; omega
                rw [← hL] at HO4 HAPP
                clear hL
                go_wp2_with (refine wpList_append_nums numU8 rfl (.tmp 32) (.tmp 40) rfl w.heap.size _ L rfl (HO4.out.alloc _) wr.heap.size 0 1 1 [N / 65536 % 256] rfl rfl (nums_one _ _ _ _ _ (by omega)) hll4 (HBA4.out _).size ?_; intro v5 w5 ho5 hb5; have HO5 := Lib.hid ho5; have HB5 := Lib.hid ((HBA4.out _).trans hb5); clear ho5 hb5)
                go_roundw
                case rel => exact ⟨6, by omega, by go_num, by rw [HAPP.out]; exact HO5.out, HB5.out⟩
                case measure => simp [intOf]
              · rw [show (7 - ((6 : Nat) : Int)) = 1 from rfl]
                have HAPP := Lib.hid (HAP.out 6 (N / 256 % 256) rfl)
                obtain ⟨L, hL⟩ : ∃ L, L = (bN s.data.toList ++ 128 :: List.replicate j 0) ++ (be8N N).take 6 := ⟨_, rfl⟩
                have hll4 : L.length + [N / 256 % 256].length ≤ 1000000 := by rw [hL, List.length_append, HLEN.out]; simp [be8N]; omega
                rw [← hL] at HO4 HAPP
                clear hL
                go_wp2_with (refine wpList_append_nums numU8 rfl (.tmp 32) (.tmp 40) rfl w.heap.size _ L rfl (HO4.out.alloc _) wr.heap.size 0 1 1 [N / 256 % 256] rfl rfl (nums_one _ _ _ _ _ (by omega)) hll4 (HBA4.out _).size ?_; intro v5 w5 ho5 hb5; have HO5 := Lib.hid ho5; have HB5 := Lib.hid ((HBA4.out _).trans hb5); clear ho5 hb5)
                go_roundw
                case rel => exact ⟨7, by omega, by go_num, by rw [HAPP.out]; exact HO5.out, HB5.out⟩
                case measure => simp [intOf]
              · rw [show (7 - ((7 : Nat) : Int)) = 0 from rfl]
                have HAPP := Lib.hid (HAP.out 7 (N % 256) rfl)
                obtain ⟨L, hL⟩ : ∃ L, L = (bN s.data.toList ++ 128 :: List.replicate j 0) ++ (be8N N).take 7 := ⟨_, rfl⟩
                have hll4 : L.length + [N % 256].length ≤ 1000000 := by rw [hL, List.length_append, HLEN.out]; simp [be8N]; omega
                rw [← hL] at HO4 HAPP
                clear hL
                go_wp2_with (refine wpList_append_nums numU8 rfl (.tmp 32) (.tmp 40) rfl w.heap.size _ L rfl (HO4.out.alloc _) wr.heap.size 0 1 1 [N % 256] rfl rfl (nums_one _ _ _ _ _ (by omega)) hll4 (HBA4.out _).size ?_; intro v5 w5 ho5 hb5; have HO5 := Lib.hid ho5; have HB5 := Lib.hid ((HBA4.out _).trans hb5); clear ho5 hb5)
                go_roundw
                case rel => exact ⟨8, by omega, by go_num, by rw [HAPP.out]; exact HO5.out, HB5.out⟩
                case measure => simp [intOf]
            · obtain rfl : k = 8 := by omega
              have hN' := HNN8.out
              subst hN'
              go_wp2
              go_ret
              exact ⟨_, rfl, by rw [HP.out]; exact HO4.out, HB4.out⟩
end Go.Proofs.YtlnlhjkdbpkaiaaDoor
