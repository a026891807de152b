/- What completes gives of a function that comes to its end, and of one that is stopped. No condition of its own. -/
import Derived.Test.YtcnokccgdiodlaaGreatDoorFmtH
import Derived.Test.YtcnokccgdiodlaaGreatDoorFmtK
import Derived.Defers
import Derived.Recover
import Derived.Laws.Pointers
namespace Go.Proofs.YtcnokccgdiodlaaGreatDoor
open Go.RowKit Fx Go.Sort

theorem add_any (P : Nat → Prop) (tb : Nat) (s : St) (f : Fld) (er : Addr) (w : World) (hT : TabAt w P tb s) (hE : ErrAt w er) (hPe : P 0) (hG : Fx.Good s) (hf : Ints f) :
    Calls Tryz.prog 57 #[adr tb, fldV f] w (AddPost P tb s f er w) := by
  by_cases h0 : 0 < s.o.id
  · by_cases h1 : s.o.fs.length < 16
    · by_cases hk : 1 ≤ f.kind ∧ f.kind ≤ 6
      · exact add_main P tb f.kind.toNat s f er w hT hE hPe hG h0 h1 hf (by omega) (by omega) (by omega)
      · exact add_kind P tb s f er w hT hE h0 h1 hk
    · exact add_full P tb s f er w hT hE h0 h1
  · exact add_id P tb s f er w hT hE h0

theorem catch_panicking (p : Addr) (x pv : Value) (u : TypeId) (older : List PanicEntry) (w : World) (hc : w.cell? p = some x) (hz : w.frozen? p = false) :
    CallsD Tryz.prog 71 #[.pointer (some p)] (.panicking ({ v := .iface u pv, recovered := false } :: older)) w fun e u' w' =>
      e = .returned (.tuple #[]) ∧ u' = .panicking ({ v := .iface u pv, recovered := true } :: older) ∧ w' = w.setCell p (.bool false) := by
  refine callsD_of_wpS Tryz.func71 rfl fun c₀ cs hu => ?_
  apply wpS_region
  simp [wpOpsS, go_sem, recoverD, hu, Tryz.ntmps71, hc, hz, bodyPostS, results, Tryz.results71]
theorem catch_idle (p : Addr) (x : Value) (w : World) (hc : w.cell? p = some x) (hz : w.frozen? p = false) :
    CallsD Tryz.prog 71 #[.pointer (some p)] .returning w fun e u' w' => e = .returned (.tuple #[]) ∧ u' = .returning ∧ w' = w.setCell p (.bool true) := by
  refine callsD_of_wpS Tryz.func71 rfl fun c₀ cs hu => ?_
  apply wpS_region
  simp [wpOpsS, go_sem, recoverD, hu, Tryz.ntmps71, hc, hz, bodyPostS, results, Tryz.results71]
  cases c₀
  simp_all

set_option maxRecDepth 20000 in
/-- A function that comes to its end, or is stopped by a panic of an error. -/
theorem completes_any (fn : FuncId) (cap : Array Value) (ok : Bool) (er : Addr) (w : World) (Q : World → Prop) (hen : Enters fn)
    (hf : Calls Tryz.prog fn cap (w.alloc (.cells #[.bool false] 4)) fun e w2 => e = ends er ok ∧ w2.heap[w.heap.size]? = some (.cells #[.bool false] 4 (0, 0)) ∧ Q w2)
    (hQ : ∀ w2 v, Q w2 → Q (w2.setCell ⟨w.heap.size, 0, none⟩ v)) :
    Calls Tryz.prog 46 #[.func (.func fn) #[] cap] w fun e w' => e = .returned (.bool ok) ∧ Q w' := by
  have HF := Lib.hid hf
  have HQ := Lib.hid hQ
  clear hf hQ
  unfold Enters at hen
  have hmf : ∀ (fn : Fn) (first cap : Array Value) (w : World), (Instr.makeFunc fn first cap).run Tryz.prog w = .ok (.func fn first cap) w := fun _ _ _ _ => rfl
  go_enter_defers Tryz.func46, Tryz.ntmps46
  go_wp2_with fail
  refine HF.out.mono ?_
  rintro e w2 ⟨rfl, hb, hq⟩
  have hc2 : w2.cell? ⟨w.heap.size, 0, none⟩ = some (.bool false) := cell_of_row w2 w.heap.size 0 _ _ _ hb
  have hz2 : w2.frozen? ⟨w.heap.size, 0, none⟩ = false := Blk.frozen (w := w2) hb 0
  have hlt := lt_of_heap hb
  have HQ2 := Lib.hid hq
  clear hb hq
  cases ok with
  | true =>
    unfold ends
    go_wp2_with fail
    refine leaves_cons (f := 71) (args := #[.pointer (some ⟨w.heap.size, 0, none⟩)]) (by simp) (by simp [go_sem]) ?_
    refine (catch_idle ⟨w.heap.size, 0, none⟩ (.bool true) _ (by simp [go_sem, hc2]) (by simp [go_sem, hz2])).mono ?_
    rintro e u' w'' ⟨rfl, rfl, rfl⟩
    simp [Leaves, settle, results, Tryz.results46, go_sem, hc2]
    exact HQ.out _ _ (HQ.out _ _ HQ2.out)
  | false =>
    unfold ends
    go_wp2_with fail
    refine leaves_cons (f := 71) (args := #[.pointer (some ⟨w.heap.size, 0, none⟩)]) (by simp) (by simp [go_sem]) ?_
    refine (catch_panicking ⟨w.heap.size, 0, none⟩ (.bool false) _ _ _ _ hc2 hz2).mono ?_
    rintro e u' w'' ⟨rfl, rfl, rfl⟩
    simp [Leaves, settle, results, Tryz.results46, go_sem, hc2]
    exact HQ.out _ _ HQ2.out
end Go.Proofs.YtcnokccgdiodlaaGreatDoor
