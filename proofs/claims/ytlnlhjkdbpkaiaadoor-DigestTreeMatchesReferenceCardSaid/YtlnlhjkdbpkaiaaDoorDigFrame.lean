/- What each proof of this seat needs around its walk: the tables as the row lists them, arguments that read as lists of strings, a start that fits, and the step from a world that has kept what lay below to the row's own words. No condition of its own. (The lemma post_of_below is one that the guide gives for copying.) -/
import Derived.Test.YtlnlhjkdbpkaiaaDoorCards
import Derived.Test.YtlnlhjkdbpkaiaaDoorTie
import Derived.Test.YtlnlhjkdbpkaiaaDoorDigR
import Derived.WalkKit
import Derived.ProofKit
import Derived.OpenShut
import Derived.Below
import Derived.ChangeSame
import Derived.Deep.DeepHandedRow
import Derived.Lib.LaidTab
import Derived.LaidSub
import Derived.SliceStrings
import Derived.WideKeyArgs
namespace Go.Proofs.YtlnlhjkdbpkaiaaDoor
open Go.RowKit Go.ChangeShapes Go.WideShapes Go.ChangeAt

section
variable {H : Type} {enc : TypeId × Value → H} {P : Program}
theorem post_of_below {f : Func} {s : ChangeSpec} {apart fresh handsOn again : Bool} {W W' : World} {args : Array Value} {v : Value} {ds gs : List (DataW H)} {before pa pv : List MemPlace}
    (hW : DataW.Whole enc P f.params.toList s.vars apart W args.toList ds gs before)
    (hres : ∀ (b : Nat) (sp : Nat → Bool) (hd : Bool), DataW.TrodAll enc P W' b sp hd f.resultTypes.toList (v.resultList f.resultTypes.size) (s.fn H (ds ++ gs)).results [])
    (hargs : ∀ sp : Nat → Bool, (∀ p ∈ before, sp p.block = true) → DataW.TrodAll enc P W' 0 sp true f.params.toList args.toList (s.fn H (ds ++ gs)).args pa)
    (hvars : ∀ sp : Nat → Bool, (∀ p ∈ before, sp p.block = true) → DataW.TrodVars enc P W' sp s.vars (s.fn H (ds ++ gs)).vars pv)
    (hps : before = pa ++ pv) (hb : Below W.heap.size W W')
    (hok : ∀ (j : Nat) (t : TypeId) (r : Value), f.resultTypes[j]? = some t → (v.resultList f.resultTypes.size)[j]? = some r → Value.okWide P W' .any 0 t r) :
    s.post enc P f apart fresh handsOn again W args v W' := by
  have hlt : ∀ p ∈ before, p.block < W.heap.size := fun p hp => hW.lt p hp
  have hold : ∀ p ∈ before, (fun b => decide (b < W.heap.size)) p.block = true := fun p hp => by simpa using hlt p hp
  refine ⟨ds, gs, before, [], pa, pv, hW, hres _ _ _, hargs _ hold, hvars _ hold, World.keptBut_mono (fun p hp => ⟨hp, ?_⟩) (hb.frame (· ∈ before)), fun _ => ?_⟩
  · rw [hps, List.mem_append] at hp
    exact Or.inr hp
  · obtain ⟨_, _, _, _, _, hz, hn⟩ := hW
    refine ⟨hok, _, _, ([] ++ pa) ++ pv, ⟨[] ++ pa, pv, trodAll_append (hargs _ (fun _ _ => rfl)) (hres _ _ _), hvars _ (fun _ _ => rfl), rfl, ?_, ?_⟩, ?_⟩
    · intro b off hp
      have hin : MemPlace.cell b off ∈ before := by rw [hps]; simpa using hp
      rw [hb.frozen (hlt _ hin)]
      exact hz b off hin
    · intro ha
      have := hn ha
      rw [hps] at this
      simpa using this
    · intro p hp _
      rw [hps]
      simpa using hp
end

theorem Tryd.own : ownKnob Tryd.prog.godebug = none := by kernel_rfl
theorem laidOut : laidOutB Tryd.prog = true := by kernel_rfl
theorem cellsStr : Tryd.prog.cellsOf 9 = 1 := by kernel_rfl
theorem cellsU32 : Tryd.prog.cellsOf 47 = 1 := by kernel_rfl
theorem gI : Tryd.prog.globalNamed "evergreen/digest.initial" = some 0 := by kernel_rfl
theorem gIType : (Tryd.prog.globals[0]?).map (·.type) = some 58 := by kernel_rfl
theorem cellsI : Tryd.prog.cellsOf 58 = 8 := by kernel_rfl
theorem gK : Tryd.prog.globalNamed "evergreen/digest.constants" = some 1 := by kernel_rfl
theorem gKType : (Tryd.prog.globals[1]?).map (·.type) = some 70 := by kernel_rfl
theorem cellsK : Tryd.prog.cellsOf 70 = 64 := by kernel_rfl
def ivNums : List Int := Ds.iv.list.map fun (n : Nat) => (n : Int)
def kNums : List Int := Ds.kTab.map fun (n : Nat) => (n : Int)

/-- What the row's list gives. -/
theorem tabs_of_laid {W : World} (h : laidMetH Tryd.prog [("evergreen/digest.initial", Rows.laid_evergreen_digest_initial), ("evergreen/digest.constants", Rows.laid_evergreen_digest_constants)] W) : Tabs W := by
  have hi : Lib.TabIs Tryd.prog W "evergreen/digest.initial" .u32 ivNums := Lib.tabIs_of_head (rest := [("evergreen/digest.constants", Rows.laid_evergreen_digest_constants)]) gI gIType Tryd.underlying58 Tryd.underlying47 cellsU32 cellsI h
  have hk0 : laidMetH Tryd.prog [("evergreen/digest.constants", Rows.laid_evergreen_digest_constants)] W := laidMetH.filter (fun x => x.1 == "evergreen/digest.constants") h
  have hk : Lib.TabIs Tryd.prog W "evergreen/digest.constants" .u32 kNums := Lib.tabIs_of_head (rest := []) gK gKType Tryd.underlying70 Tryd.underlying47 cellsU32 cellsK hk0
  have ci : TabI W := fun i hi' => by
    rw [hi.cell gI i (by simpa [ivNums, Ds.St.list] using hi')]
    congr 2
    have all : ∀ i, i < 8 → ivNums.getD i 0 = ((Ds.iv.list.getD i 0 : Nat) : Int) := by decide
    exact all i hi'
  have ck : TabK W := fun i hk' => by
    rw [hk.cell gK i (by simpa [kNums, Ds.kTab] using hk')]
    congr 2
    have all : ∀ i, i < 64 → kNums.getD i 0 = ((Ds.kTab.getD i 0 : Nat) : Int) := by decide
    exact all i hk'
  exact ⟨ci, ck, World.block_lt_of_cell? (a := ⟨0, 0, none⟩) (h := ci 0 (by decide)), World.block_lt_of_cell? (a := ⟨1, 0, none⟩) (h := ck 0 (by decide))⟩

theorem strs_at {w : World} {a : Addr} {ss : List ByteArray} (h : ∀ i, i < ss.length → w.cell? (a.add i) = some (.string (ss.getD i ByteArray.empty))) (hp : 0 < ss.length) :
    ∃ b off, a = ⟨b, off, none⟩ ∧ ∀ j, j < ss.length → w.cell? ⟨b, off + j, none⟩ = some (.string (ss.getD j ByteArray.empty)) := by
  obtain ⟨b, off, spot⟩ := a
  have hspot : spot = none := by simpa [Addr.add] using World.cell?_spot (h 0 hp)
  subst hspot
  exact ⟨b, off, rfl, fun j hj => by rw [← Go.WideShapes.add_plain]; exact h j hj⟩
/-- A slice of strings that came in. -/
theorem arg_of {H : Type} {enc : TypeId × Value → H} {W : World} {base fuel : Nat} {held : Bool} {x : DataW H × List MemPlace} {a : Option Addr} {n c : Nat}
    (g : DataW.trod enc Tryd.prog W base (fun _ => true) held fuel 26 [.slice a n c] = some x) : ∃ l, ArgAt W (.slice a n c) l := by
  rcases open_strings Tryd.underlying26 Tryd.underlying9 cellsStr g with ⟨hcs, _⟩ | ⟨a', len', cap', ss, hcs, _, hl, hm, hz, _, hcell, hws⟩
  · simp at hcs
    obtain ⟨rfl, rfl, rfl⟩ := hcs
    exact ⟨[], ⟨(fun x hx => by cases hx), by simp, .inl ⟨_, _, rfl, rfl⟩⟩⟩
  · simp at hcs
    obtain ⟨rfl, rfl, rfl⟩ := hcs
    simp only [if_true] at hz
    by_cases h0 : n = 0
    · subst h0; exact ⟨[], ⟨(fun x hx => by cases hx), by simp, .inl ⟨_, _, rfl, rfl⟩⟩⟩
    · obtain ⟨b, off, rfl, hc⟩ := strs_at hcell (by omega)
      have hln : (ss.take n).length = n := by rw [List.length_take]; omega
      refine ⟨ss.take n, fun x hx => ?_, by rw [hln]; unfold maxLen at hm; omega, .inr ⟨b, off, c, by rw [hln], by omega, StrsAt.take hc n, World.block_lt_of_cell? (h := hc 0 (by omega))⟩⟩
      have := hws x (List.mem_of_mem_take hx)
      unfold maxLen at this; omega

def putCells (cs : Array Value) : Obj → Obj
  | .cells _ t frozen => .cells cs t frozen
  | o => o
/-- A world for the witness: the settled one, the tables holding what their initialisers lay. -/
noncomputable def laidWorld (os : Os) : World :=
  { World.holding Tryd.prog os ⟨#[], #[], []⟩ with heap := (((World.holding Tryd.prog os ⟨#[], #[], []⟩).heap.modify 0 (putCells #[.int .u32 1779033703, .int .u32 3144134277, .int .u32 1013904242, .int .u32 2773480762, .int .u32 1359893119, .int .u32 2600822924, .int .u32 528734635, .int .u32 1541459225])).modify 1 (putCells #[.int .u32 1116352408, .int .u32 1899447441, .int .u32 3049323471, .int .u32 3921009573, .int .u32 961987163, .int .u32 1508970993, .int .u32 2453635748, .int .u32 2870763221, .int .u32 3624381080, .int .u32 310598401, .int .u32 607225278, .int .u32 1426881987, .int .u32 1925078388, .int .u32 2162078206, .int .u32 2614888103, .int .u32 3248222580, .int .u32 3835390401, .int .u32 4022224774, .int .u32 264347078, .int .u32 604807628, .int .u32 770255983, .int .u32 1249150122, .int .u32 1555081692, .int .u32 1996064986, .int .u32 2554220882, .int .u32 2821834349, .int .u32 2952996808, .int .u32 3210313671, .int .u32 3336571891, .int .u32 3584528711, .int .u32 113926993, .int .u32 338241895, .int .u32 666307205, .int .u32 773529912, .int .u32 1294757372, .int .u32 1396182291, .int .u32 1695183700, .int .u32 1986661051, .int .u32 2177026350, .int .u32 2456956037, .int .u32 2730485921, .int .u32 2820302411, .int .u32 3259730800, .int .u32 3345764771, .int .u32 3516065817, .int .u32 3600352804, .int .u32 4094571909, .int .u32 275423344, .int .u32 430227734, .int .u32 506948616, .int .u32 659060556, .int .u32 883997877, .int .u32 958139571, .int .u32 1322822218, .int .u32 1537002063, .int .u32 1747873779, .int .u32 1955562222, .int .u32 2024104815, .int .u32 2227730452, .int .u32 2361852424, .int .u32 2428436474, .int .u32 2756734187, .int .u32 3204031479, .int .u32 3329325298])) }
end Go.Proofs.YtlnlhjkdbpkaiaaDoor
