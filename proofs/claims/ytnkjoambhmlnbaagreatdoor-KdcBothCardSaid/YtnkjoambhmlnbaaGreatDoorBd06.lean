/-
  What the rows of layer 1 list: the two tables of package sha; a slice of bytes as an argument; a world for the witness.
-/
import Derived.Test.YtnkjoambhmlnbaaGreatDoorBd04
import Derived.Test.YtnkjoambhmlnbaaGreatDoorCards
import Derived.Test.YtnkjoambhmlnbaaGreatDoorTie
import Derived.Test.YtnkjoambhmlnbaaGreatDoorBd05
import Derived.Test.YtnkjoambhmlnbaaGreatDoorBd03
import Derived.ProofKit
import Derived.OpenShut
import Derived.ChangeOld
import Derived.Deep.DeepHandedRow
import Derived.Lib.LaidTab
namespace Go.Proofs.YtnkjoambhmlnbaaGreatDoor.Law01
open Go Go.ChangeShapes Go.WideShapes Go.ChangeAt Go.RowKit Go.Proofs.YtnkjoambhmlnbaaGreatDoor.Aid Go.Proofs.YtnkjoambhmlnbaaGreatDoor.Sha

theorem own : ownKnob Tryz.prog.godebug = none := by kernel_rfl
theorem laidOut : laidOutB Tryz.prog = true := by kernel_rfl
def startInts : List Int := [1779033703, 3144134277, 1013904242, 2773480762, 1359893119, 2600822924, 528734635, 1541459225]
def constInts : List Int := kList.map fun x => (x.toNat : Int)
theorem gS : Tryz.prog.globalNamed "bartizan/sha.start" = some 2 := by kernel_rfl
theorem gST : (Tryz.prog.globals[2]?).map (·.type) = some 139 := by kernel_rfl
theorem gK : Tryz.prog.globalNamed "bartizan/sha.constants" = some 3 := by kernel_rfl
theorem gKT : (Tryz.prog.globals[3]?).map (·.type) = some 149 := by kernel_rfl
theorem laid_tail {P : Program} {x : String × DataW Unit} {l : List (String × DataW Unit)} {W : World} (h : laidMet P (x :: l) W) : laidMet P l W := by
  obtain ⟨ps, ⟨g, t, cs, fuel, p, q, _, _, _, _, hr, rfl⟩, hn, hc⟩ := h
  exact ⟨q, hr, (List.nodup_append.1 hn).2.1, fun b off hb => hc b off (List.mem_append_right _ hb)⟩
theorem consts_of_any {W : World} {rest : List (String × DataW Unit)} (h : laidMet Tryz.prog (("bartizan/sha.start", Rows.laid_bartizan_sha_start) :: ("bartizan/sha.constants", Rows.laid_bartizan_sha_constants) :: rest) W) : Consts W := by
  have hs : Lib.TabIs Tryz.prog W "bartizan/sha.start" .u32 startInts :=
    Lib.tabIs_of_head gS gST Tryz.underlying139 Tryz.underlying138 (by kernel_rfl) (by kernel_rfl) h
  have hk : Lib.TabIs Tryz.prog W "bartizan/sha.constants" .u32 constInts :=
    Lib.tabIs_of_head gK gKT Tryz.underlying149 Tryz.underlying138 (by kernel_rfl) (by kernel_rfl) (laid_tail h)
  refine ⟨fun i hi => ?_, fun i hi => ?_⟩
  · rw [hk.cell gK i (by simpa [constInts, kList] using hi)]
    have : constInts.getD i 0 = ((kOf i).toNat : Int) := by
      unfold constInts kOf
      have hl : i < kList.length := by simpa [kList] using hi
      simp [hl]
    rw [this]
  · rw [hs.cell gS i (by simpa [startInts] using hi)]
    match i, hi with
    | 0, _ => rfl
    | 1, _ => rfl
    | 2, _ => rfl
    | 3, _ => rfl
    | 4, _ => rfl
    | 5, _ => rfl
    | 6, _ => rfl
    | 7, _ => rfl
theorem consts_of {W : World} (h : laidMet Tryz.prog [("bartizan/sha.start", Rows.laid_bartizan_sha_start), ("bartizan/sha.constants", Rows.laid_bartizan_sha_constants)] W) : Consts W := consts_of_any h
def putCells (cs : Array Value) : Obj → Obj
  | .cells _ t frozen => .cells cs t frozen
  | o => o
/-- A world for the witness: the settled one, the two tables holding what their initialisers lay. -/
noncomputable def laidWorld (os : Os) : World :=
  { World.holding Tryz.prog os ⟨#[], #[], []⟩ with heap := ((World.holding Tryz.prog os ⟨#[], #[], []⟩).heap.modify 2 (putCells (startInts.map fun z => Value.int .u32 z).toArray)).modify 3 (putCells (constInts.map fun z => Value.int .u32 z).toArray) }
end Go.Proofs.YtnkjoambhmlnbaaGreatDoor.Law01
