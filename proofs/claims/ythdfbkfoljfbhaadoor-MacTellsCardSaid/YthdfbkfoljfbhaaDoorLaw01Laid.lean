/-
  What the rows of layer 1 list: the two tables of package sha; a slice of bytes as an argument; a world for the witness.
-/
import Derived.Test.YthdfbkfoljfbhaaDoorCards
import Derived.Test.YthdfbkfoljfbhaaDoorTie
import Derived.Test.YthdfbkfoljfbhaaDoorShaMix
import Derived.Test.YthdfbkfoljfbhaaDoorBytes
import Derived.ProofKit
import Derived.OpenShut
import Derived.ChangeOld
import Derived.Deep.DeepHandedRow
import Derived.Lib.LaidTab
namespace Go.Proofs.YthdfbkfoljfbhaaDoor.Law01
open Go Go.ChangeShapes Go.WideShapes Go.ChangeAt Go.RowKit Go.Proofs.YthdfbkfoljfbhaaDoor.Aid Go.Proofs.YthdfbkfoljfbhaaDoor.Sha

theorem own : ownKnob Tryd.prog.godebug = none := by kernel_rfl
theorem laidOut : laidOutB Tryd.prog = true := by kernel_rfl
def startInts : List Int := [1779033703, 3144134277, 1013904242, 2773480762, 1359893119, 2600822924, 528734635, 1541459225]
def constInts : List Int := kList.map fun x => (x.toNat : Int)
theorem gS : Tryd.prog.globalNamed "bartizan/sha.start" = some 0 := by kernel_rfl
theorem gST : (Tryd.prog.globals[0]?).map (·.type) = some 47 := by kernel_rfl
theorem gK : Tryd.prog.globalNamed "bartizan/sha.constants" = some 1 := by kernel_rfl
theorem gKT : (Tryd.prog.globals[1]?).map (·.type) = some 65 := by kernel_rfl
theorem laid_tail {P : Program} {x : String × DataW Unit} {l : List (String × DataW Unit)} {W : World} (h : laidMet P (x :: l) W) : laidMet P l W := by
  obtain ⟨ps, ⟨g, t, cs, fuel, p, q, _, _, _, _, hr, rfl⟩, hn, hc⟩ := h
  exact ⟨q, hr, (List.nodup_append.1 hn).2.1, fun b off hb => hc b off (List.mem_append_right _ hb)⟩
theorem consts_of {W : World} (h : laidMet Tryd.prog [("bartizan/sha.start", Rows.laid_bartizan_sha_start), ("bartizan/sha.constants", Rows.laid_bartizan_sha_constants)] W) : Consts W := by
  have hs : Lib.TabIs Tryd.prog W "bartizan/sha.start" .u32 startInts :=
    Lib.tabIs_of_head gS gST Tryd.underlying47 Tryd.underlying46 (by kernel_rfl) (by kernel_rfl) h
  have hk : Lib.TabIs Tryd.prog W "bartizan/sha.constants" .u32 constInts :=
    Lib.tabIs_of_head gK gKT Tryd.underlying65 Tryd.underlying46 (by kernel_rfl) (by kernel_rfl) (laid_tail h)
  refine ⟨fun i hi => ?_, fun i hi => ?_⟩
  · rw [hk.cell gK i (by simpa [constInts, kList] using hi)]
    have : constInts.getD i 0 = ((kOf i).toNat : Int) := by
      unfold constInts kOf
      have hl : i < kList.length := by simpa [kList] using hi
      simp [hl]
    rw [this]
  · rw [hs.cell gS i (by simpa [startInts] using hi)]
    match i, hi with
    | 0, _ => rfl
    | 1, _ => rfl
    | 2, _ => rfl
    | 3, _ => rfl
    | 4, _ => rfl
    | 5, _ => rfl
    | 6, _ => rfl
    | 7, _ => rfl
/-- A slice of bytes that came in, as the walks take it. -/
theorem slice_in {H : Type} {enc : TypeId × Value → H} {W : World} {a : Option Addr} {len cap : Nat} {d : DataW H} {p : List MemPlace}
    (h : DataW.Trod enc Tryd.prog W 0 (fun _ => true) true 22 (.slice a len cap) d p) : ∃ e, SliceOf W W.heap.size len e (.slice a len cap) := by
  obtain ⟨fuel, hf⟩ := h
  rcases open_ints Tryd.underlying22 Tryd.underlying5 (by kernel_rfl) hf with ⟨hcs, _⟩ | ⟨x, l, c, zs, hcs, _, hl, _, hz, _, hcell, hwz⟩
  · simp [Value.cells] at hcs
    obtain ⟨rfl, rfl, rfl⟩ := hcs
    exact ⟨fun _ => 0, SliceOf.nil _ _ _⟩
  · simp [Value.cells] at hcs
    obtain ⟨rfl, rfl, rfl⟩ := hcs
    have hz' : zs.length = cap := by simpa using hz
    refine ⟨fun i => BitVec.ofInt 8 (zs.getD i 0), some x, cap, rfl, hl, fun hm => ?_⟩
    have h0 := hcell 0 (by omega)
    obtain ⟨b, o, sp⟩ := x
    have hsp : sp = none := by
      cases sp with
      | none => rfl
      | some y =>
        simp [Addr.add, World.cell?] at h0
        split at h0 <;> cases h0
    subst hsp
    refine ⟨b, o, rfl, ?_, fun j hj => ?_⟩
    · have := block_lt_of_cell h0
      simp [Addr.add] at this
      omega
    · have hc := hcell j (by omega)
      rw [Addr.add_mid] at hc
      rw [hc]
      have hmem : zs.getD j 0 ∈ zs := by
        rw [List.getD_eq_getElem?_getD, List.getElem?_eq_getElem (by omega), Option.getD_some]
        exact List.getElem_mem _
      have hb := bounds_u8 (hwz _ hmem)
      have : zs.getD j 0 = ((BitVec.ofInt 8 (zs.getD j 0)).toNat : Int) := by
        rw [BitVec.toNat_ofInt]
        omega
      rw [← this]
def putCells (cs : Array Value) : Obj → Obj
  | .cells _ t frozen => .cells cs t frozen
  | o => o
/-- A world for the witness: the settled one, the two tables holding what their initialisers lay. -/
noncomputable def laidWorld (os : Os) : World :=
  { World.holding Tryd.prog os ⟨#[], #[], []⟩ with heap := ((World.holding Tryd.prog os ⟨#[], #[], []⟩).heap.modify 0 (putCells (startInts.map fun z => Value.int .u32 z).toArray)).modify 1 (putCells (constInts.map fun z => Value.int .u32 z).toArray) }
end Go.Proofs.YthdfbkfoljfbhaaDoor.Law01
