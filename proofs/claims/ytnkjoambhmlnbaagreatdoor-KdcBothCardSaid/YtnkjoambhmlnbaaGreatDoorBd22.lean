/-
  What the rows of layer 10 list: the letters of each kind; a world for the witness.
-/
import Derived.Test.YtnkjoambhmlnbaaGreatDoorCards
import Derived.Test.YtnkjoambhmlnbaaGreatDoorTie
import Derived.Test.YtnkjoambhmlnbaaGreatDoorBd21
import Derived.ProofKit
import Derived.OpenShut
import Derived.ChangeOld
import Derived.Deep.DeepHandedRow
import Derived.Lib.LaidTab
namespace Go.Proofs.YtnkjoambhmlnbaaGreatDoor.Law10
open Go Go.ChangeShapes Go.WideShapes Go.ChangeAt Go.RowKit Go.Proofs.YtnkjoambhmlnbaaGreatDoor.Aid Go.Proofs.YtnkjoambhmlnbaaGreatDoor.Note

theorem own : ownKnob Tryz.prog.godebug = none := by kernel_rfl
theorem laidOut : laidOutB Tryz.prog = true := by kernel_rfl
/-- An array of texts that reads as the table holds the table's texts. -/
theorem strs_of_tab {H : Type} {enc : TypeId × Value → H} {P : Program} {w : World} {base : Nat} {sp : Nat → Bool} {held : Bool} {fuel : Nat} {t e : TypeId} {n : Nat} {cs : List Value} {ls : List (List UInt8)} {p : List MemPlace}
    (ht : P.underlying t = some (.array n e)) (he : P.underlying e = some .string) (hce : P.cellsOf e = 1) (hct : P.cellsOf t = n)
    (h : DataW.trod enc P w base sp held fuel t cs = some (.agg (ls.map fun l => .lit (.string l)), p)) : cs = ls.map fun l => Value.string ⟨l.toArray⟩ := by
  cases fuel with
  | zero => simp [DataW.trod] at h
  | succ fuel =>
    simp only [DataW.trod, ht, hce, hct, Nat.mul_one] at h
    split at h
    · rename_i hl
      obtain ⟨xs, hm, hx⟩ := Option.map_eq_some_iff.1 h
      have hxs : xs.map (·.1) = ls.map fun l => (DataW.lit (.string l) : DataW H) := by
        have := congrArg Prod.fst hx
        simpa using this
      have hxl : xs.length = n := by simpa using Lib.mapM_length hm
      have hzl : ls.length = n := by
        have := congrArg List.length hxs
        simp at this
        omega
      apply List.ext_getElem?
      intro i
      by_cases hi : i < n
      · obtain ⟨b, hb, hf⟩ := Lib.mapM_at hm i i (by simp [hi])
        obtain ⟨s, hc, rfl, _⟩ := DataW.trod_string he hf
        have h1 : cs[i]? = some (.string s) := by
          have := congrArg (·[0]?) hc
          simpa [List.getElem?_take, List.getElem?_drop] using this
        have h2 : (xs.map (·.1))[i]? = some (DataW.lit (.string s.data.toList) : DataW H) := by simp [hb]
        rw [hxs] at h2
        simp only [List.getElem?_map, Option.map_eq_some_iff, DataW.lit.injEq, Lit.string.injEq] at h2
        obtain ⟨l, hl', hl''⟩ := h2
        rw [h1]
        simp [hl', hl'']
      · rw [List.getElem?_eq_none (by omega), List.getElem?_eq_none (by simp; omega)]
    · cases h
def bytesT : List (List UInt8) := table.map fun l => l.map UInt8.ofNat
theorem laid_eq {H : Type} : (Rows.laid_bartizan_note_fieldsOf : DataW H) = .agg (bytesT.map fun l => .lit (.string l)) := rfl
theorem gF : Tryz.prog.globalNamed "bartizan/note.fieldsOf" = some 0 := by kernel_rfl
theorem gFT : (Tryz.prog.globals[0]?).map (·.type) = some 62 := by kernel_rfl
theorem table_of {W : World} (h : laidMet Tryz.prog [("bartizan/note.fieldsOf", Rows.laid_bartizan_note_fieldsOf)] W) : Table10 W := by
  obtain ⟨ps, ⟨g', t', cs, fuel, p, q, hg', ht', hvar, hd, _, _⟩, _⟩ := h
  obtain rfl := Option.some.inj (gF.symm.trans hg')
  obtain rfl := Option.some.inj (gFT.symm.trans ht')
  rw [laid_eq] at hd
  have hcs := strs_of_tab Tryz.underlying62 Tryz.underlying9 (by kernel_rfl) (by kernel_rfl) hd
  refine ⟨fun i hi => ?_⟩
  have hl : i < table.length := hi
  rw [World.var?_cell gF hvar i, ← Array.getElem?_toList, hcs]
  unfold bytesT
  simp only [List.getElem?_map, List.getElem?_eq_getElem hl, Option.map_some, List.getD_eq_getElem?_getD, Option.getD_some]
  rfl
def putCells (cs : Array Value) : Obj → Obj
  | .cells _ t frozen => .cells cs t frozen
  | o => o
/-- A world for the witness: the settled one, the table holding what its initialiser lays. -/
noncomputable def laidWorld (os : Os) : World :=
  { World.holding Tryz.prog os ⟨#[], #[], []⟩ with heap := (World.holding Tryz.prog os ⟨#[], #[], []⟩).heap.modify 0 (putCells (bytesT.map fun l => Value.string ⟨l.toArray⟩).toArray) }
end Go.Proofs.YtnkjoambhmlnbaaGreatDoor.Law10
