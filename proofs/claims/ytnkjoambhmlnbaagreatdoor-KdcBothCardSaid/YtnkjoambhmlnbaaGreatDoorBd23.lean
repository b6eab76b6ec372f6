/-
  What a row lists that names the two tables of package sha and the letters of package note.
-/
import Derived.Test.YtnkjoambhmlnbaaGreatDoorBd06
import Derived.Test.YtnkjoambhmlnbaaGreatDoorBd22
namespace Go.Proofs.YtnkjoambhmlnbaaGreatDoor.Laid3
open Go Go.ChangeShapes Go.WideShapes Go.ChangeAt Go.RowKit Go.Proofs.YtnkjoambhmlnbaaGreatDoor.Aid Go.Proofs.YtnkjoambhmlnbaaGreatDoor.Sha Go.Proofs.YtnkjoambhmlnbaaGreatDoor.Note

theorem consts_of {W : World} (h : laidMet Tryz.prog [("bartizan/sha.start", Rows.laid_bartizan_sha_start), ("bartizan/sha.constants", Rows.laid_bartizan_sha_constants), ("bartizan/note.fieldsOf", Rows.laid_bartizan_note_fieldsOf)] W) : Consts W := Law01.consts_of_any h
theorem table_of {W : World} (h : laidMet Tryz.prog [("bartizan/sha.start", Rows.laid_bartizan_sha_start), ("bartizan/sha.constants", Rows.laid_bartizan_sha_constants), ("bartizan/note.fieldsOf", Rows.laid_bartizan_note_fieldsOf)] W) : Table10 W := Law10.table_of (Law01.laid_tail (Law01.laid_tail h))
/-- A world for the witness: the settled one, the three tables holding what their initialisers lay. -/
noncomputable def laidWorld (os : Os) : World :=
  { Law01.laidWorld os with heap := (Law01.laidWorld os).heap.modify 0 (Law10.putCells (Law10.bytesT.map fun l => Value.string ⟨l.toArray⟩).toArray) }
end Go.Proofs.YtnkjoambhmlnbaaGreatDoor.Laid3
