/-
  DERIVED. GIVEN WITH THE SEED: THE PROGRAM's TIES (one call each: nine closed facts by the kernel) AND EACH ROW's TIE, after the 31st guide's Derived/Test/Toyas{Tie, Card}.lean. No idea stands in it: it is a product of the set-up. Laid BY PROGRAM, IN A SANDBOX (cutbox-door.mjs). By AI agents, Wed Nov 11 2026. No macro, syntax, notation, axiom, sorry.
-/
import Derived.Test.YtnkjoambhmlnbaaGreatDoorRows
import Derived.LaidByTextLater
import Derived.SevenTiedAt
import Derived.LaidSub
import Derived.LaidOnce
namespace Go.Proofs.YtnkjoambhmlnbaaGreatDoor
open Go
set_option maxRecDepth 100000
theorem seatTie1 : Tryz.prog.laidByTextLater [("bartizan/sha.start", Rows.laid_bartizan_sha_start), ("bartizan/sha.constants", Rows.laid_bartizan_sha_constants), ("bartizan/note.fieldsOf", Rows.laid_bartizan_note_fieldsOf)] [.data, .data, .data] true :=
  Program.laidByTextLater_by_one 24 8 65 (by kernel_rfl) (by kernel_rfl) (by kernel_rfl) (by kernel_rfl) (by kernel_rfl) (by kernel_rfl) (fun _ _ => by kernel_rfl)
theorem noOwnUnsafe : Tryz.pinned.checked.prog.headLifts.contains "ownunsafe" = false := by kernel_rfl
theorem tie : Tryz.prog.laidByTextLater [("bartizan/sha.start", Rows.laid_bartizan_sha_start), ("bartizan/sha.constants", Rows.laid_bartizan_sha_constants), ("bartizan/note.fieldsOf", Rows.laid_bartizan_note_fieldsOf)] [.data, .data, .data] true :=
  Program.laidByTextLater.sub seatTie1 ["bartizan/sha.start", "bartizan/sha.constants", "bartizan/note.fieldsOf"] (by kernel_rfl) (by kernel_rfl)
theorem kdcBoth_row_tie : Rows.kdcBothRow.laidByTextAt .later Tryz.pinned [.data, .data, .data] true :=
  OpenClaim.laidByTextAt_later rfl rfl tie noOwnUnsafe
theorem kdcBothUpto_row_tie : Rows.kdcBothUptoRow.laidByTextAt .later Tryz.pinned [.data, .data, .data] true :=
  OpenClaim.laidByTextAt_later rfl rfl tie noOwnUnsafe
end Go.Proofs.YtnkjoambhmlnbaaGreatDoor
