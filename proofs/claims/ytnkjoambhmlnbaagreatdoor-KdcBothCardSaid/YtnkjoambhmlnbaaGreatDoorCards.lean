/-
  DERIVED. GIVEN WITH THE SEED: THE CARDS: each row of YtnkjoambhmlnbaaGreatDoorRows.lean that lists a variable, with what it lists TIED to the program's text (the seventh form; the later family's looks); each row that meets fmt, with fmt's text TOLD by the authors' own Lean function (tested against real Go, not proved from fmt's source: count such statements apart). THE CARD IS WHAT COUNTS. Prove the row's statement (the work); the ties are given (YtnkjoambhmlnbaaGreatDoorTie.lean); close each card by the builder's one call (the guide's Derived/Test/ToyasCard.lean, 'card_holds'). Laid BY PROGRAM, IN A SANDBOX (cutbox-door.mjs). By AI agents, Wed Nov 11 2026. No macro, syntax, notation, axiom, sorry.
-/
import Derived.Test.YtnkjoambhmlnbaaGreatDoorRows
import GoSem.ClaimSeven
namespace Go.Proofs.YtnkjoambhmlnbaaGreatDoor
namespace Rows

/-- THE TIED CARD OF 'bartizanlaw16.KdcBoth'. -/
def kdcBothCard : Claim7 := { stood := { row := kdcBothRow, standIns := [], harness := (true, "aacc8e793405792a37eefd92f300249dc38809b754aa88b0d8a31e1569264b47"), looks := false }, kinds := [], alts := [], laidByText := true, laidKinds := [.data, .data, .data], laidTests := true, laidLooks := .later }
def KdcBothCardSaid : Prop := Claim7.holds Tryz.pinned (.plain (OpenSpec.ofChange kdcBothSpec)) kdcBothCard

/-- THE SECOND FORM's CARD OF 'bartizanlaw16.KdcBoth'. -/
def kdcBothUptoCard : Claim7 := { stood := { row := kdcBothUptoRow, standIns := [], harness := (true, "aacc8e793405792a37eefd92f300249dc38809b754aa88b0d8a31e1569264b47"), looks := false }, kinds := [], alts := [], laidByText := true, laidKinds := [.data, .data, .data], laidTests := true, laidLooks := .later }
def KdcBothUptoCardSaid : Prop := Claim7.holds Tryz.pinned (.plain (OpenSpec.upto kdcBothSpec)) kdcBothUptoCard
end Rows
end Go.Proofs.YtnkjoambhmlnbaaGreatDoor
