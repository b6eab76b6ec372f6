/-
  DERIVED. GIVEN WITH THE SEED: THE CARDS: each row of YtaakhldhmoaplaaDoorRows.lean that lists a variable, with what it lists TIED to the program's text (the seventh form; the later family's looks); each row that meets fmt, with fmt's text TOLD by the authors' own Lean function (tested against real Go, not proved from fmt's source: count such statements apart). THE CARD IS WHAT COUNTS. Prove the row's statement (the work); the ties are given (YtaakhldhmoaplaaDoorTie.lean); close each card by the builder's one call (the guide's Derived/Test/ToyasCard.lean, 'card_holds'). Laid BY PROGRAM, IN A SANDBOX (cutbox-door.mjs). By AI agents, Wed Nov 11 2026. No macro, syntax, notation, axiom, sorry.
-/
import Derived.Test.YtaakhldhmoaplaaDoorRows
import GoSem.ClaimSeven
namespace Go.Proofs.YtaakhldhmoaplaaDoor
namespace Rows

/-- THE TIED CARD OF 'bartizanlaw16.KdcAnswers'. -/
def kdcAnswersCard : Claim7 := { stood := { row := kdcAnswersRow, standIns := [], harness := (true, "1df7c6117b2b82b88a99bbe53d1dd47f694d1f7d495d2b8a9e2332ef84f050c6"), looks := false }, kinds := [], alts := [], laidByText := true, laidKinds := [.data, .data], laidTests := true, laidLooks := .later }
def KdcAnswersCardSaid : Prop := Claim7.holds Tryd.pinned (.plain (OpenSpec.ofChange kdcAnswersSpec)) kdcAnswersCard

/-- THE TIED CARD OF 'bartizanlaw16.KdcSeals'. -/
def kdcSealsCard : Claim7 := { stood := { row := kdcSealsRow, standIns := [], harness := (true, "1df7c6117b2b82b88a99bbe53d1dd47f694d1f7d495d2b8a9e2332ef84f050c6"), looks := false }, kinds := [], alts := [], laidByText := true, laidKinds := [.data, .data], laidTests := true, laidLooks := .later }
def KdcSealsCardSaid : Prop := Claim7.holds Tryd.pinned (.plain (OpenSpec.ofChange kdcSealsSpec)) kdcSealsCard

/-- THE SECOND FORM's CARD OF 'bartizanlaw16.KdcAnswers'. -/
def kdcAnswersUptoCard : Claim7 := { stood := { row := kdcAnswersUptoRow, standIns := [], harness := (true, "1df7c6117b2b82b88a99bbe53d1dd47f694d1f7d495d2b8a9e2332ef84f050c6"), looks := false }, kinds := [], alts := [], laidByText := true, laidKinds := [.data, .data], laidTests := true, laidLooks := .later }
def KdcAnswersUptoCardSaid : Prop := Claim7.holds Tryd.pinned (.plain (OpenSpec.upto kdcAnswersSpec)) kdcAnswersUptoCard

/-- THE SECOND FORM's CARD OF 'bartizanlaw16.KdcSeals'. -/
def kdcSealsUptoCard : Claim7 := { stood := { row := kdcSealsUptoRow, standIns := [], harness := (true, "1df7c6117b2b82b88a99bbe53d1dd47f694d1f7d495d2b8a9e2332ef84f050c6"), looks := false }, kinds := [], alts := [], laidByText := true, laidKinds := [.data, .data], laidTests := true, laidLooks := .later }
def KdcSealsUptoCardSaid : Prop := Claim7.holds Tryd.pinned (.plain (OpenSpec.upto kdcSealsSpec)) kdcSealsUptoCard
end Rows
end Go.Proofs.YtaakhldhmoaplaaDoor
