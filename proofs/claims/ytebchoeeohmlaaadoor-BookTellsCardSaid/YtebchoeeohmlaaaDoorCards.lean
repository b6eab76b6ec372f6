/-
  DERIVED. GIVEN WITH THE SEED: THE CARDS: each row of YtebchoeeohmlaaaDoorRows.lean that lists a variable, with what it lists TIED to the program's text (the seventh form; the later family's looks); each row that meets fmt, with fmt's text TOLD by the authors' own Lean function (tested against real Go, not proved from fmt's source: count such statements apart). THE CARD IS WHAT COUNTS. Prove the row's statement (the work); the ties are given (YtebchoeeohmlaaaDoorTie.lean); close each card by the builder's one call (the guide's Derived/Test/ToyasCard.lean, 'card_holds'). Laid BY PROGRAM, IN A SANDBOX (cutbox-door.mjs). By AI agents, Wed Nov 11 2026. No macro, syntax, notation, axiom, sorry.
-/
import Derived.Test.YtebchoeeohmlaaaDoorRows
import GoSem.ClaimSeven
namespace Go.Proofs.YtebchoeeohmlaaaDoor
namespace Rows

/-- THE TIED CARD OF 'bartizanlaw15.BookTells'. -/
def bookTellsCard : Claim7 := { stood := { row := bookTellsRow, standIns := [], harness := (true, "3ef8a5ada66a80fcf7375b436a365652abd748dca34a813f446017ec3a0e51dd"), looks := false }, kinds := [], alts := [], laidByText := true, laidKinds := [.data, .data], laidTests := true, laidLooks := .later }
def BookTellsCardSaid : Prop := Claim7.holds Tryd.pinned (.plain (OpenSpec.ofChange bookTellsSpec)) bookTellsCard

/-- THE TIED CARD OF 'bartizanlaw15.BookSure'. -/
def bookSureCard : Claim7 := { stood := { row := bookSureRow, standIns := [], harness := (true, "3ef8a5ada66a80fcf7375b436a365652abd748dca34a813f446017ec3a0e51dd"), looks := false }, kinds := [], alts := [], laidByText := true, laidKinds := [.data, .data], laidTests := true, laidLooks := .later }
def BookSureCardSaid : Prop := Claim7.holds Tryd.pinned (.plain (OpenSpec.ofChange bookSureSpec)) bookSureCard

/-- THE TIED CARD OF 'bartizanlaw15.BookRises'. -/
def bookRisesCard : Claim7 := { stood := { row := bookRisesRow, standIns := [], harness := (true, "3ef8a5ada66a80fcf7375b436a365652abd748dca34a813f446017ec3a0e51dd"), looks := false }, kinds := [], alts := [], laidByText := true, laidKinds := [.data, .data], laidTests := true, laidLooks := .later }
def BookRisesCardSaid : Prop := Claim7.holds Tryd.pinned (.plain (OpenSpec.ofChange bookRisesSpec)) bookRisesCard

/-- THE SECOND FORM's CARD OF 'bartizanlaw15.BookTells'. -/
def bookTellsUptoCard : Claim7 := { stood := { row := bookTellsUptoRow, standIns := [], harness := (true, "3ef8a5ada66a80fcf7375b436a365652abd748dca34a813f446017ec3a0e51dd"), looks := false }, kinds := [], alts := [], laidByText := true, laidKinds := [.data, .data], laidTests := true, laidLooks := .later }
def BookTellsUptoCardSaid : Prop := Claim7.holds Tryd.pinned (.plain (OpenSpec.upto bookTellsSpec)) bookTellsUptoCard

/-- THE SECOND FORM's CARD OF 'bartizanlaw15.BookSure'. -/
def bookSureUptoCard : Claim7 := { stood := { row := bookSureUptoRow, standIns := [], harness := (true, "3ef8a5ada66a80fcf7375b436a365652abd748dca34a813f446017ec3a0e51dd"), looks := false }, kinds := [], alts := [], laidByText := true, laidKinds := [.data, .data], laidTests := true, laidLooks := .later }
def BookSureUptoCardSaid : Prop := Claim7.holds Tryd.pinned (.plain (OpenSpec.upto bookSureSpec)) bookSureUptoCard

/-- THE SECOND FORM's CARD OF 'bartizanlaw15.BookRises'. -/
def bookRisesUptoCard : Claim7 := { stood := { row := bookRisesUptoRow, standIns := [], harness := (true, "3ef8a5ada66a80fcf7375b436a365652abd748dca34a813f446017ec3a0e51dd"), looks := false }, kinds := [], alts := [], laidByText := true, laidKinds := [.data, .data], laidTests := true, laidLooks := .later }
def BookRisesUptoCardSaid : Prop := Claim7.holds Tryd.pinned (.plain (OpenSpec.upto bookRisesSpec)) bookRisesUptoCard
end Rows
end Go.Proofs.YtebchoeeohmlaaaDoor
