/-
  DERIVED. GIVEN WITH THE SEED: THE CARDS: each row of YtpnkcacmmjmehaaDoorRows.lean that lists a variable, with what it lists TIED to the program's text (the seventh form; the later family's looks); each row that meets fmt, with fmt's text TOLD by the authors' own Lean function (tested against real Go, not proved from fmt's source: count such statements apart). THE CARD IS WHAT COUNTS. Prove the row's statement (the work); the ties are given (YtpnkcacmmjmehaaDoorTie.lean); close each card by the builder's one call (the guide's Derived/Test/ToyasCard.lean, 'card_holds'). Laid BY PROGRAM, IN A SANDBOX (cutbox-door.mjs). By AI agents, Wed Nov 11 2026. No macro, syntax, notation, axiom, sorry.
-/
import Derived.Test.YtpnkcacmmjmehaaDoorRows
import GoSem.ClaimSeven
namespace Go.Proofs.YtpnkcacmmjmehaaDoor
namespace Rows

/-- THE TIED CARD OF 'bartizanlaw14.JournalSure'. -/
def journalSureCard : Claim7 := { stood := { row := journalSureRow, standIns := [], harness := (true, "ddeaf359995b1f68241e2e21bafe2eb24f9b2c09b66bf8f4c68712e05bb2308b"), looks := false }, kinds := [], alts := [], laidByText := true, laidKinds := [.data, .data], laidTests := true, laidLooks := .later }
def JournalSureCardSaid : Prop := Claim7.holds Tryd.pinned (.plain (OpenSpec.ofChange journalSureSpec)) journalSureCard

/-- THE SECOND FORM's CARD OF 'bartizanlaw14.JournalSure'. -/
def journalSureUptoCard : Claim7 := { stood := { row := journalSureUptoRow, standIns := [], harness := (true, "ddeaf359995b1f68241e2e21bafe2eb24f9b2c09b66bf8f4c68712e05bb2308b"), looks := false }, kinds := [], alts := [], laidByText := true, laidKinds := [.data, .data], laidTests := true, laidLooks := .later }
def JournalSureUptoCardSaid : Prop := Claim7.holds Tryd.pinned (.plain (OpenSpec.upto journalSureSpec)) journalSureUptoCard
end Rows
end Go.Proofs.YtpnkcacmmjmehaaDoor
