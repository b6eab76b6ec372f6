/-
  DERIVED. GIVEN WITH THE SEED: THE CARDS: each row of YtfjoflpidmjkbaaDoorRows.lean that lists a variable, with what it lists TIED to the program's text (the seventh form; the later family's looks); each row that meets fmt, with fmt's text TOLD by the authors' own Lean function (tested against real Go, not proved from fmt's source: count such statements apart). THE CARD IS WHAT COUNTS. Prove the row's statement (the work); the ties are given (YtfjoflpidmjkbaaDoorTie.lean); close each card by the builder's one call (the guide's Derived/Test/ToyasCard.lean, 'card_holds'). Laid BY PROGRAM, IN A SANDBOX (cutbox-door.mjs). By AI agents, Wed Nov 11 2026. No macro, syntax, notation, axiom, sorry.
-/
import Derived.Test.YtfjoflpidmjkbaaDoorRows
import GoSem.ClaimSeven
namespace Go.Proofs.YtfjoflpidmjkbaaDoor
namespace Rows

/-- THE TIED CARD OF 'bartizanlaw05.SealTells'. -/
def sealTellsCard : Claim7 := { stood := { row := sealTellsRow, standIns := [], harness := (true, "a3c0e591b314ac0322c53fc077f2e04850fde9fe15fb1b00f5ebdbdf22c4d256"), looks := false }, kinds := [], alts := [], laidByText := true, laidKinds := [.data, .data], laidTests := true, laidLooks := .later }
def SealTellsCardSaid : Prop := Claim7.holds Tryd.pinned (.plain (OpenSpec.ofChange sealTellsSpec)) sealTellsCard

/-- THE TIED CARD OF 'bartizanlaw05.SealBack'. -/
def sealBackCard : Claim7 := { stood := { row := sealBackRow, standIns := [], harness := (true, "a3c0e591b314ac0322c53fc077f2e04850fde9fe15fb1b00f5ebdbdf22c4d256"), looks := false }, kinds := [], alts := [], laidByText := true, laidKinds := [.data, .data], laidTests := true, laidLooks := .later }
def SealBackCardSaid : Prop := Claim7.holds Tryd.pinned (.plain (OpenSpec.ofChange sealBackSpec)) sealBackCard

/-- THE TIED CARD OF 'bartizanlaw05.SealOne'. -/
def sealOneCard : Claim7 := { stood := { row := sealOneRow, standIns := [], harness := (true, "a3c0e591b314ac0322c53fc077f2e04850fde9fe15fb1b00f5ebdbdf22c4d256"), looks := false }, kinds := [], alts := [], laidByText := true, laidKinds := [.data, .data], laidTests := true, laidLooks := .later }
def SealOneCardSaid : Prop := Claim7.holds Tryd.pinned (.plain (OpenSpec.ofChange sealOneSpec)) sealOneCard

/-- THE SECOND FORM's CARD OF 'bartizanlaw05.SealTells'. -/
def sealTellsUptoCard : Claim7 := { stood := { row := sealTellsUptoRow, standIns := [], harness := (true, "a3c0e591b314ac0322c53fc077f2e04850fde9fe15fb1b00f5ebdbdf22c4d256"), looks := false }, kinds := [], alts := [], laidByText := true, laidKinds := [.data, .data], laidTests := true, laidLooks := .later }
def SealTellsUptoCardSaid : Prop := Claim7.holds Tryd.pinned (.plain (OpenSpec.upto sealTellsSpec)) sealTellsUptoCard

/-- THE SECOND FORM's CARD OF 'bartizanlaw05.SealBack'. -/
def sealBackUptoCard : Claim7 := { stood := { row := sealBackUptoRow, standIns := [], harness := (true, "a3c0e591b314ac0322c53fc077f2e04850fde9fe15fb1b00f5ebdbdf22c4d256"), looks := false }, kinds := [], alts := [], laidByText := true, laidKinds := [.data, .data], laidTests := true, laidLooks := .later }
def SealBackUptoCardSaid : Prop := Claim7.holds Tryd.pinned (.plain (OpenSpec.upto sealBackSpec)) sealBackUptoCard

/-- THE SECOND FORM's CARD OF 'bartizanlaw05.SealOne'. -/
def sealOneUptoCard : Claim7 := { stood := { row := sealOneUptoRow, standIns := [], harness := (true, "a3c0e591b314ac0322c53fc077f2e04850fde9fe15fb1b00f5ebdbdf22c4d256"), looks := false }, kinds := [], alts := [], laidByText := true, laidKinds := [.data, .data], laidTests := true, laidLooks := .later }
def SealOneUptoCardSaid : Prop := Claim7.holds Tryd.pinned (.plain (OpenSpec.upto sealOneSpec)) sealOneUptoCard
end Rows
end Go.Proofs.YtfjoflpidmjkbaaDoor
