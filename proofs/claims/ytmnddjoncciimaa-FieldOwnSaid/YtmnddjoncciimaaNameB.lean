/-
  What a name is, as a function.
-/
import Derived.Test.YtmnddjoncciimaaAid
namespace Go.Proofs.Ytmnddjoncciimaa.Field
open Go Go.RowKit

/-- May a byte stand in a name? -/
def charB (x : Nat) : Bool := decide (97 ≤ x ∧ x ≤ 122) || decide (48 ≤ x ∧ x ≤ 57)
def nameB (s : ByteArray) : Bool := decide (1 ≤ s.size ∧ s.size ≤ 20 ∧ ∀ j, (h : j < s.size) → charB s[j].toNat = true)
end Go.Proofs.Ytmnddjoncciimaa.Field
