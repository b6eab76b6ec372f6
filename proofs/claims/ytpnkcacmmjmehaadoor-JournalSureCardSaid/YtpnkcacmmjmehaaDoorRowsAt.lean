/-
  A slice of elements of several cells each.
-/
import Derived.Test.YtpnkcacmmjmehaaDoorAid
namespace Go.Proofs.YtpnkcacmmjmehaaDoor.Aid
open Go Go.RowKit

/-- A slice of n elements of s cells each. -/
def RowsAt (W : World) (s n : Nat) (V : Nat → List Value) (v : Value) : Prop :=
  ∃ (A : Option Addr) (c : Nat), v = .slice A n c ∧ (1 ≤ n → ∃ b o, A = some ⟨b, o, none⟩ ∧ b < W.heap.size ∧ ∀ i, i < n → ∀ j u, (V i)[j]? = some u → W.cell? ⟨b, o + i * s + j, none⟩ = some u)
end Go.Proofs.YtpnkcacmmjmehaaDoor.Aid
