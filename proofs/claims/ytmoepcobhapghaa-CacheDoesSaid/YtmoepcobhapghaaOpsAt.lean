/-
  A slice of operations as a law's argument: three cells each.
-/
import Derived.Test.YtmoepcobhapghaaAid
namespace Go.Proofs.Ytmoepcobhapghaa.Cache
open Go Go.RowKit Go.Proofs.Ytmoepcobhapghaa.Aid

structure OpV where
  d : Int
  k : Int
  s : ByteArray
def OpV.vals (x : OpV) : List Value := [.int .i64 x.d, .int .i64 x.k, .string x.s]
/-- The slice v holds n operations, X's; they lie below block B. -/
def OpsAt (W : World) (B n : Nat) (X : Nat → OpV) (v : Value) : Prop :=
  (∀ i, i < n → -9223372036854775808 ≤ (X i).k ∧ (X i).k ≤ 9223372036854775807) ∧ ∃ (A : Option Addr) (c : Nat), v = .slice A n c ∧ (1 ≤ n → ∃ b o, A = some ⟨b, o, none⟩ ∧ b < B ∧ ∀ i, i < n → ∀ j u, (X i).vals[j]? = some u → W.cell? ⟨b, o + i * 3 + j, none⟩ = some u)
end Go.Proofs.Ytmoepcobhapghaa.Cache
