/-
  Operations and letters as a law's arguments: four cells each, and three.
-/
import Derived.Test.YtefghgoeppfpfaaNetPlain
import Derived.Test.YtefghgoeppfpfaaOwn
namespace Go.Proofs.Ytefghgoeppfpfaa.Net
open Go Go.RowKit Go.Proofs.Ytefghgoeppfpfaa.Aid Go.Proofs.Ytefghgoeppfpfaa.Cache

/-- A slice of n elements of s cells each. -/
def RowsAt (W : World) (s n : Nat) (V : Nat → List Value) (v : Value) : Prop :=
  ∃ (A : Option Addr) (c : Nat), v = .slice A n c ∧ (1 ≤ n → ∃ b o, A = some ⟨b, o, none⟩ ∧ b < W.heap.size ∧ ∀ i, i < n → ∀ j u, (V i)[j]? = some u → W.cell? ⟨b, o + i * s + j, none⟩ = some u)
structure OpN where
  d : Int
  x : Lt
  bv : Value
def OpN.vals (p : OpN) : List Value := [.int .i64 p.d, .string p.x.f, .string p.x.t, p.bv]
def OpN.lets (p : OpN) : List Value := [.string p.x.f, .string p.x.t, p.bv]
/-- What is sure of a letter that came in. -/
structure LtIn (W : World) (p : OpN) : Prop where
  read : SliceOf W W.heap.size p.x.n p.x.e p.bv
  n : p.x.n ≤ 140737488351232
  f : p.x.f.size ≤ 200000000000000
  t : p.x.t.size ≤ 200000000000000
structure OpsIn (W : World) (n : Nat) (X : Nat → OpN) (v : Value) : Prop where
  rows : RowsAt W 4 n (fun i => (X i).vals) v
  lt : ∀ i, i < n → LtIn W (X i)
structure LetsIn (W : World) (n : Nat) (X : Nat → OpN) (v : Value) : Prop where
  rows : RowsAt W 3 n (fun i => (X i).lets) v
  lt : ∀ i, i < n → LtIn W (X i)
theorem LtIn.shape {W : World} {p : OpN} (h : LtIn W p) : ∃ A c, p.bv = .slice A p.x.n c := by obtain ⟨A, c, hv, _⟩ := h.read; exact ⟨A, c, hv⟩
end Go.Proofs.Ytefghgoeppfpfaa.Net
