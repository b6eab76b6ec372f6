/-
  Operations on a journal as a law's arguments: three cells each. Records of a law's own making.
-/
import Derived.Test.YtpnkcacmmjmehaaDoorJourHeld
import Derived.Test.YtpnkcacmmjmehaaDoorRowsAt
namespace Go.Proofs.YtpnkcacmmjmehaaDoor.Jour
open Go Go.RowKit Go.Proofs.YtpnkcacmmjmehaaDoor.Aid Go.Proofs.YtpnkcacmmjmehaaDoor.Cache Go.Proofs.YtpnkcacmmjmehaaDoor.Store

structure OpJ where
  d : Int
  k : Int
  x : By
  bv : Value
def OpJ.vals (p : OpJ) : List Value := [.int .i64 p.d, .int .i64 p.k, p.bv]
/-- What is sure of an operation that came in. -/
structure OpJIn (W : World) (p : OpJ) : Prop where
  read : SliceOf W W.heap.size p.x.length (fnL p.x) p.bv
  n : p.x.length ≤ 140737488351232
structure OpsJIn (W : World) (n : Nat) (X : Nat → OpJ) (v : Value) : Prop where
  rows : RowsAt W 3 n (fun i => (X i).vals) v
  lt : ∀ i, i < n → OpJIn W (X i)
theorem OpJIn.shape {W : World} {p : OpJ} (h : OpJIn W p) : ∃ A c, p.bv = .slice A p.x.length c := by obtain ⟨A, c, hv, _⟩ := h.read; exact ⟨A, c, hv⟩
/-- How many bytes the first k operations bear. -/
def sumJ (X : Nat → OpJ) : Nat → Nat
  | 0 => 0
  | k + 1 => sumJ X k + (2 * (X k).x.length + 10)
end Go.Proofs.YtpnkcacmmjmehaaDoor.Jour
