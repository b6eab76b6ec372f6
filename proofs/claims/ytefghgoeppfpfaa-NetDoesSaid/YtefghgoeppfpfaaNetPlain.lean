/-
  Letters, and a net as a list of them, the first one first.
-/
import Derived.Test.YtefghgoeppfpfaaBytes
import Derived.Test.YtefghgoeppfpfaaLeaves
import Derived.Deep.Draws
namespace Go.Proofs.Ytefghgoeppfpfaa.Net
open Go Go.RowKit Go.Proofs.Ytefghgoeppfpfaa.Aid Go.Proofs.Ytefghgoeppfpfaa.Cache

structure Lt where
  f : ByteArray
  t : ByteArray
  n : Nat
  e : Nat → BitVec 8
  hf : f.size ≤ 200000000000000
  ht : t.size ≤ 200000000000000
theorem none_small : (⟨#[]⟩ : ByteArray).size ≤ 200000000000000 := Nat.zero_le _
def zeroL : Lt := ⟨ByteArray.empty, ByteArray.empty, 0, fun _ => 0, Nat.zero_le _, Nat.zero_le _⟩
/-- A letter's value, its bytes as bv. -/
def ltV (x : Lt) (bv : Value) : Value := .agg #[.string x.f, .string x.t, bv]
def sendL (room : Nat) (l : List Lt) (x : Lt) : List Lt := if l.length < room then l ++ [x] else l
def sendC (room : Nat) (l : List Lt) : Int := if l.length < room then 0 else 7
def laterL : List Lt → List Lt
  | [] => []
  | x :: t => t ++ [x]
def twiceL (room : Nat) (l : List Lt) : List Lt := if l.length = 0 then l else sendL room l (l.headD zeroL)
def twiceC (room : Nat) (l : List Lt) : Int := if l.length = 0 then 4 else sendC room l
theorem laterL_len (l : List Lt) : (laterL l).length = l.length := by
  cases l with
  | nil => rfl
  | cons x t => unfold laterL; simp
theorem sendL_len (room : Nat) (l : List Lt) (x : Lt) : (sendL room l x).length ≤ l.length + 1 := by
  unfold sendL
  split <;> simp
/-- No block that is not there holds bytes. -/
theorem slice_here {w : World} {g m : Nat} {e : Nat → BitVec 8} {v : Value} (h : SliceOf w g m e v) : SliceOf w w.heap.size m e v := by
  obtain ⟨A, c, rfl, hc, hr⟩ := h
  refine ⟨A, c, rfl, hc, fun hm => ?_⟩
  obtain ⟨sb, so, rfl, _, hj⟩ := hr hm
  exact ⟨sb, so, rfl, Nat.ne_of_lt (block_lt_of_cell (hj 0 hm)), hj⟩
theorem drewN_below0 {B : Nat} {w W : World} (h : Below B w W) : ∀ q, Below B w (W.drewN q)
  | 0 => h
  | q + 1 => (drewN_below0 h q).drew
end Go.Proofs.Ytefghgoeppfpfaa.Net
