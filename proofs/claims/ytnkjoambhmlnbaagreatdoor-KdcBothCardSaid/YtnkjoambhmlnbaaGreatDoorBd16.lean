/-
  Pure facts for RefSplit.
-/
import Derived.Test.YtnkjoambhmlnbaaGreatDoorBd11
import Derived.Test.YtnkjoambhmlnbaaGreatDoorBd13
namespace Go.Proofs.YtnkjoambhmlnbaaGreatDoor.Field
open Go Go.RowKit Go.Proofs.YtnkjoambhmlnbaaGreatDoor.Aid Go.Proofs.YtnkjoambhmlnbaaGreatDoor.Law01
theorem OwnParts.congr {W : World} {base k : Nat} {m : Nat → Nat} {E : Nat → Nat → BitVec 8} {R R' : Nat → Value} {v : Value} (h : OwnParts W base k m E R v) (hR : ∀ i, i < k → R i = R' i) : OwnParts W base k m E R' v := by
  refine ⟨?_, fun i hi => by rw [← hR i hi]; exact h.part i hi, fun i hi => by rw [← hR i hi]; exact h.ne i hi, fun i j hij hj => by rw [← hR i (by omega), ← hR j hj]; exact h.apart i j hij hj⟩
  have : (List.range k).map R' = (List.range k).map R := List.map_congr_left (fun j hj => (hR j (List.mem_range.1 hj)).symm)
  rw [this]
  exact h.row
def addR (R : Nat → Value) (k : Nat) (r : Value) (i : Nat) : Value := if i = k then r else R i
/-- What a walk of Split keeps: k fields were taken. -/
def TakenB (E : Nat → BitVec 8) (n k : Nat) : Prop := sp E k ≤ n ∧ k ≤ 20 ∧ ∀ i, i < k → sp E i < n ∧ stepC E n (sp E i) i = 0
theorem taken_next {E : Nat → BitVec 8} {n k : Nat} (h : TakenB E n k) (h0 : sp E k < n) (h1 : lenAt E (sp E k) ≤ 500) (h2 : k ≠ 20) (h3 : sp E k + 2 + lenAt E (sp E k) ≤ n) : TakenB E n (k + 1) := by
  refine ⟨h3, by have := h.2.1; omega, fun i hi => ?_⟩
  by_cases e : i = k
  · subst e; exact ⟨h0, step_of h1 h2 h3⟩
  · exact h.2.2 i (by omega)
theorem taken_end {E : Nat → BitVec 8} {n k : Nat} (h : TakenB E n k) (h0 : ¬ sp E k < n) : SplitSpec E n k 0 := ⟨h.2.2, .inl ⟨rfl, by omega⟩⟩
theorem taken_err {E : Nat → BitVec 8} {n k : Nat} {c : Int} (h : TakenB E n k) (h0 : sp E k < n) (hc : c ≠ 0) (hs : stepC E n (sp E k) k = c) : SplitSpec E n k c := ⟨h.2.2, .inr ⟨hc, h0, hs⟩⟩
def SplitPost (E : Nat → BitVec 8) (n : Nat) (w : World) (x : Ending) (w' : World) : Prop :=
  ∃ (k : Nat) (c : Int) (v : Value) (R : Nat → Value), SplitSpec E n k c ∧ x = .returned (.tuple #[v, .int .i64 c]) ∧ OwnParts w' w.heap.size (if c = 0 then k else 0) (fieldM E) (fieldE E) R v ∧ Below w.heap.size w w'
end Go.Proofs.YtnkjoambhmlnbaaGreatDoor.Field
