/-
  A key's place in a list of keys; a list of values that lies anywhere.
-/
import Derived.Test.YtnkjoambhmlnbaaGreatDoorBd01
namespace Go.Proofs.YtnkjoambhmlnbaaGreatDoor.Cache
open Go Go.RowKit Go.Proofs.YtnkjoambhmlnbaaGreatDoor.Aid

/-- A slice of values that lies anywhere. -/
def ListAt (W : World) (v : Value) (n : Nat) (f : Nat → Value) : Prop :=
  ∃ A c, v = .slice A n c ∧ n ≤ c ∧ (0 < n → ∃ g o, A = some ⟨g, o, none⟩ ∧ ∀ i, i < n → W.cell? ⟨g, o + i, none⟩ = some (f i))
theorem ListAt.below {W W' : World} {v : Value} {n : Nat} {f : Nat → Value} (h : ListAt W v n f) (hb : Below W.heap.size W W') : ListAt W' v n f := by
  obtain ⟨A, c, rfl, hc, hr⟩ := h
  refine ⟨A, c, rfl, hc, fun h0 => ?_⟩
  obtain ⟨g, o, rfl, hi⟩ := hr h0
  exact ⟨g, o, rfl, fun i hin => (hb.cell (p := ⟨g, o + i, none⟩) (block_lt_of_cell (hi i hin))).trans (hi i hin)⟩
theorem list_eq (k y : ByteArray) : (k.toList == y.toList) = decide (k = y) := by
  rw [ByteArray.toList_eq, ByteArray.toList_eq]
  by_cases h : k = y
  · subst h; simp
  · rw [decide_eq_false h]
    have : k.data.toList ≠ y.data.toList := fun e => h (by
      cases k; cases y
      simpa using e)
    simpa using this
section
variable {α : Type} [DecidableEq α]
/-- A key's place; -1: there is none. -/
def idxK (c : List α) (k : α) : Int := if hasK c k then (atN c k : Int) else -1
theorem idx_none {c : List α} {k : α} (h : ∀ j, (hj : j < c.length) → c[j] ≠ k) : idxK c k = -1 := by
  unfold idxK
  have : hasK c k = false := by
    unfold hasK
    refine decide_eq_false fun hm => ?_
    obtain ⟨j, hj, e2⟩ := List.getElem_of_mem hm
    exact h j hj e2
  rw [this]
  rfl
theorem idx_found {c : List α} {k : α} {i : Nat} (hi : i < c.length) (he : c[i] = k) (h : ∀ j, j < i → (hj : j < c.length) → c[j] ≠ k) : idxK c k = (i : Int) := by
  have hat : atN c k = i := by
    have h1 : ¬ atN c k < i := fun hlt => by
      have := at_key (c := c) (k := k) (by omega)
      rw [List.getElem?_eq_getElem (by omega : atN c k < c.length)] at this
      simp only [Option.some.injEq] at this
      exact h _ hlt (by omega) this
    have h2 : ¬ i < atN c k := fun hlt => at_before hlt (by rw [List.getElem?_eq_getElem hi, he])
    omega
  unfold idxK
  rw [at_has, hat, decide_eq_true hi]
  rfl
end
end Go.Proofs.YtnkjoambhmlnbaaGreatDoor.Cache
