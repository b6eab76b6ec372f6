/-
  Slices of elements of several cells each, as laws' arguments are opened; what is sure of each element.
-/
import Derived.Test.YtebchoeeohmlaaaDoorBd01
import Derived.Test.YtebchoeeohmlaaaDoorBd44
import Derived.Test.YtebchoeeohmlaaaDoorProg
import Derived.Deep.Slices
import Derived.SizedLaws
import Derived.OpenShut
import Derived.ChangeOld
import Derived.Lib.SmallJoins
namespace Go.Proofs.YtebchoeeohmlaaaDoor.Aid
open Go Go.ChangeShapes Go.WideShapes Go.ChangeAt Go.RowKit Go.Deep Go.Proofs.YtebchoeeohmlaaaDoor.Field

section
variable {H : Type} {enc : TypeId × Value → H} {W : World} {α : Type} [Inhabited α] {I : α → Prop}
/-- Rows of s cells each, whatever is sure of each. -/
theorem rows_in {te ts : TypeId} {s : Nat} (hu : Tryd.prog.underlying ts = some (.slice te)) (hC : Tryd.prog.cellsOf te = s) (V : α → List Value) (h0 : ∀ p, ∃ u, (V p)[0]? = some u) (hV : ∀ p, (V p).length = s)
    (hcells : ∀ {fuel : Nat} {cs : List Value} {x : DataW H × List MemPlace}, DataW.trod enc Tryd.prog W 0 (fun _ => true) true fuel te cs = some x → (∀ y ∈ x.1.weights Tryd.prog te, y ≤ reachBytes) → ∃ p : α, cs = V p ∧ I p)
    {a : Option Addr} {len cap : Nat} {d : DataW H} {p : List MemPlace} (h : DataW.Trod enc Tryd.prog W 0 (fun _ => true) true ts (.slice a len cap) d p) (hw : ∀ y ∈ d.weights Tryd.prog ts, y ≤ reachBytes) :
    ∃ X : Nat → α, RowsAt W s len (fun i => V (X i)) (.slice a len cap) ∧ ∀ i, i < len → I (X i) := by
  obtain ⟨fuel, hf⟩ := h
  rcases open_slice hu hf with ⟨hcs, _⟩ | ⟨x, l, c, m, n, D, Pl, hcs, _, hl, _, hm, hx, hi⟩
  · simp [Value.cells] at hcs
    obtain ⟨rfl, rfl, rfl⟩ := hcs
    exact ⟨fun _ => default, ⟨none, 0, rfl, fun h => by omega⟩, fun i hi => by omega⟩
  · simp [Value.cells] at hcs
    obtain ⟨rfl, rfl, rfl⟩ := hcs
    simp only [Prod.mk.injEq] at hx
    have hd := hx.1
    have hwD : ∀ i, i < len → ∀ y ∈ (D i).weights Tryd.prog te, y ≤ reachBytes := fun i hi y hy => by
      refine hw y ?_
      rw [hd]
      simp only [DataW.weights, hu, List.mem_cons, List.mem_append]
      exact .inr (.inl (weights_mem _ _ _ (D i) (by simp; exact ⟨i, by omega, rfl⟩) y hy))
    have key : ∀ i, i < len → ∃ X : α, I X ∧ ∀ j u, (V X)[j]? = some u → W.cell? (x.add (i * s + j)) = some u := fun i hlt => by
      obtain ⟨cs', h1, h2⟩ := hi i (by simp at hm; omega)
      rw [hC] at h1
      obtain ⟨X, rfl, hX⟩ := hcells h2 (hwD i hlt)
      obtain ⟨_, _, hat⟩ := World.cells?_some h1
      refine ⟨X, hX, fun j u hj => ?_⟩
      have hj3 : j < s := by have := (List.getElem?_eq_some_iff.1 hj).1; rw [hV] at this; exact this
      have a0 := hat j hj3
      rw [add_add] at a0
      rw [a0]
      exact hj
    obtain ⟨X, hX⟩ := choose_lt (α := α) (p := fun i X => I X ∧ ∀ j u, (V X)[j]? = some u → W.cell? (x.add (i * s + j)) = some u) key
    refine ⟨X, ⟨some x, cap, rfl, fun hm1 => ?_⟩, fun i hi => (hX i hi).1⟩
    obtain ⟨u0, hu0⟩ := h0 (X 0)
    have h0 := (hX 0 (by omega)).2 0 _ hu0
    obtain ⟨b, o, q⟩ := x
    have hsp : q = none := by
      cases q with
      | none => rfl
      | some y =>
        simp [Addr.add, World.cell?] at h0
        split at h0 <;> cases h0
    subst hsp
    refine ⟨b, o, rfl, ?_, fun i hi j u hj => ?_⟩
    · have := block_lt_of_cell h0
      simp [Addr.add] at this
      omega
    · have hc := (hX i hi).2 j u hj
      rw [Addr.add_mid, ← Nat.add_assoc] at hc
      exact hc
end
end Go.Proofs.YtebchoeeohmlaaaDoor.Aid
