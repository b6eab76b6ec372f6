/-
  A list of slices of bytes as a law's argument, as the walks take it.
-/
import Derived.Test.YtmnddjoncciimaaSizedIn
import Derived.Deep.Slices
import Derived.SizedLaws
namespace Go.Proofs.Ytmnddjoncciimaa.Field
open Go Go.ChangeShapes Go.WideShapes Go.ChangeAt Go.RowKit Go.Proofs.Ytmnddjoncciimaa.Aid Go.Proofs.Ytmnddjoncciimaa.Law01

/-- A list of slices of bytes that came in, as the walk takes it. -/
theorem parts_in {H : Type} {enc : TypeId × Value → H} {W : World} {a : Option Addr} {len cap : Nat} {d : DataW H} {p : List MemPlace}
    (h : DataW.Trod enc Try.prog W 0 (fun _ => true) true 22 (.slice a len cap) d p) (hw : ∀ y ∈ d.weights Try.prog 22, y ≤ reachBytes) :
    ∃ (m : Nat → Nat) (e : Nat → Nat → BitVec 8), PartsOf W len m e (.slice a len cap) ∧ ∀ i, i < len → m i ≤ 140737488351232 := by
  obtain ⟨fuel, hf⟩ := h
  rcases Deep.open_slice1 Try.underlying22 (by kernel_rfl) hf with ⟨hcs, _⟩ | ⟨x, l, c, k, n, V, D, Pl, hcs, _, hl, _, hk, hx, hV⟩
  · simp [Value.cells] at hcs
    obtain ⟨rfl, rfl, rfl⟩ := hcs
    exact ⟨fun _ => 0, fun _ _ => 0, ⟨none, 0, rfl, fun h0 => absurd h0 (by omega)⟩, fun _ _ => Nat.zero_le _⟩
  · simp [Value.cells] at hcs
    obtain ⟨rfl, rfl, rfl⟩ := hcs
    have hk' : k = cap := by simpa using hk
    simp only [Prod.mk.injEq] at hx
    have hd := hx.1
    have hwD : ∀ i, i < len → ∀ y ∈ (D i).weights Try.prog 23, y ≤ reachBytes := fun i hi y hy => by
      refine hw y ?_
      rw [hd]
      simp only [DataW.weights, Try.underlying22, List.mem_cons, List.mem_append]
      exact .inr (.inl (weights_mem _ _ _ (D i) (by simp; exact ⟨i, by omega, rfl⟩) y hy))
    have hparts : ∀ i, i < len → ∃ me : Nat × (Nat → BitVec 8), SliceOf W W.heap.size me.1 me.2 (V i) ∧ me.1 ≤ 140737488351232 := fun i hi => by
      obtain ⟨n', e', h1, h2⟩ := slice_at (hV i (by omega)).2 (hwD i hi)
      exact ⟨(n', e'), h1, h2⟩
    haveI : Inhabited (Nat × (Nat → BitVec 8)) := ⟨(0, fun _ => 0)⟩
    obtain ⟨f, hfp⟩ := Deep.choose_lt hparts
    refine ⟨fun i => (f i).1, fun i => (f i).2, ⟨some x, cap, rfl, fun h0 => ?_⟩, fun i hi => (hfp i hi).2⟩
    · have hc0 := (hV 0 (by omega)).1
      obtain ⟨b, o, sp⟩ := x
      have hsp : sp = none := by
        cases sp with
        | none => rfl
        | some y =>
          simp [Addr.add, World.cell?] at hc0
          split at hc0 <;> cases hc0
      subst hsp
      refine ⟨b, o, rfl, fun i hi => ⟨V i, ?_, (hfp i hi).1⟩⟩
      have := (hV i (by omega)).1
      rw [Addr.add_mid] at this
      exact this
end Go.Proofs.Ytmnddjoncciimaa.Field
