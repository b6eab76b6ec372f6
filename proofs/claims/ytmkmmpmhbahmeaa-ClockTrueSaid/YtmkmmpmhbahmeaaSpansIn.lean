/-
  A slice of spans as a law's argument, as the walks take it.
-/
import Derived.Test.YtmkmmpmhbahmeaaProg
import Derived.Test.YtmkmmpmhbahmeaaSpansAt
import Derived.ProofKit
import Derived.OpenShut
import Derived.ChangeOld
import Derived.Deep.Slices
import Derived.Lib.SmallJoins
namespace Go.Proofs.Ytmkmmpmhbahmeaa.Sweep
open Go Go.Joins Go.ChangeShapes Go.WideShapes Go.ChangeAt Go.RowKit Go.Deep Go.Proofs.Ytmkmmpmhbahmeaa.Aid

section
variable {H : Type} {enc : TypeId × Value → H} {P : Program} {W : World} {base : Nat} {sp : Nat → Bool} {held : Bool}
/-- A struct of two ints, out of its two cells. -/
theorem two_cells {t : TypeId} {f0 f1 : Field} {k0 k1 : IntKind} {fuel : Nat} {cs : List Value} {x : DataW H × List MemPlace} (hs : P.underlying t = some (.struct #[f0, f1])) (hone : oneCellFields P #[f0, f1] = true) (hC : P.cellsOf t = 2)
    (h0 : P.underlying f0.type = some (.int k0)) (h1 : P.underlying f1.type = some (.int k1)) (h : DataW.trod enc P W base sp held fuel t cs = some x) : ∃ u v : Int, cs = [.int k0 u, .int k1 v] := by
  obtain ⟨y0, y1, n, _, hl, e0, e1⟩ := trod_struct2 hs h
  rw [hC] at hl
  match cs, hl with
  | [c0, c1], _ =>
    obtain ⟨o0, q0⟩ := hone_of hone 0 f0 rfl
    obtain ⟨o1, q1⟩ := hone_of hone 1 f1 rfl
    rw [o0, q0] at e0
    rw [o1, q1] at e1
    obtain ⟨u, hu, -, -⟩ := DataW.trod_int h0 (by simpa using e0)
    obtain ⟨v, hv, -, -⟩ := DataW.trod_int h1 (by simpa using e1)
    simp at hu hv
    exact ⟨u, v, by rw [hu, hv]⟩
end
theorem spans_in {H : Type} {enc : TypeId × Value → H} {W : World} {a : Option Addr} {len cap : Nat} {d : DataW H} {p : List MemPlace}
    (h : DataW.Trod enc Try.prog W 0 (fun _ => true) true 26 (.slice a len cap) d p) : ∃ e, SpansAt W W.heap.size len e (.slice a len cap) := by
  obtain ⟨fuel, hf⟩ := h
  rcases open_slice Try.underlying26 hf with ⟨hcs, _⟩ | ⟨x, l, c, m, n, D, Pl, hcs, _, hl, _, hm, _, hi⟩
  · simp [Value.cells] at hcs
    obtain ⟨rfl, rfl, rfl⟩ := hcs
    exact ⟨fun _ => (0, 0), none, 0, rfl, fun h => by omega⟩
  · simp [Value.cells] at hcs
    obtain ⟨rfl, rfl, rfl⟩ := hcs
    have hC : Try.prog.cellsOf 23 = 2 := by kernel_rfl
    have key : ∀ i, i < len → ∃ uv : Int × Int, W.cell? (x.add (i * 2)) = some (.int .i64 uv.1) ∧ W.cell? (x.add (i * 2 + 1)) = some (.int .i64 uv.2) := fun i hlt => by
      obtain ⟨cs', h1, h2⟩ := hi i (by simp at hm; omega)
      rw [hC] at h1
      obtain ⟨u, v, rfl⟩ := two_cells Try.underlying23 (by kernel_rfl) hC Try.underlying2 Try.underlying2 h2
      obtain ⟨_, _, hat⟩ := World.cells?_some h1
      have a0 := hat 0 (by omega)
      have a1 := hat 1 (by omega)
      rw [add_add] at a0 a1
      exact ⟨(u, v), a0, a1⟩
    obtain ⟨e, he⟩ := choose_lt (α := Int × Int) (p := fun i uv => W.cell? (x.add (i * 2)) = some (.int .i64 uv.1) ∧ W.cell? (x.add (i * 2 + 1)) = some (.int .i64 uv.2)) key
    refine ⟨e, some x, cap, rfl, fun hm1 => ?_⟩
    have h0 := (he 0 (by omega)).1
    obtain ⟨b, o, q⟩ := x
    have hsp : q = none := by
      cases q with
      | none => rfl
      | some y =>
        simp [Addr.add, World.cell?] at h0
        split at h0 <;> cases h0
    subst hsp
    refine ⟨b, o, rfl, ?_, fun j hj => ?_⟩
    · have := block_lt_of_cell h0
      simp [Addr.add] at this
      omega
    · have hc := he j (by omega)
      rw [Addr.add_mid, Addr.add_mid, ← Nat.add_assoc] at hc
      exact hc
end Go.Proofs.Ytmkmmpmhbahmeaa.Sweep
