/-
  A slice of operations, as a law's argument is opened.
-/
import Derived.Test.YtmoepcobhapghaaOpsAt
import Derived.Test.YtmoepcobhapghaaProg
import Derived.ProofKit
import Derived.OpenShut
import Derived.ChangeOld
import Derived.Deep.Slices
import Derived.Lib.SmallJoins
namespace Go.Proofs.Ytmoepcobhapghaa.Cache
open Go Go.Joins Go.ChangeShapes Go.WideShapes Go.ChangeAt Go.RowKit Go.Deep Go.Proofs.Ytmoepcobhapghaa.Aid

theorem op_cells {H : Type} {enc : TypeId × Value → H} {W : World} {base : Nat} {sp : Nat → Bool} {held : Bool} {fuel : Nat} {cs : List Value} {x : DataW H × List MemPlace} (h : DataW.trod enc Try.prog W base sp held fuel 32 cs = some x) : ∃ X : OpV, cs = X.vals ∧ -9223372036854775808 ≤ X.k ∧ X.k ≤ 9223372036854775807 := by
  obtain ⟨xs, n, _, _, hl, hlen, hf⟩ := DataW.trod_struct Try.underlying32 h
  rw [show Try.prog.cellsOf 32 = 3 by kernel_rfl] at hl
  have k1 : Try.prog.cellsOf 3 = 1 := by kernel_rfl
  have k2 : Try.prog.cellsOf 9 = 1 := by kernel_rfl
  match xs, hlen with
  | [y0, y1, y2], _ =>
    match cs, hl with
    | [c0, c1, c2], _ =>
      obtain ⟨u0, hu0, -, -⟩ := DataW.trod_int Try.underlying3 (show DataW.trod enc Try.prog W base sp held n 3 [c0] = some y0 from by simpa [k1] using hf 0 _ rfl)
      obtain ⟨u1, hu1, -, hw1⟩ := DataW.trod_int Try.underlying3 (show DataW.trod enc Try.prog W base sp held n 3 [c1] = some y1 from by simpa [k1] using hf 1 _ rfl)
      obtain ⟨s2, hs2, -, -⟩ := DataW.trod_string Try.underlying9 (show DataW.trod enc Try.prog W base sp held n 9 [c2] = some y2 from by simpa [k2] using hf 2 _ rfl)
      simp at hu0 hu1 hs2
      subst hu0 hu1 hs2
      exact ⟨⟨u0, u1, s2⟩, rfl, by simpa [Lit.wf, IntKind.min, IntKind.max, IntKind.bits, IntKind.signed] using hw1⟩
theorem ops_in {H : Type} {enc : TypeId × Value → H} {W : World} {a : Option Addr} {len cap : Nat} {d : DataW H} {p : List MemPlace}
    (h : DataW.Trod enc Try.prog W 0 (fun _ => true) true 22 (.slice a len cap) d p) : ∃ X, OpsAt W W.heap.size len X (.slice a len cap) := by
  obtain ⟨fuel, hf⟩ := h
  rcases open_slice Try.underlying22 hf with ⟨hcs, _⟩ | ⟨x, l, c, m, n, D, Pl, hcs, _, hl, _, hm, _, hi⟩
  · simp [Value.cells] at hcs
    obtain ⟨rfl, rfl, rfl⟩ := hcs
    exact ⟨fun _ => ⟨0, 0, ByteArray.empty⟩, fun i hi => absurd hi (by omega), none, 0, rfl, fun h => by omega⟩
  · simp [Value.cells] at hcs
    obtain ⟨rfl, rfl, rfl⟩ := hcs
    have hC : Try.prog.cellsOf 32 = 3 := by kernel_rfl
    have key : ∀ i, i < len → ∃ X : OpV, (-9223372036854775808 ≤ X.k ∧ X.k ≤ 9223372036854775807) ∧ ∀ j u, X.vals[j]? = some u → W.cell? (x.add (i * 3 + j)) = some u := fun i hlt => by
      obtain ⟨cs', h1, h2⟩ := hi i (by simp at hm; omega)
      rw [hC] at h1
      obtain ⟨X, rfl, hX⟩ := op_cells h2
      obtain ⟨_, _, hat⟩ := World.cells?_some h1
      refine ⟨X, hX, fun j u hj => ?_⟩
      have hj3 : j < 3 := (List.getElem?_eq_some_iff.1 hj).1
      have a0 := hat j hj3
      rw [add_add] at a0
      rw [a0]
      exact hj
    have : Inhabited OpV := ⟨⟨0, 0, ByteArray.empty⟩⟩
    obtain ⟨X, hX⟩ := choose_lt (α := OpV) (p := fun i X => (-9223372036854775808 ≤ X.k ∧ X.k ≤ 9223372036854775807) ∧ ∀ j u, X.vals[j]? = some u → W.cell? (x.add (i * 3 + j)) = some u) key
    refine ⟨X, fun i hi => (hX i hi).1, some x, cap, rfl, fun hm1 => ?_⟩
    have h0 := (hX 0 (by omega)).2 0 _ rfl
    obtain ⟨b, o, q⟩ := x
    have hsp : q = none := by
      cases q with
      | none => rfl
      | some y =>
        simp [Addr.add, World.cell?] at h0
        split at h0 <;> cases h0
    subst hsp
    refine ⟨b, o, rfl, ?_, fun i hi j u hj => ?_⟩
    · have := block_lt_of_cell h0
      simp [Addr.add] at this
      omega
    · have hc := (hX i hi).2 j u hj
      rw [Addr.add_mid, ← Nat.add_assoc] at hc
      exact hc
end Go.Proofs.Ytmoepcobhapghaa.Cache
