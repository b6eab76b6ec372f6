/-
  Operations on a store, as a law's arguments are opened.
-/
import Derived.Test.YthacldkmjpjgiaaOps13
import Derived.Test.YthacldkmjpjgiaaRowsIn
import Derived.Test.YthacldkmjpjgiaaSliceIn
namespace Go.Proofs.Ythacldkmjpjgiaa.Store
open Go Go.ChangeShapes Go.WideShapes Go.ChangeAt Go.RowKit Go.Deep Go.Proofs.Ythacldkmjpjgiaa.Aid Go.Proofs.Ythacldkmjpjgiaa.Law01 Go.Proofs.Ythacldkmjpjgiaa.Field Go.Proofs.Ythacldkmjpjgiaa.Cache

instance : Inhabited OpT := ⟨⟨0, 0, 0, fun _ => 0, .slice none 0 0⟩⟩
section
variable {H : Type} {enc : TypeId × Value → H} {W : World}
theorem op13_cells {fuel : Nat} {cs : List Value} {x : DataW H × List MemPlace} (h : DataW.trod enc Try.prog W 0 (fun _ => true) true fuel 35 cs = some x) (hw : ∀ y ∈ x.1.weights Try.prog 35, y ≤ reachBytes) : ∃ p : OpT, cs = p.vals ∧ OpTIn W p := by
  obtain ⟨xs, n, _, hx, hl, hlen, hf⟩ := DataW.trod_struct Try.underlying35 h
  rw [show Try.prog.cellsOf 35 = 3 by kernel_rfl] at hl
  have k1 : Try.prog.cellsOf 3 = 1 := by kernel_rfl
  have k4 : Try.prog.cellsOf 33 = 1 := by kernel_rfl
  match xs, hlen with
  | [y0, y1, y2], _ =>
    match cs, hl with
    | [c0, c1, c2], _ =>
      rw [hx] at hw
      simp only [DataW.weights, Try.underlying35] at hw
      obtain ⟨u0, hu0, -, -⟩ := DataW.trod_int Try.underlying3 (show DataW.trod enc Try.prog W 0 (fun _ => true) true n 3 [c0] = some y0 from by simpa [k1] using hf 0 _ rfl)
      obtain ⟨u1, hu1, -, hw1⟩ := DataW.trod_int Try.underlying3 (show DataW.trod enc Try.prog W 0 (fun _ => true) true n 3 [c1] = some y1 from by simpa [k1] using hf 1 _ rfl)
      obtain ⟨m, e, sp, lp⟩ := slice_at (show DataW.trod enc Try.prog W 0 (fun _ => true) true n 33 [c2] = some y2 from by simpa [k1, k4] using hf 2 _ rfl) (fun y hy => hw y (DataW.weights_mem_each (ts := [3, 3, 33]) (j := 2) rfl rfl y hy))
      simp at hu0 hu1
      subst hu0 hu1
      exact ⟨⟨u0, u1, m, e, c2⟩, rfl, ⟨sp, lp, by simpa [Lit.wf, IntKind.min, IntKind.max, IntKind.bits, IntKind.signed] using hw1⟩⟩
theorem ops13_in {a : Option Addr} {len cap : Nat} {d : DataW H} {p : List MemPlace} (h : DataW.Trod enc Try.prog W 0 (fun _ => true) true 22 (.slice a len cap) d p) (hw : ∀ y ∈ d.weights Try.prog 22, y ≤ reachBytes) : ∃ X, OpsTIn W len X (.slice a len cap) := by
  obtain ⟨X, h1, h2⟩ := rows_in Try.underlying22 (by kernel_rfl) OpT.vals (fun p => ⟨_, rfl⟩) (s := 3) (fun p => rfl) op13_cells h hw
  exact ⟨X, h1, h2⟩
end
end Go.Proofs.Ythacldkmjpjgiaa.Store
