/-
  Operations on a journal, as a law's arguments are opened.
-/
import Derived.Test.YtpnkcacmmjmehaaDoorOps14
import Derived.Test.YtpnkcacmmjmehaaDoorRowsIn
import Derived.Test.YtpnkcacmmjmehaaDoorSliceIn
namespace Go.Proofs.YtpnkcacmmjmehaaDoor.Jour
open Go Go.ChangeShapes Go.WideShapes Go.ChangeAt Go.RowKit Go.Deep Go.Proofs.YtpnkcacmmjmehaaDoor.Aid Go.Proofs.YtpnkcacmmjmehaaDoor.Law01 Go.Proofs.YtpnkcacmmjmehaaDoor.Field Go.Proofs.YtpnkcacmmjmehaaDoor.Cache Go.Proofs.YtpnkcacmmjmehaaDoor.Store

instance : Inhabited OpJ := ⟨⟨0, 0, [], .slice none 0 0⟩⟩
section
variable {H : Type} {enc : TypeId × Value → H} {W : World}
theorem op14_cells {fuel : Nat} {cs : List Value} {x : DataW H × List MemPlace} (h : DataW.trod enc Tryd.prog W 0 (fun _ => true) true fuel 37 cs = some x) (hw : ∀ y ∈ x.1.weights Tryd.prog 37, y ≤ reachBytes) : ∃ p : OpJ, cs = p.vals ∧ OpJIn W p := by
  obtain ⟨xs, n, _, hx, hl, hlen, hf⟩ := DataW.trod_struct Tryd.underlying37 h
  rw [show Tryd.prog.cellsOf 37 = 3 by kernel_rfl] at hl
  have k1 : Tryd.prog.cellsOf 3 = 1 := by kernel_rfl
  have k4 : Tryd.prog.cellsOf 35 = 1 := by kernel_rfl
  match xs, hlen with
  | [y0, y1, y2], _ =>
    match cs, hl with
    | [c0, c1, c2], _ =>
      rw [hx] at hw
      simp only [DataW.weights, Tryd.underlying37] at hw
      obtain ⟨u0, hu0, -, -⟩ := DataW.trod_int Tryd.underlying3 (show DataW.trod enc Tryd.prog W 0 (fun _ => true) true n 3 [c0] = some y0 from by simpa [k1] using hf 0 _ rfl)
      obtain ⟨u1, hu1, -, -⟩ := DataW.trod_int Tryd.underlying3 (show DataW.trod enc Tryd.prog W 0 (fun _ => true) true n 3 [c1] = some y1 from by simpa [k1] using hf 1 _ rfl)
      obtain ⟨m, e, sp, lp⟩ := slice_at (show DataW.trod enc Tryd.prog W 0 (fun _ => true) true n 35 [c2] = some y2 from by simpa [k1, k4] using hf 2 _ rfl) (fun y hy => hw y (DataW.weights_mem_each (ts := [3, 3, 35]) (j := 2) rfl rfl y hy))
      simp at hu0 hu1
      subst hu0 hu1
      have hl : ((List.range m).map e).length = m := by simp
      refine ⟨⟨u0, u1, (List.range m).map e, c2⟩, rfl, ⟨?_, by rw [hl]; exact lp⟩⟩
      show SliceOf W W.heap.size ((List.range m).map e).length (fnL ((List.range m).map e)) c2
      rw [hl]
      refine sp.congr (fun i hi => ?_)
      unfold fnL
      rw [List.getD_eq_getElem?_getD, List.getElem?_map, List.getElem?_range hi]
      rfl
theorem ops14_in {a : Option Addr} {len cap : Nat} {d : DataW H} {p : List MemPlace} (h : DataW.Trod enc Tryd.prog W 0 (fun _ => true) true 22 (.slice a len cap) d p) (hw : ∀ y ∈ d.weights Tryd.prog 22, y ≤ reachBytes) : ∃ X, OpsJIn W len X (.slice a len cap) := by
  obtain ⟨X, h1, h2⟩ := rows_in Tryd.underlying22 (by kernel_rfl) OpJ.vals (fun p => ⟨_, rfl⟩) (s := 3) (fun p => rfl) op14_cells h hw
  exact ⟨X, h1, h2⟩
end
end Go.Proofs.YtpnkcacmmjmehaaDoor.Jour
