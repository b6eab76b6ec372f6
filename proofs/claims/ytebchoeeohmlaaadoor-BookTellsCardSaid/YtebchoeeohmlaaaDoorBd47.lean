/-
  Operations on a book, as a law's arguments are opened.
-/
import Derived.Test.YtebchoeeohmlaaaDoorBd08
import Derived.Test.YtebchoeeohmlaaaDoorBd45
import Derived.Test.YtebchoeeohmlaaaDoorBd46
import Derived.Test.YtebchoeeohmlaaaDoorBd44
namespace Go.Proofs.YtebchoeeohmlaaaDoor.Book
open Go Go.ChangeShapes Go.WideShapes Go.ChangeAt Go.RowKit Go.Deep Go.Proofs.YtebchoeeohmlaaaDoor.Aid Go.Proofs.YtebchoeeohmlaaaDoor.Law01 Go.Proofs.YtebchoeeohmlaaaDoor.Field

instance : Inhabited OpB := ⟨⟨0, nos, zw, 0⟩⟩
section
variable {H : Type} {enc : TypeId × Value → H} {W : World}
theorem at_take {cs : List Value} {o n i : Nat} {v : Value} (h : ((cs.drop o).take n)[i]? = some v) : cs[o + i]? = some v := by
  rw [List.getElem?_take] at h
  split at h
  · rw [List.getElem?_drop] at h; exact h
  · cases h
theorem op15_cells {fuel : Nat} {cs : List Value} {x : DataW H × List MemPlace} (h : DataW.trod enc Tryd.prog W 0 (fun _ => true) true fuel 28 cs = some x) (hw : ∀ y ∈ x.1.weights Tryd.prog 28, y ≤ reachBytes) : ∃ p : OpB, cs = ox p ∧ (p.key.length = 16 ∧ p.name.size ≤ 9000000000000000000) := by
  obtain ⟨xs, n, _, hx, hl, hlen, hf⟩ := DataW.trod_struct Tryd.underlying28 h
  rw [show Tryd.prog.cellsOf 28 = 19 by kernel_rfl] at hl
  have k1 : Tryd.prog.cellsOf 3 = 1 := by kernel_rfl
  have k2 : Tryd.prog.cellsOf 9 = 1 := by kernel_rfl
  have k3 : Tryd.prog.cellsOf 26 = 16 := by kernel_rfl
  match xs, hlen with
  | [y0, y1, y2, y3], _ =>
    rw [hx] at hw
    simp only [DataW.weights, Tryd.underlying28] at hw
    have g0 : DataW.trod enc Tryd.prog W 0 (fun _ => true) true n 3 ((cs.drop 0).take 1) = some y0 := by simpa [k1] using hf 0 _ rfl
    have g1 : DataW.trod enc Tryd.prog W 0 (fun _ => true) true n 9 ((cs.drop 1).take 1) = some y1 := by simpa [k2] using hf 1 _ rfl
    have g2 : DataW.trod enc Tryd.prog W 0 (fun _ => true) true n 26 ((cs.drop 2).take 16) = some y2 := by rw [← k3]; exact hf 2 _ rfl
    have g3 : DataW.trod enc Tryd.prog W 0 (fun _ => true) true n 3 ((cs.drop 18).take 1) = some y3 := by simpa [k1, k2, k3] using hf 3 _ rfl
    obtain ⟨u, hu, -, -⟩ := DataW.trod_int Tryd.underlying3 g0
    obtain ⟨sa, ha, hya, -⟩ := DataW.trod_string Tryd.underlying9 g1
    obtain ⟨-, hxx⟩ := arr_list Tryd.underlying26 Tryd.underlying5 (by kernel_rfl) (by kernel_rfl) g2
    obtain ⟨z, hz, -, -⟩ := DataW.trod_int Tryd.underlying3 g3
    have la : sa.size ≤ reachBytes := by
      have := hw sa.data.toList.length (DataW.weights_mem_each (ts := [3, 9, 26, 3]) (j := 1) rfl rfl _ (by rw [hya]; simp [DataW.weights]))
      simpa using this
    simp only [reachBytes] at la
    refine ⟨⟨u, sa, (List.range 16).map (blkAt ((cs.drop 2).take 16)), z⟩, ?_, by simp, by show sa.size ≤ _; omega⟩
    have hat : ∀ i, i < 19 → cs[i]? = some (opF ⟨u, sa, (List.range 16).map (blkAt ((cs.drop 2).take 16)), z⟩ i) := fun i hi => by
      unfold opF
      by_cases e0 : i = 0
      · subst e0
        exact at_take (o := 0) (n := 1) (i := 0) (by rw [hu]; rfl)
      by_cases e1 : i = 1
      · subst e1
        exact at_take (o := 1) (n := 1) (i := 0) (by rw [ha]; rfl)
      by_cases e2 : i < 18
      · rw [if_neg e0, if_neg e1, if_pos e2]
        have := at_take (hxx (i - 2) (by omega))
        rw [show 2 + (i - 2) = i by omega] at this
        rw [this]
        unfold wordF
        rw [List.getD_eq_getElem?_getD, List.getElem?_map, List.getElem?_range (by omega)]
        rfl
      rw [if_neg e0, if_neg e1, if_neg e2]
      obtain rfl : i = 18 := by omega
      exact at_take (o := 18) (n := 1) (i := 0) (by rw [hz]; rfl)
    apply List.ext_getElem?
    intro i
    by_cases hi : i < 19
    · rw [hat i hi]
      unfold ox
      rw [List.getElem?_map, List.getElem?_range hi]
      rfl
    · rw [List.getElem?_eq_none (by omega), List.getElem?_eq_none (by simp [ox]; omega)]
theorem ops15_in {a : Option Addr} {len cap : Nat} {d : DataW H} {p : List MemPlace} (h : DataW.Trod enc Tryd.prog W 0 (fun _ => true) true 22 (.slice a len cap) d p) (hw : ∀ y ∈ d.weights Tryd.prog 22, y ≤ reachBytes) : ∃ X, OpsBIn W len X (.slice a len cap) := by
  obtain ⟨X, h1, h2⟩ := rows_in Tryd.underlying22 (by kernel_rfl) ox (fun p => ⟨_, rfl⟩) (s := 19) (fun p => by simp [ox]) op15_cells h hw
  exact ⟨X, h1, h2⟩
end
end Go.Proofs.YtebchoeeohmlaaaDoor.Book
