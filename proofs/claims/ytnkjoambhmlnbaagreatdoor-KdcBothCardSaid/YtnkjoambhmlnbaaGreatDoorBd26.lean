/-
  A note as a law's argument.
-/
import Derived.Test.YtnkjoambhmlnbaaGreatDoorBd11
import Derived.Test.YtnkjoambhmlnbaaGreatDoorBd12
import Derived.Test.YtnkjoambhmlnbaaGreatDoorBd25
import Derived.Test.YtnkjoambhmlnbaaGreatDoorBd04
import Derived.OpenShut
namespace Go.Proofs.YtnkjoambhmlnbaaGreatDoor.Note
open Go Go.ChangeShapes Go.WideShapes Go.ChangeAt Go.RowKit Go.Proofs.YtnkjoambhmlnbaaGreatDoor.Aid Go.Proofs.YtnkjoambhmlnbaaGreatDoor.Law01 Go.Proofs.YtnkjoambhmlnbaaGreatDoor.Field

section
variable {H : Type} {enc : TypeId × Value → H} {W : World}
theorem at_take {cs : List Value} {o n i : Nat} {v : Value} (h : ((cs.drop o).take n)[i]? = some v) : cs[o + i]? = some v := by
  rw [List.getElem?_take] at h
  split at h
  · rw [List.getElem?_drop] at h; exact h
  · cases h
theorem one_of {cs : List Value} {o : Nat} (h : o < cs.length) : ∃ u, (cs.drop o).take 1 = [u] ∧ cs[o]? = some u := by
  refine ⟨cs[o], ?_, List.getElem?_eq_getElem h⟩
  rw [List.drop_eq_getElem_cons h]
  rfl
set_option maxRecDepth 100000 in
theorem note_cells {fuel : Nat} {cs : List Value} {x : DataW H × List MemPlace} (h : DataW.trod enc Tryz.prog W 0 (fun _ => true) true fuel 30 cs = some x) (hw : ∀ y ∈ x.1.weights Tryz.prog 30, y ≤ reachBytes) :
    ∃ (N : NoteP) (P Q R : Value), (cs.length = 38 ∧ ∀ i, i < 38 → cs[i]? = some (noteF N P Q R i)) ∧ NoteAt W N P Q R ∧ NoteFits N := by
  obtain ⟨xs, n, _, hx, hl, hlen, hf⟩ := DataW.trod_struct Tryz.underlying30 h
  rw [show Tryz.prog.cellsOf 30 = 38 by kernel_rfl] at hl
  have k1 : Tryz.prog.cellsOf 3 = 1 := by kernel_rfl
  have k2 : Tryz.prog.cellsOf 9 = 1 := by kernel_rfl
  have k3 : Tryz.prog.cellsOf 25 = 16 := by kernel_rfl
  have k4 : Tryz.prog.cellsOf 28 = 1 := by kernel_rfl
  match xs, hlen with
  | [y0, y1, y2, y3, y4, y5, y6, y7], _ =>
    rw [hx] at hw
    simp only [DataW.weights, Tryz.underlying30] at hw
    have g0 : DataW.trod enc Tryz.prog W 0 (fun _ => true) true n 3 ((cs.drop 0).take 1) = some y0 := by rw [← k1]; exact hf 0 _ rfl
    have g1 : DataW.trod enc Tryz.prog W 0 (fun _ => true) true n 9 ((cs.drop 1).take 1) = some y1 := by rw [← k2]; exact hf 1 _ rfl
    have g2 : DataW.trod enc Tryz.prog W 0 (fun _ => true) true n 9 ((cs.drop 2).take 1) = some y2 := by rw [← k2]; exact hf 2 _ rfl
    have g3 : DataW.trod enc Tryz.prog W 0 (fun _ => true) true n 25 ((cs.drop 3).take 16) = some y3 := by rw [← k3]; exact hf 3 _ rfl
    have g4 : DataW.trod enc Tryz.prog W 0 (fun _ => true) true n 25 ((cs.drop 19).take 16) = some y4 := by rw [← k3]; exact hf 4 _ rfl
    have g5 : DataW.trod enc Tryz.prog W 0 (fun _ => true) true n 28 ((cs.drop 35).take 1) = some y5 := by rw [← k4]; exact hf 5 _ rfl
    have g6 : DataW.trod enc Tryz.prog W 0 (fun _ => true) true n 28 ((cs.drop 36).take 1) = some y6 := by rw [← k4]; exact hf 6 _ rfl
    have g7 : DataW.trod enc Tryz.prog W 0 (fun _ => true) true n 28 ((cs.drop 37).take 1) = some y7 := by rw [← k4]; exact hf 7 _ rfl
    obtain ⟨u, hu, -, -⟩ := DataW.trod_int Tryz.underlying3 g0
    obtain ⟨sa, ha, hya, -⟩ := DataW.trod_string Tryz.underlying9 g1
    obtain ⟨sb, hb, hyb, -⟩ := DataW.trod_string Tryz.underlying9 g2
    obtain ⟨-, hxx⟩ := arr_list Tryz.underlying25 Tryz.underlying5 (by kernel_rfl) (by kernel_rfl) g3
    obtain ⟨-, hyy⟩ := arr_list Tryz.underlying25 Tryz.underlying5 (by kernel_rfl) (by kernel_rfl) g4
    obtain ⟨vp, hp, cp⟩ := one_of (cs := cs) (o := 35) (by omega)
    obtain ⟨vq, hq, cq⟩ := one_of (cs := cs) (o := 36) (by omega)
    obtain ⟨vr, hr, cr⟩ := one_of (cs := cs) (o := 37) (by omega)
    rw [hp] at g5
    rw [hq] at g6
    rw [hr] at g7
    have hwt : ∀ (j : Nat) (t : TypeId) (d : DataW H), [3, 9, 9, 25, 25, 28, 28, 28][j]? = some t → ([y0, y1, y2, y3, y4, y5, y6, y7].map (·.1))[j]? = some d → ∀ y ∈ d.weights Tryz.prog t, y ≤ reachBytes := fun j t d h1 h2 y hy => hw y (DataW.weights_mem_each (j := j) h1 h2 y hy)
    obtain ⟨np, ep, sp, lp⟩ := slice_at g5 (hwt 5 _ _ rfl rfl)
    obtain ⟨nq, eq, sq, lq⟩ := slice_at g6 (hwt 6 _ _ rfl rfl)
    obtain ⟨nr, er, sr, lr⟩ := slice_at g7 (hwt 7 _ _ rfl rfl)
    have la : sa.size ≤ reachBytes := by
      have := hwt 1 _ _ rfl rfl sa.data.toList.length (by rw [hya]; simp [DataW.weights])
      simpa using this
    have lb : sb.size ≤ reachBytes := by
      have := hwt 2 _ _ rfl rfl sb.data.toList.length (by rw [hyb]; simp [DataW.weights])
      simpa using this
    simp only [reachBytes] at la lb
    refine ⟨⟨u, sa, sb, blkAt ((cs.drop 3).take 16), blkAt ((cs.drop 19).take 16), np, ep, nq, eq, nr, er⟩, vp, vq, vr, ⟨hl, fun i hi => ?_⟩, ⟨sp, sq, sr⟩, ⟨by show sa.size ≤ _; omega, by show sb.size ≤ _; omega, by show np ≤ _; omega, by show nq ≤ _; omega, by show nr ≤ _; omega⟩⟩
    unfold noteF
    by_cases e0 : i = 0
    · subst e0
      exact at_take (o := 0) (n := 1) (i := 0) (by rw [hu]; rfl)
    by_cases e1 : i = 1
    · subst e1
      exact at_take (o := 1) (n := 1) (i := 0) (by rw [ha]; rfl)
    by_cases e2 : i = 2
    · subst e2
      exact at_take (o := 2) (n := 1) (i := 0) (by rw [hb]; rfl)
    by_cases e3 : i < 19
    · rw [if_neg e0, if_neg e1, if_neg e2, if_pos e3]
      have := at_take (hxx (i - 3) (by omega))
      rw [show 3 + (i - 3) = i by omega] at this
      exact this
    by_cases e4 : i < 35
    · rw [if_neg e0, if_neg e1, if_neg e2, if_neg e3, if_pos e4]
      have := at_take (hyy (i - 19) (by omega))
      rw [show 19 + (i - 19) = i by omega] at this
      exact this
    rw [if_neg e0, if_neg e1, if_neg e2, if_neg e3, if_neg e4]
    by_cases e5 : i = 35
    · subst e5; exact cp
    by_cases e6 : i = 36
    · subst e6; exact cq
    obtain rfl : i = 37 := by omega
    exact cr
set_option maxRecDepth 100000 in
theorem note_in {r : Reach} {b0 : Nat} {v : Value} {d : DataW H} {ps : List MemPlace} (hval : Value.okWide Tryz.prog W r b0 30 v) (hd : DataW.Trod enc Tryz.prog W 0 (fun _ => true) true 30 v d ps) (hw : ∀ y ∈ d.weights Tryz.prog 30, y ≤ reachBytes) :
    ∃ (N : NoteP) (P Q R : Value), v = noteV N P Q R ∧ NoteAt W N P Q R ∧ NoteFits N := by
  obtain ⟨fuel, hf⟩ := hd
  obtain ⟨N, P, Q, R, ⟨hl, hc⟩, h1, h2⟩ := note_cells hf hw
  simp only [Value.okWide, Tryz.underlying30] at hval
  obtain ⟨X, rfl, -, _⟩ := hval
  simp only [Value.cells] at hl hc
  exact ⟨N, P, Q, R, by unfold noteV; rw [eq_cellsOf (n := 38) (c := X) (f := noteF N P Q R) (by simpa using hl) (fun i hi => by rw [← Array.getElem?_toList]; exact hc i hi)], h1, h2⟩
end
end Go.Proofs.YtnkjoambhmlnbaaGreatDoor.Note
