/-
  A note, and two of them, as a law's argument.
-/
import Derived.Test.YtagehbeliifbkaaDoorNoteRead
import Derived.Test.YtagehbeliifbkaaDoorLoadMet
import Derived.Test.YtagehbeliifbkaaDoorBytesIn
import Derived.Test.YtagehbeliifbkaaDoorPartsIn
import Derived.OpenShut
namespace Go.Proofs.YtagehbeliifbkaaDoor.Note
open Go Go.ChangeShapes Go.WideShapes Go.ChangeAt Go.RowKit Go.Proofs.YtagehbeliifbkaaDoor.Aid Go.Proofs.YtagehbeliifbkaaDoor.Law01 Go.Proofs.YtagehbeliifbkaaDoor.Field

section
variable {H : Type} {enc : TypeId × Value → H} {W : World}
theorem at_take {cs : List Value} {o n i : Nat} {v : Value} (h : ((cs.drop o).take n)[i]? = some v) : cs[o + i]? = some v := by
  rw [List.getElem?_take] at h
  split at h
  · rw [List.getElem?_drop] at h; exact h
  · cases h
theorem one_of {cs : List Value} {o : Nat} (h : o < cs.length) : ∃ u, (cs.drop o).take 1 = [u] ∧ cs[o]? = some u := by
  refine ⟨cs[o], ?_, List.getElem?_eq_getElem h⟩
  rw [List.drop_eq_getElem_cons h]
  rfl
theorem note_cells {fuel : Nat} {cs : List Value} {x : DataW H × List MemPlace} (h : DataW.trod enc Tryd.prog W 0 (fun _ => true) true fuel 26 cs = some x) (hw : ∀ y ∈ x.1.weights Tryd.prog 26, y ≤ reachBytes) :
    ∃ (N : NoteP) (P Q R : Value), (cs.length = 38 ∧ ∀ i, i < 38 → cs[i]? = some (noteF N P Q R i)) ∧ NoteAt W N P Q R ∧ NoteFits N := by
  obtain ⟨xs, n, _, hx, hl, hlen, hf⟩ := DataW.trod_struct Tryd.underlying26 h
  rw [show Tryd.prog.cellsOf 26 = 38 by kernel_rfl] at hl
  have k1 : Tryd.prog.cellsOf 3 = 1 := by kernel_rfl
  have k2 : Tryd.prog.cellsOf 9 = 1 := by kernel_rfl
  have k3 : Tryd.prog.cellsOf 23 = 16 := by kernel_rfl
  have k4 : Tryd.prog.cellsOf 24 = 1 := by kernel_rfl
  match xs, hlen with
  | [y0, y1, y2, y3, y4, y5, y6, y7], _ =>
    rw [hx] at hw
    simp only [DataW.weights, Tryd.underlying26] at hw
    have g0 : DataW.trod enc Tryd.prog W 0 (fun _ => true) true n 3 ((cs.drop 0).take 1) = some y0 := by rw [← k1]; exact hf 0 _ rfl
    have g1 : DataW.trod enc Tryd.prog W 0 (fun _ => true) true n 9 ((cs.drop 1).take 1) = some y1 := by rw [← k2]; exact hf 1 _ rfl
    have g2 : DataW.trod enc Tryd.prog W 0 (fun _ => true) true n 9 ((cs.drop 2).take 1) = some y2 := by rw [← k2]; exact hf 2 _ rfl
    have g3 : DataW.trod enc Tryd.prog W 0 (fun _ => true) true n 23 ((cs.drop 3).take 16) = some y3 := by rw [← k3]; exact hf 3 _ rfl
    have g4 : DataW.trod enc Tryd.prog W 0 (fun _ => true) true n 23 ((cs.drop 19).take 16) = some y4 := by rw [← k3]; exact hf 4 _ rfl
    have g5 : DataW.trod enc Tryd.prog W 0 (fun _ => true) true n 24 ((cs.drop 35).take 1) = some y5 := by rw [← k4]; exact hf 5 _ rfl
    have g6 : DataW.trod enc Tryd.prog W 0 (fun _ => true) true n 24 ((cs.drop 36).take 1) = some y6 := by rw [← k4]; exact hf 6 _ rfl
    have g7 : DataW.trod enc Tryd.prog W 0 (fun _ => true) true n 24 ((cs.drop 37).take 1) = some y7 := by rw [← k4]; exact hf 7 _ rfl
    obtain ⟨u, hu, -, -⟩ := DataW.trod_int Tryd.underlying3 g0
    obtain ⟨sa, ha, hya, -⟩ := DataW.trod_string Tryd.underlying9 g1
    obtain ⟨sb, hb, hyb, -⟩ := DataW.trod_string Tryd.underlying9 g2
    obtain ⟨-, hxx⟩ := arr_list Tryd.underlying23 Tryd.underlying5 (by kernel_rfl) (by kernel_rfl) g3
    obtain ⟨-, hyy⟩ := arr_list Tryd.underlying23 Tryd.underlying5 (by kernel_rfl) (by kernel_rfl) g4
    obtain ⟨vp, hp, cp⟩ := one_of (cs := cs) (o := 35) (by omega)
    obtain ⟨vq, hq, cq⟩ := one_of (cs := cs) (o := 36) (by omega)
    obtain ⟨vr, hr, cr⟩ := one_of (cs := cs) (o := 37) (by omega)
    rw [hp] at g5
    rw [hq] at g6
    rw [hr] at g7
    have hwt : ∀ (j : Nat) (t : TypeId) (d : DataW H), [3, 9, 9, 23, 23, 24, 24, 24][j]? = some t → ([y0, y1, y2, y3, y4, y5, y6, y7].map (·.1))[j]? = some d → ∀ y ∈ d.weights Tryd.prog t, y ≤ reachBytes := fun j t d h1 h2 y hy => hw y (DataW.weights_mem_each (j := j) h1 h2 y hy)
    obtain ⟨np, ep, sp, lp⟩ := slice_at g5 (hwt 5 _ _ rfl rfl)
    obtain ⟨nq, eq, sq, lq⟩ := slice_at g6 (hwt 6 _ _ rfl rfl)
    obtain ⟨nr, er, sr, lr⟩ := slice_at g7 (hwt 7 _ _ rfl rfl)
    have la : sa.size ≤ reachBytes := by
      have := hwt 1 _ _ rfl rfl sa.data.toList.length (by rw [hya]; simp [DataW.weights])
      simpa using this
    have lb : sb.size ≤ reachBytes := by
      have := hwt 2 _ _ rfl rfl sb.data.toList.length (by rw [hyb]; simp [DataW.weights])
      simpa using this
    simp only [reachBytes] at la lb
    refine ⟨⟨u, sa, sb, blkAt ((cs.drop 3).take 16), blkAt ((cs.drop 19).take 16), np, ep, nq, eq, nr, er⟩, vp, vq, vr, ⟨hl, fun i hi => ?_⟩, ⟨sp, sq, sr⟩, ⟨by show sa.size ≤ _; omega, by show sb.size ≤ _; omega, by show np ≤ _; omega, by show nq ≤ _; omega, by show nr ≤ _; omega⟩⟩
    unfold noteF
    by_cases e0 : i = 0
    · subst e0
      exact at_take (o := 0) (n := 1) (i := 0) (by rw [hu]; rfl)
    by_cases e1 : i = 1
    · subst e1
      exact at_take (o := 1) (n := 1) (i := 0) (by rw [ha]; rfl)
    by_cases e2 : i = 2
    · subst e2
      exact at_take (o := 2) (n := 1) (i := 0) (by rw [hb]; rfl)
    by_cases e3 : i < 19
    · rw [if_neg e0, if_neg e1, if_neg e2, if_pos e3]
      have := at_take (hxx (i - 3) (by omega))
      rw [show 3 + (i - 3) = i by omega] at this
      exact this
    by_cases e4 : i < 35
    · rw [if_neg e0, if_neg e1, if_neg e2, if_neg e3, if_pos e4]
      have := at_take (hyy (i - 19) (by omega))
      rw [show 19 + (i - 19) = i by omega] at this
      exact this
    rw [if_neg e0, if_neg e1, if_neg e2, if_neg e3, if_neg e4]
    by_cases e5 : i = 35
    · subst e5; exact cp
    by_cases e6 : i = 36
    · subst e6; exact cq
    obtain rfl : i = 37 := by omega
    exact cr
theorem note_in {r : Reach} {b0 : Nat} {v : Value} {d : DataW H} {ps : List MemPlace} (hval : Value.okWide Tryd.prog W r b0 26 v) (hd : DataW.Trod enc Tryd.prog W 0 (fun _ => true) true 26 v d ps) (hw : ∀ y ∈ d.weights Tryd.prog 26, y ≤ reachBytes) :
    ∃ (N : NoteP) (P Q R : Value), v = noteV N P Q R ∧ NoteAt W N P Q R ∧ NoteFits N := by
  obtain ⟨fuel, hf⟩ := hd
  obtain ⟨N, P, Q, R, ⟨hl, hc⟩, h1, h2⟩ := note_cells hf hw
  simp only [Value.okWide, Tryd.underlying26] at hval
  obtain ⟨X, rfl, -, _⟩ := hval
  simp only [Value.cells] at hl hc
  exact ⟨N, P, Q, R, by unfold noteV; rw [eq_cellsOf (n := 38) (c := X) (f := noteF N P Q R) (by simpa using hl) (fun i hi => by rw [← Array.getElem?_toList]; exact hc i hi)], h1, h2⟩
theorem notes_in {r : Reach} {b0 : Nat} {v : Value} {d : DataW H} {ps : List MemPlace} (hval : Value.okWide Tryd.prog W r b0 27 v) (hd : DataW.Trod enc Tryd.prog W 0 (fun _ => true) true 27 v d ps) (hw : ∀ y ∈ d.weights Tryd.prog 27, y ≤ reachBytes) :
    ∃ (N M : NoteP) (P Q R P' Q' R' : Value), v = .agg (cellsOf 76 (pairF (noteF N P Q R) (noteF M P' Q' R'))) ∧ NoteAt W N P Q R ∧ NoteFits N ∧ NoteAt W M P' Q' R' ∧ NoteFits M := by
  obtain ⟨fuel, hf⟩ := hd
  obtain ⟨xs, m, _, hx, hl, hlen, hfi⟩ := DataW.trod_array Tryd.underlying27 hf
  rw [show Tryd.prog.cellsOf 27 = 76 by kernel_rfl] at hl
  have hC : Tryd.prog.cellsOf 26 = 38 := by kernel_rfl
  match xs, hlen with
  | [y0, y1], _ =>
    have g0 := hfi 0 (by omega)
    have g1 := hfi 1 (by omega)
    rw [hC] at g0 g1
    simp only [Prod.mk.injEq] at hx
    have hw' : ∀ z, (z = y0.1 ∨ z = y1.1) → ∀ y ∈ z.weights Tryd.prog 26, y ≤ reachBytes := fun z hz y hy => by
      refine hw y ?_
      rw [hx.1]
      simp only [DataW.weights, Tryd.underlying27]
      exact weights_mem _ _ _ z (by rcases hz with rfl | rfl <;> simp) y hy
    obtain ⟨N, P, Q, R, ⟨hl0, hc0⟩, h1, h2⟩ := note_cells (x := y0) g0 (hw' _ (.inl rfl))
    obtain ⟨M, P', Q', R', ⟨hl1, hc1⟩, h3, h4⟩ := note_cells (x := y1) g1 (hw' _ (.inr rfl))
    simp only [Value.okWide, Tryd.underlying27] at hval
    obtain ⟨X, rfl, -, _⟩ := hval
    simp only [Value.cells] at hl hc0 hc1
    refine ⟨N, M, P, Q, R, P', Q', R', ?_, h1, h2, h3, h4⟩
    rw [eq_cellsOf (n := 76) (c := X) (f := pairF (noteF N P Q R) (noteF M P' Q' R')) (by simpa using hl) (fun i hi => ?_)]
    rw [← Array.getElem?_toList]
    unfold pairF
    by_cases h38 : i < 38
    · rw [if_pos h38]
      have := at_take (hc0 i h38)
      rw [show 0 * 38 + i = i by omega] at this
      exact this
    · rw [if_neg h38]
      have := at_take (hc1 (i - 38) (by omega))
      rw [show 1 * 38 + (i - 38) = i by omega] at this
      exact this
end
end Go.Proofs.YtagehbeliifbkaaDoor.Note
