/-
  One span of a slice of the call's own, set; spans that agree where they are asked; nine cells of a walk's memory.
-/
import Derived.Test.YtmkmmpmhbahmeaaOwnSpans
import Derived.Test.YtmkmmpmhbahmeaaMem
import Derived.Laws.OwnMore
import Derived.Deep.AppendLies
namespace Go.Proofs.Ytmkmmpmhbahmeaa.Sweep
open Go Go.RowKit Go.Proofs.Ytmkmmpmhbahmeaa.Aid Go.Proofs.Ytmkmmpmhbahmeaa.Span

theorem cells2_congr {e f : Nat → Int × Int} : ∀ n, (∀ i, i < n → e i = f i) → cells2 e n = cells2 f n
  | 0, _ => rfl
  | n + 1, h => by
    show cells2 e n ++ _ = cells2 f n ++ _
    rw [cells2_congr n (fun i hi => h i (by omega)), h n (by omega)]
theorem OwnS.congr {w : World} {base n : Nat} {e f : Nat → Int × Int} {v : Value} (h : OwnS w base n e v) (hf : ∀ i, i < n → e i = f i) : OwnS w base n f v := by
  unfold OwnS at *
  rw [← cells2_congr n hf]
  exact h
/-- The k-th span is another. -/
def putE (e : Nat → Int × Int) (k : Nat) (s : Int × Int) (i : Nat) : Int × Int := if i = k then s else e i
theorem cells2_set (e : Nat → Int × Int) (n k : Nat) (hk : k < n) (s : Int × Int) : ((cells2 e n).set (k * 2) (.int .i64 s.1)).set (k * 2 + 1) (.int .i64 s.2) = cells2 (putE e k s) n := by
  refine List.ext_getElem? fun j => ?_
  have hl := length_cells2 e n
  have hl' := length_cells2 (putE e k s) n
  by_cases hj : j < n * 2
  · obtain ⟨i, hi⟩ : ∃ i, j = i * 2 ∨ j = i * 2 + 1 := ⟨j / 2, by omega⟩
    have hin : i < n := by omega
    have a := cells2_at e n i hin
    have b := cells2_at (putE e k s) n i hin
    rw [List.getElem?_set, List.getElem?_set, List.length_set, hl]
    rcases hi with rfl | rfl
    · rw [if_neg (by omega), b.1]
      by_cases h : i = k
      · subst h
        rw [if_pos rfl, if_pos (by omega)]
        unfold putE
        rw [if_pos rfl]
      · rw [if_neg (by omega), a.1]
        unfold putE
        rw [if_neg h]
    · rw [b.2]
      by_cases h : i = k
      · subst h
        rw [if_pos rfl, if_pos (by omega)]
        unfold putE
        rw [if_pos rfl]
      · rw [if_neg (by omega), if_neg (by omega), a.2]
        unfold putE
        rw [if_neg h]
  · rw [List.getElem?_eq_none (by simp [hl]; omega), List.getElem?_eq_none (by omega)]
theorem OwnS.put {w : World} {base n g cap : Nat} {e : Nat → Int × Int} (h : OwnS w base n e (.slice (some ⟨g, 0, none⟩) n cap)) (k : Nat) (hk : k < n) (s : Int × Int) :
    OwnS ((w.setCell ⟨g, k * 2, none⟩ (.int .i64 s.1)).setCell ⟨g, k * 2 + 1, none⟩ (.int .i64 s.2)) base n (putE e k s) (.slice (some ⟨g, 0, none⟩) n cap) := by
  unfold OwnS at *
  rw [← cells2_set e n k hk s]
  exact ((h.stored (k * 2) (.int .i64 s.1)).1.stored (k * 2 + 1) (.int .i64 s.2)).1
theorem OwnS.at_ {w : World} {base n g cap : Nat} {e : Nat → Int × Int} (h : OwnS w base n e (.slice (some ⟨g, 0, none⟩) n cap)) (k : Nat) (hk : k < n) :
    w.cell? ⟨g, k * 2, none⟩ = some (.int .i64 (e k).1) ∧ w.cell? ⟨g, k * 2 + 1, none⟩ = some (.int .i64 (e k).2) ∧ w.frozen? ⟨g, k * 2, none⟩ = false ∧ w.frozen? ⟨g, k * 2 + 1, none⟩ = false := by
  have a := cells2_at e n k hk
  refine ⟨?_, ?_, World.ownsRow.frozenAt h _, World.ownsRow.frozenAt h _⟩
  · rw [World.ownsRow.cellAt h (k * 2) (by omega)]; exact a.1
  · rw [World.ownsRow.cellAt h (k * 2 + 1) (by omega)]; exact a.2
theorem OwnS.form {w : World} {base n : Nat} {e : Nat → Int × Int} {v : Value} (h : OwnS w base n e v) (hn : 0 < n) : ∃ g cap, v = .slice (some ⟨g, 0, none⟩) n cap ∧ base ≤ g ∧ g < w.heap.size := World.ownsRow.form h hn
theorem OwnS.shape {w : World} {base n : Nat} {e : Nat → Int × Int} {v : Value} (h : OwnS w base n e v) : ∃ A cap, v = .slice A n cap := by
  rcases h.2 with ⟨hv, h0⟩ | ⟨g, cap, cur, hv, _⟩
  · exact ⟨none, 0, by rw [hv, h0]⟩
  · exact ⟨_, _, hv⟩
end Go.Proofs.Ytmkmmpmhbahmeaa.Sweep
namespace Go.Proofs.Ytmkmmpmhbahmeaa.Aid
open Go Go.RowKit
theorem Mem.nine {w W : World} {l : List (Nat × Nat × Value)} (h : Mem w l W) (v0 v1 v2 v3 v4 v5 v6 v7 v8 : Value) (t : TypeId) (g : Nat) (hg : W.heap.size = g) : Mem w ((g, 0, v0) :: (g, 1, v1) :: (g, 2, v2) :: (g, 3, v3) :: (g, 4, v4) :: (g, 5, v5) :: (g, 6, v6) :: (g, 7, v7) :: (g, 8, v8) :: l) (W.alloc (.cells #[v0, v1, v2, v3, v4, v5, v6, v7, v8] t)) := by
  subst hg
  exact h.alloc #[v0, v1, v2, v3, v4, v5, v6, v7, v8] t 9 (by simp)
end Go.Proofs.Ytmkmmpmhbahmeaa.Aid
