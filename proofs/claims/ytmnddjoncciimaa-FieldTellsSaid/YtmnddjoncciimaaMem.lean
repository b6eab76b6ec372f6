/-
  What a walk still wants of memory, as one fact that is carried over calls: cells with what they hold; whose memory was there first stays.
-/
import Derived.Test.YtmnddjoncciimaaAfter
namespace Go.Proofs.Ytmnddjoncciimaa.Aid
open Go Go.RowKit

/-- Behind w nothing that was there has turned, and these cells hold these values. -/
def Mem (w : World) (l : List (Nat × Nat × Value)) (W : World) : Prop := Below w.heap.size w W ∧ ∀ x ∈ l, x.1 < W.heap.size ∧ W.cell? ⟨x.1, x.2.1, none⟩ = some x.2.2
theorem Mem.below {w W : World} {l : List (Nat × Nat × Value)} (h : Mem w l W) : Below w.heap.size w W := h.1
theorem Mem.nil (w : World) : Mem w [] w := ⟨Below.refl _ _, by simp⟩
theorem Mem.step {w W W' : World} {l : List (Nat × Nat × Value)} (h : Mem w l W) (hb : Below W.heap.size W W') : Mem w l W' :=
  ⟨h.1.trans (hb.mono h.1.size), fun x hx => ⟨Nat.lt_of_lt_of_le (h.2 x hx).1 hb.size, (hb.cell (p := ⟨x.1, x.2.1, none⟩) (h.2 x hx).1).trans (h.2 x hx).2⟩⟩
theorem Mem.at_ {w W : World} {l : List (Nat × Nat × Value)} (h : Mem w l W) (i : Nat) {g o : Nat} {v : Value} (hi : l[i]? = some (g, o, v)) : W.cell? ⟨g, o, none⟩ = some v := (h.2 _ (List.mem_of_getElem? hi)).2
theorem Mem.lt {w W : World} {l : List (Nat × Nat × Value)} (h : Mem w l W) (i : Nat) {g o : Nat} {v : Value} (hi : l[i]? = some (g, o, v)) : g < W.heap.size := (h.2 _ (List.mem_of_getElem? hi)).1
/-- A block that was made. -/
theorem Mem.alloc {w W : World} {l : List (Nat × Nat × Value)} (h : Mem w l W) (C : Array Value) (t : TypeId) (n : Nat) (hn : n ≤ C.size) : Mem w ((List.range n).map (fun i => (W.heap.size, i, C.getD i undef)) ++ l) (W.alloc (.cells C t)) := by
  have hs := h.step (((Below.refl _ W).alloc (Nat.le_refl _) (.cells C t)))
  refine ⟨hs.1, fun x hx => ?_⟩
  rcases List.mem_append.1 hx with hx | hx
  · obtain ⟨i, hi, rfl⟩ := List.mem_map.1 hx
    have hi' := List.mem_range.1 hi
    refine ⟨by simp, ?_⟩
    have hr := row_new W C t C.size (fun i => C.getD i undef) rfl (fun i hi => by simp [Array.getD, hi])
    exact hr.cell (i := i) (by omega)
  · exact hs.2 x hx
theorem Mem.two {w W : World} {l : List (Nat × Nat × Value)} (h : Mem w l W) (u v : Value) (t : TypeId) (g : Nat) (hg : W.heap.size = g) : Mem w ((g, 0, u) :: (g, 1, v) :: l) (W.alloc (.cells #[u, v] t)) := by
  subst hg
  exact h.alloc #[u, v] t 2 (by simp)
theorem Mem.five {w W : World} {l : List (Nat × Nat × Value)} (h : Mem w l W) (v0 v1 v2 v3 v4 : Value) (t : TypeId) (g : Nat) (hg : W.heap.size = g) : Mem w ((g, 0, v0) :: (g, 1, v1) :: (g, 2, v2) :: (g, 3, v3) :: (g, 4, v4) :: l) (W.alloc (.cells #[v0, v1, v2, v3, v4] t)) := by
  subst hg
  exact h.alloc #[v0, v1, v2, v3, v4] t 5 (by simp)
/-- Two cells of a row of two. -/
theorem Mem.row {w W : World} {l : List (Nat × Nat × Value)} (h : Mem w l W) {g t : Nat} {f : Nat → Value} (hr : W.rowIs g t 2 f) : Mem w ((g, 0, f 0) :: (g, 1, f 1) :: l) W := by
  refine ⟨h.1, fun x hx => ?_⟩
  rcases List.mem_cons.1 hx with rfl | hx
  · exact ⟨hr.lt, hr.cell (i := 0) (by omega)⟩
  · rcases List.mem_cons.1 hx with rfl | hx
    · exact ⟨hr.lt, hr.cell (i := 1) (by omega)⟩
    · exact h.2 x hx
end Go.Proofs.Ytmnddjoncciimaa.Aid
