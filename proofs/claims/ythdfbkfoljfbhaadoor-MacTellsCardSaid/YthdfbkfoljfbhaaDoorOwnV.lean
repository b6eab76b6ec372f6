/-
  A row that a call itself has gathered by append, of whatever one-cell elements: what append does to it.
-/
import Derived.Test.YthdfbkfoljfbhaaDoorAid
import Derived.Maps.AppendAt
namespace Go.Proofs.YthdfbkfoljfbhaaDoor.Aid
open Go Go.RowKit

/-- v holds m elements of type T, by their index f, in a row of the call's own, from block 'base' on. -/
def OwnV (w : World) (base T m : Nat) (f : Nat → Value) (v : Value) : Prop := w.ownsRow base T 1 v m ((List.range m).map f)
section
variable {w w' : World} {base T m : Nat} {f : Nat → Value} {v : Value}
theorem OwnV.form (h : OwnV w base T m f v) (hm : 0 < m) :
    ∃ g cap cur, v = .slice (some ⟨g, 0, none⟩) m cap ∧ base ≤ g ∧ g < w.heap.size ∧ m ≤ cap ∧ w.heap[g]? = some (.cells cur T (0, 0)) ∧ ∀ j, j < m → w.cell? ⟨g, j, none⟩ = some (f j) := by
  obtain ⟨h1, h2⟩ := h
  rcases h2 with h2 | ⟨g, cap, cur, hv, hg, hh, hn, hc, hs, ht⟩
  · omega
  · refine ⟨g, cap, cur, hv, hg, ?_, hn, hh, fun j hj => ?_⟩
    · rcases Nat.lt_or_ge g w.heap.size with hlt | hge
      · exact hlt
      · rw [Array.getElem?_eq_none hge] at hh; cases hh
    · have hx := congrArg (fun l => l[j]?) ht
      simp only [Nat.mul_one, List.getElem?_take_of_lt hj, Array.getElem?_toList] at hx
      rw [cell_of_row w g j cur _ _ hh, hx]
      simp [hj]
theorem OwnV.keep (h : OwnV w base T m f v) (hk : ∀ b, v.ownBlock = some b → w'.heap[b]? = w.heap[b]?) : OwnV w' base T m f v := by
  obtain ⟨h1, h2⟩ := h
  refine ⟨h1, ?_⟩
  rcases h2 with h2 | ⟨g, cap, cur, hv, hg, hh, r⟩
  · exact .inl h2
  · subst hv
    exact .inr ⟨g, cap, cur, rfl, hg, (hk g rfl).trans hh, r⟩
theorem OwnV.lt (h : OwnV w base T m f v) {b : Nat} (hb : v.ownBlock = some b) : base ≤ b ∧ b < w.heap.size := by
  obtain ⟨h1, h2⟩ := h
  rcases h2 with ⟨rfl, _⟩ | ⟨g, cap, cur, rfl, hg, hh, _⟩
  · cases hb
  · have : g = b := by simpa [Value.ownBlock] using hb
    subst this
    refine ⟨hg, ?_⟩
    rcases Nat.lt_or_ge g w.heap.size with hlt | hge
    · exact hlt
    · rw [Array.getElem?_eq_none hge] at hh; cases hh
theorem OwnV.below (h : OwnV w base T m f v) (hb : Below w.heap.size w w') : OwnV w' base T m f v := h.keep (fun _ hv => hb.block _ (h.lt hv).2)
theorem OwnV.congr {f' : Nat → Value} (h : OwnV w base T m f v) (e : ∀ j, j < m → f j = f' j) : OwnV w base T m f' v := by
  unfold OwnV at h ⊢
  rw [← List.map_congr_left (fun j hj => e j (List.mem_range.1 hj))]
  exact h
theorem OwnV.nil (w : World) (base T : Nat) (f : Nat → Value) : OwnV w base T 0 f (.slice none 0 0) := World.ownsRow_nil _ _ _ _
theorem OwnV.empty (w : World) (T : Nat) (f : Nat → Value) : OwnV (w.alloc (.cells #[] T)) w.heap.size T 0 f (.slice (some ⟨w.heap.size, 0, none⟩) 0 0) :=
  World.ownsRow_made w #[] 0 (Nat.le_refl _) (by simp [maxLen]) (by simp)
end
theorem map_snoc (f : Nat → Value) (n m : Nat) (g : Nat → Value) (h : ∀ i, i < m → g i = f (n + i)) : (List.range n).map f ++ (List.range m).map g = (List.range (n + m)).map f := by
  apply List.ext_getElem?
  intro j
  by_cases hj : j < n
  · rw [List.getElem?_append_left (by simpa using hj)]
    simp [hj, show j < n + m by omega]
  · rw [List.getElem?_append_right (by simp; omega)]
    by_cases h2 : j < n + m
    · simp [h2, show j - n < m by omega, h (j - n) (by omega), show n + (j - n) = j by omega]
    · simp [h2, show ¬ j - n < m by omega]

section
variable {P : Program} {w : World} {ops : Array Oper} {rest : List Oper} {op : Oper} {a : Act} {Q : Exit → Act → World → Prop}
/-- 'append(v, x...)': the new elements continue f. -/
theorem append_more (hgd : op.guard = none) (s x : Operand) (t T : TypeId) (ho : op.op = .call { callee := .builtin .append, args := #[s, x], argTypes := #[t, t] }) (ht : P.underlying t = some (.slice T))
    (z : Value) (bytes : Nat) (hinfo : (P.info? T).map (fun i => (i.zero, i.size, i.bytes)) = some (some z, 1, bytes)) (hz1 : z.cells.size = 1) (hby : bytes ≤ 8)
    (base n : Nat) (f : Nat → Value) (v : Value) (hs : a.eval s = v) (hown : OwnV w base T n f v) (sb so m c : Nat) (hx : a.eval x = .slice (some ⟨sb, so, none⟩) m c)
    (hc : ∀ j, j < m → w.cell? ⟨sb, so + j, none⟩ = some (f (n + j))) (h1 : ∀ j, j < m → (f (n + j)).oneCell' = true) (hnm : n + m ≤ 1000000000) (hbase : base ≤ w.heap.size)
    (hK : ∀ v' w', OwnV w' base T (n + m) f v' → w.grownBy w' v.ownBlock → (v'.ownBlock = v.ownBlock ∨ v'.ownBlock = some w.heap.size) → wpList P ops Q rest (a.put op.dst v') w') : wpList P ops Q (op :: rest) a w := by
  obtain ⟨i, hi, hz⟩ := Option.map_eq_some_iff.1 hinfo
  simp only [Prod.mk.injEq] at hz
  refine wpList_append_own_at w hgd s x t ho base T i z 1 bytes ht hi hz.1 hz.2.1 hz.2.2 hz1 (by omega) v n _ hs hown ⟨sb, so, none⟩ m c ((List.range m).map fun j => f (n + j)) hx (by simp) ?_ ?_ (by simp only [maxLen]; omega) ?_ hbase ?_
  · intro j y hy
    have hj : j < m := by have := (List.getElem?_eq_some_iff.1 hy).1; simpa using this
    rw [Addr.add_mid, hc j hj, ← hy]
    simp [hj]
  · intro y hy
    obtain ⟨j, hj, rfl⟩ := List.mem_map.1 hy
    exact h1 j (List.mem_range.1 hj)
  · have : (n + m) * bytes ≤ 1000000000 * 8 := Nat.mul_le_mul hnm hby
    omega
  · intro v' w' h2 h3 _ h4
    rw [map_snoc f n m _ (fun _ _ => rfl)] at h2
    exact hK v' w' h2 h3 h4
end
end Go.Proofs.YthdfbkfoljfbhaaDoor.Aid
