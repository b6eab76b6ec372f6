/-
  'make([]byte, n)': the call's own bytes; a byte of them set.
-/
import Derived.Test.YtpnkcacmmjmehaaDoorOwnSet
import Derived.Laws.OwnMore
import Derived.WalkMore
import Derived.WalkSmall
namespace Go.Proofs.YtpnkcacmmjmehaaDoor.Aid
open Go Go.RowKit

theorem own_of_row {w : World} {g base n : Nat} {f : Nat → BitVec 8} (h : w.rowIs g 5 n (fun j => .int .u8 ((f j).toNat : Int))) (hb : base ≤ g) (hn : n ≤ 1099511627776) : Own w base n f (.slice (some ⟨g, 0, none⟩) n n) :=
  ⟨by simp, .inr ⟨g, n, cellsOf n (fun j => .int .u8 ((f j).toNat : Int)), rfl, hb, row_heap h, Nat.le_refl _, by simp only [maxLen]; omega, by simp [size_cellsOf], by simp only [cellsOf, Nat.mul_one]; exact List.take_of_length_le (by simp)⟩⟩
theorem own_put {w : World} {base m g cap : Nat} {e : Nat → BitVec 8} (h : Own w base m e (.slice (some ⟨g, 0, none⟩) m cap)) (k : Nat) (hk : k < m) (x : BitVec 8) (z : Int) (hz : z = (x.toNat : Int)) :
    Own (w.setCell ⟨g, k, none⟩ (.int .u8 z)) base m (setAt e k x) (.slice (some ⟨g, 0, none⟩) m cap) := by
  have := (World.ownsRow.stored h k (.int .u8 z)).1
  unfold Own
  have he : (List.range m).map (fun i => Value.int .u8 ((setAt e k x i).toNat : Int)) = ((List.range m).map fun i => Value.int .u8 ((e i).toNat : Int)).set k (.int .u8 z) := by
    refine List.ext_getElem? fun j => ?_
    rw [List.getElem?_set]
    simp only [List.length_map, List.length_range, List.getElem?_map]
    by_cases h1 : k = j
    · subst h1
      rw [if_pos rfl, if_pos hk, List.getElem?_range hk]
      simp [setAt, hz]
    · rw [if_neg h1]
      by_cases h2 : j < m
      · rw [List.getElem?_range h2]
        simp [setAt, show ¬ j = k from fun h => h1 h.symm]
      · rw [List.getElem?_eq_none (by simp; omega)]
        rfl
  rw [he]
  exact this
theorem own_at {w : World} {base m g cap : Nat} {e : Nat → BitVec 8} (h : Own w base m e (.slice (some ⟨g, 0, none⟩) m cap)) (k : Nat) (hk : k < m) :
    w.cell? ⟨g, k, none⟩ = some (.int .u8 ((e k).toNat : Int)) ∧ w.frozen? ⟨g, k, none⟩ = false := by
  refine ⟨?_, World.ownsRow.frozenAt h _⟩
  rw [World.ownsRow.cellAt h k (by omega)]
  simp [hk]
section
variable {w : World} {ops : Array Oper} {rest : List Oper} {op : Oper} {a : Act} {Q : Exit → Act → World → Prop}
/-- 'make([]byte, n)'. -/
theorem make_own (hgd : op.guard = none) (l c : Operand) (ho : op.op = .makeSlice 35 l c) (kl kc : IntKind) (n : Nat) (hl : a.eval l = .int kl (n : Int)) (hc : a.eval c = .int kc (n : Int)) (hn : n ≤ 1099511627776)
    (hK : ∀ w', Own w' w.heap.size n (fun _ => 0) (.slice (some ⟨w.heap.size, 0, none⟩) n n) → Below w.heap.size w w' → wpList Tryd.prog ops Q rest (a.put op.dst (.slice (some ⟨w.heap.size, 0, none⟩) n n)) w') : wpList Tryd.prog ops Q (op :: rest) a w := by
  obtain ⟨i5, hi5, hz5⟩ := Option.map_eq_some_iff.1 info_u8
  simp only [Prod.mk.injEq] at hz5
  refine wpList_make_row w hgd l c 35 ho 5 i5 (.int .u8 0) Tryd.underlying35 hi5 hz5.1 hz5.2.1 (by rfl) kl kc n hl hc (by rw [hz5.2.2]; omega) (by omega) ?_
  refine hK _ (own_of_row (f := fun _ => 0) (row_new w _ _ n _ (by simp [madeCells]) (fun j hj => ?_)) (Nat.le_refl _) hn) ((Below.refl _ _).alloc (Nat.le_refl _) _)
  simp [madeCells, hj, Nat.mod_one]
end
end Go.Proofs.YtpnkcacmmjmehaaDoor.Aid
