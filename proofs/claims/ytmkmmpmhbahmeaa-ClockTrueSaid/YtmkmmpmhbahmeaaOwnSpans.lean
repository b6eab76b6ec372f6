/-
  A slice of spans that the call itself makes by append.
-/
import Derived.Test.YtmkmmpmhbahmeaaProg
import Derived.Test.YtmkmmpmhbahmeaaSpansAt
import Derived.Maps.AppendAt
namespace Go.Proofs.Ytmkmmpmhbahmeaa.Sweep
open Go Go.RowKit Go.Proofs.Ytmkmmpmhbahmeaa.Aid Go.Proofs.Ytmkmmpmhbahmeaa.Span

def cells2 (e : Nat → Int × Int) : Nat → List Value
  | 0 => []
  | n + 1 => cells2 e n ++ [.int .i64 (e n).1, .int .i64 (e n).2]
theorem length_cells2 (e : Nat → Int × Int) : ∀ n, (cells2 e n).length = n * 2
  | 0 => rfl
  | n + 1 => by simp [cells2, length_cells2 e n]; omega
theorem cells2_at (e : Nat → Int × Int) : ∀ n i, i < n → (cells2 e n)[i * 2]? = some (.int .i64 (e i).1) ∧ (cells2 e n)[i * 2 + 1]? = some (.int .i64 (e i).2)
  | 0, i, h => by omega
  | n + 1, i, h => by
    have hl := length_cells2 e n
    show (cells2 e n ++ _)[i * 2]? = _ ∧ (cells2 e n ++ _)[i * 2 + 1]? = _
    by_cases h1 : i < n
    · rw [List.getElem?_append_left (by omega), List.getElem?_append_left (by omega)]
      exact cells2_at e n i h1
    · obtain rfl : i = n := by omega
      rw [List.getElem?_append_right (by omega), List.getElem?_append_right (by omega), hl, Nat.sub_self, Nat.add_sub_cancel_left]
      exact ⟨rfl, rfl⟩
/-- The call's own slice of n spans. -/
def OwnS (w : World) (base n : Nat) (e : Nat → Int × Int) (v : Value) : Prop := w.ownsRow base 23 2 v n (cells2 e n)
theorem OwnS.spans {w : World} {base n : Nat} {e : Nat → Int × Int} {v : Value} (h : OwnS w base n e v) : SpansAt w w.heap.size n e v := by
  rcases h.2 with ⟨rfl, h0⟩ | ⟨g, cap, cur, rfl, hb, hg, hn, hm, hs, ht⟩
  · exact ⟨none, 0, by rw [h0], fun h1 => by omega⟩
  · refine ⟨_, cap, rfl, fun _ => ⟨g, 0, rfl, (Array.getElem?_eq_some_iff.1 hg).1, fun i hi => ?_⟩⟩
    have hx := cells2_at e n i hi
    have hc := World.ownsRow.cells h (g := g) rfl
    have a1 := hc _ _ hx.1
    have a2 := hc _ _ hx.2
    have hadd : ∀ j, (⟨g, 0, none⟩ : Addr).add j = ⟨g, j, none⟩ := fun j => by unfold Addr.add; split <;> simp_all
    rw [hadd] at a1 a2
    rw [Nat.zero_add]
    exact ⟨a1, a2⟩
theorem OwnS.keep {w w' : World} {base n : Nat} {e : Nat → Int × Int} {v : Value} (h : OwnS w base n e v) (hk : ∀ b, v.ownBlock = some b → w'.heap[b]? = w.heap[b]?) : OwnS w' base n e v := by
  refine ⟨h.1, ?_⟩
  rcases h.2 with h0 | ⟨g, cap, cur, rfl, hb, hg, rest⟩
  · exact .inl h0
  · exact .inr ⟨g, cap, cur, rfl, hb, (hk g rfl).trans hg, rest⟩
theorem OwnS.below {w w' : World} {base n : Nat} {e : Nat → Int × Int} {v : Value} (h : OwnS w base n e v) (hb : Below w.heap.size w w') : OwnS w' base n e v := h.keep (fun b hv => hb.block b (World.ownsRow.lt h b hv).2)
theorem OwnS.lt {w : World} {base n : Nat} {e : Nat → Int × Int} {v : Value} (h : OwnS w base n e v) : ∀ b, v.ownBlock = some b → base ≤ b ∧ b < w.heap.size := World.ownsRow.lt h
theorem info_span : (Try.prog.info? 23).map (fun i => (i.zero, i.size, i.bytes)) = some (some (.agg #[.int .i64 0, .int .i64 0]), 2, 16) := by kernel_rfl
section
variable {w : World} {ops : Array Oper} {rest : List Oper} {op : Oper} {a : Act} {Q : Exit → Act → World → Prop}
/-- 'append(v, x)', v the call's own, x one span. -/
theorem append_span (hgd : op.guard = none) (s x : Operand) (ho : op.op = .call { callee := .builtin .append, args := #[s, x], argTypes := #[26, 26] })
    (base n : Nat) (e : Nat → Int × Int) (v : Value) (hs : a.eval s = v) (hown : OwnS w base n e v) (sb c : Nat) (hx : a.eval x = .slice (some ⟨sb, 0, none⟩) 1 c)
    (h0 : w.cell? ⟨sb, 0, none⟩ = some (.int .i64 (e n).1)) (h1 : w.cell? ⟨sb, 1, none⟩ = some (.int .i64 (e n).2)) (hn : n ≤ 1000000) (hbase : base ≤ w.heap.size)
    (hK : ∀ v' w', OwnS w' base (n + 1) e v' → w.grownBy w' v.ownBlock → wpList Try.prog ops Q rest (a.put op.dst v') w') : wpList Try.prog ops Q (op :: rest) a w := by
  obtain ⟨i, hi, hz⟩ := Option.map_eq_some_iff.1 info_span
  simp only [Prod.mk.injEq] at hz
  refine wpList_append_own_at w hgd s x 26 ho base 23 i (.agg #[.int .i64 0, .int .i64 0]) 2 16 Try.underlying26 hi hz.1 hz.2.1 hz.2.2 rfl (by omega) v n _ hs hown ⟨sb, 0, none⟩ 1 c [.int .i64 (e n).1, .int .i64 (e n).2] hx rfl ?_ ?_ (by simp only [maxLen]; omega) (by omega) hbase ?_
  · intro j u hu
    have hadd : ∀ j, (⟨sb, 0, none⟩ : Addr).add j = ⟨sb, j, none⟩ := fun j => by unfold Addr.add; split <;> simp_all
    rw [hadd]
    match j, hu with
    | 0, hu => simp at hu; rw [← hu]; exact h0
    | 1, hu => simp at hu; rw [← hu]; exact h1
  · intro u hu
    simp at hu
    rcases hu with rfl | rfl <;> rfl
  · intro v' w' h2 h3 _ h4
    exact hK v' w' h2 h3
end
end Go.Proofs.Ytmkmmpmhbahmeaa.Sweep
