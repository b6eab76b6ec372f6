/-
  A slice of letters of the call's own, three cells each: append of letters to it.
-/
import Derived.Test.YtefghgoeppfpfaaRefTake12
import Derived.Maps.AppendAt
import Derived.Laws.AppendOwnNone
namespace Go.Proofs.Ytefghgoeppfpfaa.Net
open Go Go.RowKit Go.Proofs.Ytefghgoeppfpfaa.Aid Go.Proofs.Ytefghgoeppfpfaa.Cache

def zeroV : Value := .agg #[.string ⟨#[]⟩, .string ⟨#[]⟩, .slice none 0 0]
def OwnL (W : World) (base k : Nat) (v : Value) (ys : List Value) : Prop := W.ownsRow base 39 3 v k ys
theorem info_let : (Try.prog.info? 39).map (fun i => (i.zero, i.size, i.bytes)) = some (some zeroV, 3, 56) := by kernel_rfl
theorem OwnL.keep {w w' : World} {base k : Nat} {v : Value} {ys : List Value} (h : OwnL w base k v ys) (hk : ∀ b, v.ownBlock = some b → w'.heap[b]? = w.heap[b]?) : OwnL w' base k v ys := by
  refine ⟨h.1, ?_⟩
  rcases h.2 with h0 | ⟨g, cap, cur, rfl, hb, hg, rest⟩
  · exact .inl h0
  · exact .inr ⟨g, cap, cur, rfl, hb, (hk g rfl).trans hg, rest⟩
theorem OwnL.lt {w : World} {base k : Nat} {v : Value} {ys : List Value} (h : OwnL w base k v ys) : ∀ b, v.ownBlock = some b → base ≤ b ∧ b < w.heap.size := World.ownsRow.lt h
theorem OwnL.below {w w' : World} {base k : Nat} {v : Value} {ys : List Value} (h : OwnL w base k v ys) (hb : Below w.heap.size w w') : OwnL w' base k v ys := h.keep (fun b hv => hb.block b (h.lt b hv).2)
theorem OwnL.lower {w : World} {base base' k : Nat} {v : Value} {ys : List Value} (h : OwnL w base k v ys) (hb : base' ≤ base) : OwnL w base' k v ys := by
  refine ⟨h.1, ?_⟩
  rcases h.2 with h0 | ⟨g, cap, cur, rfl, hB, hg, rest⟩
  · exact .inl h0
  · exact .inr ⟨g, cap, cur, rfl, by omega, hg, rest⟩
theorem OwnL.empty (w : World) : OwnL (w.alloc (.cells #[] 39)) w.heap.size 0 (.slice (some ⟨w.heap.size, 0, none⟩) 0 0) [] :=
  World.ownsRow_made w #[] 0 (Nat.le_refl _) (by simp [maxLen]) (by simp)
theorem OwnL.shape {w : World} {base k : Nat} {v : Value} {ys : List Value} (h : OwnL w base k v ys) : ∃ A cap, v = .slice A k cap ∧ k ≤ cap ∧ (0 < k → ∃ g, A = some ⟨g, 0, none⟩ ∧ base ≤ g ∧ g < w.heap.size ∧ v.ownBlock = some g ∧ ∀ i u, ys[i]? = some u → w.cell? ⟨g, i, none⟩ = some u) := by
  rcases h.2 with ⟨hv, h0⟩ | ⟨g, cap, cur, rfl, hb, hg, hn, rest⟩
  · exact ⟨none, 0, by rw [hv, h0], by omega, fun h1 => by omega⟩
  · refine ⟨_, cap, rfl, hn, fun _ => ⟨g, rfl, hb, (Array.getElem?_eq_some_iff.1 hg).1, rfl, fun i u hi => ?_⟩⟩
    have := World.ownsRow.cells h (g := g) rfl i u hi
    have hadd : ∀ j, (⟨g, 0, none⟩ : Addr).add j = ⟨g, j, none⟩ := fun j => by unfold Addr.add; split <;> simp_all
    rwa [hadd] at this
section
variable {w : World} {ops : Array Oper} {rest : List Oper} {op : Oper} {a : Act} {Q : Exit → Act → World → Prop}
theorem append_lets (hgd : op.guard = none) (s x : Operand) (ho : op.op = .call { callee := .builtin .append, args := #[s, x], argTypes := #[47, 47] })
    (base k : Nat) (ys : List Value) (v : Value) (hs : a.eval s = v) (hown : OwnL w base k v ys) (A : Option Addr) (m c : Nat) (news : List Value) (hx : a.eval x = .slice A m c) (hm : news.length = m * 3)
    (hnews : 0 < m → ∃ g o, A = some ⟨g, o, none⟩ ∧ ∀ j u, news[j]? = some u → w.cell? ⟨g, o + j, none⟩ = some u) (h1 : ∀ u ∈ news, u.oneCell' = true) (hn : k + m ≤ 1000000) (hbase : base ≤ w.heap.size)
    (hK : ∀ v' w', OwnL w' base (k + m) v' (ys ++ news) → w.grownBy w' v.ownBlock → (v'.ownBlock = v.ownBlock ∨ v'.ownBlock = some w.heap.size) → wpList Try.prog ops Q rest (a.put op.dst v') w') : wpList Try.prog ops Q (op :: rest) a w := by
  obtain ⟨i, hi, hz⟩ := Option.map_eq_some_iff.1 info_let
  simp only [Prod.mk.injEq] at hz
  have fin : ∀ ad : Addr, A = some ad → (∀ j u, news[j]? = some u → w.cell? (ad.add j) = some u) → wpList Try.prog ops Q (op :: rest) a w := fun ad hA hc => by
    subst hA
    refine wpList_append_own_at w hgd s x 47 ho base 39 i zeroV 3 56 Try.underlying47 hi hz.1 hz.2.1 hz.2.2 rfl (by omega) v k _ hs hown ad m c news hx hm hc h1 (by simp only [maxLen]; omega) (by omega) hbase ?_
    intro v' w' h2 h3 _ h4
    exact hK v' w' h2 h3 h4
  by_cases h0 : 0 < m
  · obtain ⟨g, o, hA, hc⟩ := hnews h0
    refine fin _ hA (fun j u hj => ?_)
    rw [show (⟨g, o, none⟩ : Addr).add j = ⟨g, o + j, none⟩ from by unfold Addr.add; split <;> simp_all]
    exact hc j u hj
  · obtain rfl : m = 0 := by omega
    obtain rfl : news = [] := List.eq_nil_of_length_eq_zero (by simpa using hm)
    cases A with
    | some ad => exact fin ad rfl (fun j u hj => by simp at hj)
    | none =>
      refine wpList_plain hgd fun K hK' => ?_
      have hrun : (Builtin.append_ #[47, 47] op.type #[v, .slice none 0 c]).run Try.prog w = .ok v w := by
        rcases hown.2 with ⟨rfl, rfl⟩ | ⟨g, cap, cur, rfl, _, _, hnc, _⟩
        · simp [Builtin.append_, run_underlying Try.underlying47, sizeOf, typeInfo, hi, Builtin.lenOf, Builtin.firstCells]
        · simp [Builtin.append_, run_underlying Try.underlying47, sizeOf, typeInfo, hi, Builtin.lenOf, Builtin.firstCells, hnc, storeCells]
      unfold Oper.wp
      simp [execOp, ho, resolve, invoke, builtin, hs, hx, hrun, Result.andThen]
      refine hK' _ _ (hK v w ?_ (World.grownBy.refl w _) (.inl rfl))
      rw [List.append_nil, Nat.add_zero]
      exact hown
end
end Go.Proofs.Ytefghgoeppfpfaa.Net
