/-
  A slice of int64 that the call itself makes by append; sorted and turned about by the library.
-/
import Derived.Test.YtmkmmpmhbahmeaaProg
import Derived.Test.YtmkmmpmhbahmeaaAid
import Derived.Test.YtmkmmpmhbahmeaaSortLaid
import Derived.Maps.AppendAt
import Derived.Sort.OwnSortedInts
namespace Go.Proofs.Ytmkmmpmhbahmeaa.Sweep
open Go Go.RowKit Go.Sort Go.Proofs.Ytmkmmpmhbahmeaa.Aid

/-- The call's own slice of integers. -/
def OwnI (w : World) (base : Nat) (v : Value) (zs : List Int) : Prop := w.ownsRow base 2 1 v zs.length (zs.map (Value.int .i64))
theorem OwnI.keep {w w' : World} {base : Nat} {v : Value} {zs : List Int} (h : OwnI w base v zs) (hk : ∀ b, v.ownBlock = some b → w'.heap[b]? = w.heap[b]?) : OwnI w' base v zs := by
  refine ⟨h.1, ?_⟩
  rcases h.2 with h0 | ⟨g, cap, cur, rfl, hb, hg, rest⟩
  · exact .inl h0
  · exact .inr ⟨g, cap, cur, rfl, hb, (hk g rfl).trans hg, rest⟩
theorem OwnI.lt {w : World} {base : Nat} {v : Value} {zs : List Int} (h : OwnI w base v zs) : ∀ b, v.ownBlock = some b → base ≤ b ∧ b < w.heap.size := World.ownsRow.lt h
theorem OwnI.below {w w' : World} {base : Nat} {v : Value} {zs : List Int} (h : OwnI w base v zs) (hb : Below w.heap.size w w') : OwnI w' base v zs := h.keep (fun b hv => hb.block b (h.lt b hv).2)
theorem OwnI.start (w : World) (base : Nat) : OwnI w base (.slice none 0 0) [] := ⟨rfl, .inl ⟨rfl, rfl⟩⟩
/-- Two slices that lie apart. -/
def Apart (v u : Value) : Prop := ∀ b, v.ownBlock = some b → u.ownBlock ≠ some b
theorem Apart.symm {v u : Value} (h : Apart v u) : Apart u v := fun b hb hv => h b hv hb
theorem Apart.start (u : Value) : Apart (.slice none 0 0) u := fun b hb => by cases hb
/-- What stands behind a change of the other's row. -/
theorem OwnI.other {w w' : World} {base : Nat} {v u : Value} {zs : List Int} (h : OwnI w base v zs) (hg : w.grownBy w' u.ownBlock) (ha : Apart v u) : OwnI w' base v zs :=
  h.keep fun b hb => hg.block b (h.lt b hb).2 (fun e => ha b hb e.symm)
theorem Apart.grown {w : World} {base : Nat} {v u u' : Value} {zs : List Int} (h : OwnI w base v zs) (ha : Apart v u) (hu : u'.ownBlock = u.ownBlock ∨ u'.ownBlock = some w.heap.size) : Apart v u' := fun b hb he => by
  rcases hu with hu | hu
  · exact ha b hb (hu ▸ he)
  · rw [hu] at he
    have := (h.lt b hb).2
    simp at he
    omega
theorem OwnI.cell {w : World} {base : Nat} {v : Value} {zs : List Int} (h : OwnI w base v zs) (h1 : 1 ≤ zs.length) : ∃ g cap, v = .slice (some ⟨g, 0, none⟩) zs.length cap ∧ base ≤ g ∧ g < w.heap.size ∧
    ∀ i (hi : i < zs.length), w.cell? ⟨g, i, none⟩ = some (.int .i64 zs[i]) := by
  rcases h.2 with ⟨_, h0⟩ | ⟨g, cap, cur, rfl, hb, hg, rest⟩
  · omega
  · refine ⟨g, cap, rfl, hb, (Array.getElem?_eq_some_iff.1 hg).1, fun i hi => ?_⟩
    have hc := World.ownsRow.cells h (g := g) rfl
    have := hc i (.int .i64 zs[i]) (by simp [hi])
    have hadd : ∀ j, (⟨g, 0, none⟩ : Addr).add j = ⟨g, j, none⟩ := fun j => by unfold Addr.add; split <;> simp_all
    rwa [hadd] at this
theorem info_int64 : (Try.prog.info? 2).map (fun i => (i.zero, i.size, i.bytes)) = some (some (.int .i64 0), 1, 8) := by kernel_rfl
section
variable {w : World} {ops : Array Oper} {rest : List Oper} {op : Oper} {a : Act} {Q : Exit → Act → World → Prop}
/-- 'append(v, x)', v the call's own, x one integer. -/
theorem append_int (hgd : op.guard = none) (s x : Operand) (ho : op.op = .call { callee := .builtin .append, args := #[s, x], argTypes := #[65, 65] })
    (base : Nat) (zs : List Int) (z : Int) (v : Value) (hs : a.eval s = v) (hown : OwnI w base v zs) (sb c : Nat) (hx : a.eval x = .slice (some ⟨sb, 0, none⟩) 1 c)
    (h0 : w.cell? ⟨sb, 0, none⟩ = some (.int .i64 z)) (hn : zs.length ≤ 1000000) (hbase : base ≤ w.heap.size)
    (hK : ∀ v' w', OwnI w' base v' (zs ++ [z]) → w.grownBy w' v.ownBlock → (v'.ownBlock = v.ownBlock ∨ v'.ownBlock = some w.heap.size) → wpList Try.prog ops Q rest (a.put op.dst v') w') : wpList Try.prog ops Q (op :: rest) a w := by
  obtain ⟨i, hi, hz⟩ := Option.map_eq_some_iff.1 info_int64
  simp only [Prod.mk.injEq] at hz
  refine wpList_append_own_at w hgd s x 65 ho base 2 i (.int .i64 0) 1 8 Try.underlying65 hi hz.1 hz.2.1 hz.2.2 rfl (by omega) v zs.length _ hs hown ⟨sb, 0, none⟩ 1 c [.int .i64 z] hx rfl ?_ ?_ (by simp only [maxLen]; omega) (by omega) hbase ?_
  · intro j u hu
    have hadd : ∀ j, (⟨sb, 0, none⟩ : Addr).add j = ⟨sb, j, none⟩ := fun j => by unfold Addr.add; split <;> simp_all
    rw [hadd]
    match j, hu with
    | 0, hu => simp at hu; rw [← hu]; exact h0
  · intro u hu
    simp at hu
    rw [hu]; rfl
  · intro v' w' h2 h3 _ h4
    refine hK v' w' ?_ h3 h4
    unfold OwnI
    rw [List.length_append, List.map_append]
    exact h2
end
/-- What the library leaves: the same slice, its integers in another order. -/
theorem own_put {w : World} {base : Nat} {v : Value} {zs : List Int} (h : OwnI w base v zs) (h1 : 1 ≤ zs.length) : ∃ g cap, v = .slice (some ⟨g, 0, none⟩) zs.length cap ∧ g < w.heap.size ∧ Holds (Value.int .i64) w g 0 zs.toArray ∧
    ∀ (ts : List Int) (n : Nat) (os : Array Obj), ts.length = zs.length → OwnI (grow (putRow (Value.int .i64) (Sort.ahead w n) g 0 ts.toArray) os) base v ts ∧ w.grownBy (grow (putRow (Value.int .i64) (Sort.ahead w n) g 0 ts.toArray) os) v.ownBlock := by
  rcases h.2 with ⟨_, h0⟩ | ⟨g, cap, cur, rfl, hb, hg, hn, hm, hs, ht⟩
  · omega
  · refine ⟨g, cap, rfl, (Array.getElem?_eq_some_iff.1 hg).1, holds_of_blockI hg (by simpa using ht), fun ts n os hl => ⟨?_, grownBy_sortedI _⟩⟩
    have := ownsRow_sortedI (n := n) (os := os) (ts := ts) (ss := zs) hl hb hg hn hm hs
    unfold OwnI
    rw [hl]
    exact this
def sorted (zs : List Int) : List Int := zs.mergeSort fun x y => decide (x ≤ y)
theorem mem_sorted {zs : List Int} {z : Int} : z ∈ sorted zs ↔ z ∈ zs := List.mem_mergeSort
theorem length_sorted (zs : List Int) : (sorted zs).length = zs.length := List.length_mergeSort zs
theorem sorted_up (zs : List Int) : (sorted zs).Pairwise (· ≤ ·) := by
  have h := List.pairwise_mergeSort (le := fun x y : Int => decide (x ≤ y)) (fun a b c h1 h2 => by simp at *; omega) (fun a b => by simp; omega) zs
  exact h.imp (fun h => by simpa using h)
theorem sort_own {w : World} {base : Nat} {v : Value} {zs : List Int} (h : OwnI w base v zs) (h1 : 1 ≤ zs.length) (h2 : zs.length ≤ 1000000) :
    Calls Try.prog 47 #[v] w fun x w' => x = .returned (.tuple #[]) ∧ OwnI w' base v (sorted zs) ∧ w.grownBy w' v.ownBlock := by
  obtain ⟨g, cap, rfl, hg, hH, hput⟩ := own_put h h1
  refine (AnyM.slices_Sort_int Ytmkmmpmhbahmeaa.sort64 g 0 cap zs w hH hg (by omega)).mono ?_
  rintro _ w' ⟨rfl, n, os, rfl⟩
  exact ⟨rfl, hput (sorted zs) n os (length_sorted zs)⟩
theorem reverse_own {w : World} {base : Nat} {v : Value} {zs : List Int} (h : OwnI w base v zs) (h1 : 1 ≤ zs.length) (h2 : zs.length ≤ 1000000) :
    Calls Try.prog 44 #[v] w fun x w' => x = .returned (.tuple #[]) ∧ OwnI w' base v zs.reverse ∧ w.grownBy w' v.ownBlock := by
  obtain ⟨g, cap, rfl, hg, hH, hput⟩ := own_put h h1
  refine (AnyE.slices_Reverse Ytmkmmpmhbahmeaa.rev64 (Value.int .i64) (fun _ => rfl) g 0 cap zs w hH (by omega)).mono ?_
  rintro _ w' ⟨rfl, n, rfl⟩
  have := hput zs.reverse n #[] (by simp)
  rw [grow_empty] at this
  exact ⟨rfl, this⟩
end Go.Proofs.Ytmkmmpmhbahmeaa.Sweep
