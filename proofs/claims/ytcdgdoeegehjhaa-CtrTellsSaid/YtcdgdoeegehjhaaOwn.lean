/-
  Bytes that a call itself has gathered by append; append of bytes to them; a slice of bytes that came in, as a row's argument.
-/
import Derived.Test.YtcdgdoeegehjhaaBytes
import Derived.Test.YtcdgdoeegehjhaaProg
import Derived.Maps.AppendAt
import Derived.OpenShut
namespace Go.Proofs.Ytcdgdoeegehjhaa.Aid
open Go Go.RowKit

/-- v holds m bytes that read as e, in a row of the call's own, from block 'base' on. -/
def Own (w : World) (base m : Nat) (e : Nat → BitVec 8) (v : Value) : Prop := w.ownsRow base 5 1 v m ((List.range m).map fun i => Value.int .u8 ((e i).toNat : Int))
theorem Own.form {w : World} {base m : Nat} {e : Nat → BitVec 8} {v : Value} (h : Own w base m e v) :
    (v = .slice none 0 0 ∧ m = 0) ∨ ∃ g cap cur, v = .slice (some ⟨g, 0, none⟩) m cap ∧ base ≤ g ∧ g < w.heap.size ∧ m ≤ cap ∧ w.heap[g]? = some (.cells cur 5 (0, 0)) ∧ cur.size = cap ∧ ∀ j, j < m → cur[j]? = some (.int .u8 ((e j).toNat : Int)) := by
  obtain ⟨h1, h2⟩ := h
  rcases h2 with h2 | ⟨g, cap, cur, hv, hg, hh, hn, hc, hs, ht⟩
  · exact .inl h2
  · refine .inr ⟨g, cap, cur, hv, hg, ?_, hn, hh, by omega, fun j hj => ?_⟩
    · rcases Nat.lt_or_ge g w.heap.size with hlt | hge
      · exact hlt
      · rw [Array.getElem?_eq_none hge] at hh; cases hh
    · have hx := congrArg (fun l => l[j]?) ht
      simp only [Nat.mul_one, List.getElem?_take_of_lt hj, Array.getElem?_toList] at hx
      rw [hx]
      simp [hj]
theorem Own.slice {w : World} {base m : Nat} {e : Nat → BitVec 8} {v : Value} (h : Own w base m e v) {g' : Nat} (hg' : g' < base ∨ w.heap.size ≤ g') : SliceOf w g' m e v := by
  rcases h.form with ⟨rfl, rfl⟩ | ⟨g, cap, cur, rfl, hb, hlt, hm, hh, _, hc⟩
  · exact SliceOf.nil _ _ _
  · exact ⟨_, _, rfl, hm, fun _ => ⟨g, 0, rfl, by omega, fun j hj => by rw [Nat.zero_add, cell_of_row w g j cur _ _ hh]; exact hc j hj⟩⟩
theorem Own.keep {w w' : World} {base m : Nat} {e : Nat → BitVec 8} {v : Value} (h : Own w base m e v) (hk : ∀ b, v.ownBlock = some b → w'.heap[b]? = w.heap[b]?) : Own w' base m e v := by
  obtain ⟨h1, h2⟩ := h
  refine ⟨h1, ?_⟩
  rcases h2 with h2 | ⟨g, cap, cur, hv, hg, hh, r⟩
  · exact .inl h2
  · subst hv
    exact .inr ⟨g, cap, cur, rfl, hg, (hk g rfl).trans hh, r⟩
theorem Own.lt {w : World} {base m : Nat} {e : Nat → BitVec 8} {v : Value} (h : Own w base m e v) {b : Nat} (hb : v.ownBlock = some b) : base ≤ b ∧ b < w.heap.size := by
  rcases h.form with ⟨rfl, rfl⟩ | ⟨g, cap, cur, rfl, hb', hlt, _⟩
  · cases hb
  · have : g = b := by simpa [Value.ownBlock] using hb
    subst this
    exact ⟨hb', hlt⟩
theorem Own.below {w w' : World} {base m : Nat} {e : Nat → BitVec 8} {v : Value} (h : Own w base m e v) (hb : Below w.heap.size w w') : Own w' base m e v := h.keep (fun _ hv => hb.block _ (h.lt hv).2)
def cat (e : Nat → BitVec 8) (n : Nat) (f : Nat → BitVec 8) (j : Nat) : BitVec 8 := if j < n then e j else f (j - n)
theorem map_cat (e f : Nat → BitVec 8) (n m : Nat) :
    ((List.range n).map fun i => Value.int .u8 ((e i).toNat : Int)) ++ ((List.range m).map fun i => Value.int .u8 ((f i).toNat : Int)) = (List.range (n + m)).map fun i => Value.int .u8 ((cat e n f i).toNat : Int) := by
  apply List.ext_getElem?
  intro j
  by_cases h : j < n
  · rw [List.getElem?_append_left (by simpa using h)]
    simp [h, cat, show j < n + m by omega]
  · rw [List.getElem?_append_right (by simp; omega)]
    by_cases h2 : j < n + m
    · simp [h2, cat, h, show j - n < m by omega]
    · simp [h2, show ¬ j - n < m by omega]

section
variable {w : World} {ops : Array Oper} {rest : List Oper} {op : Oper} {a : Act} {Q : Exit → Act → World → Prop}
theorem info_u8 : (Try.prog.info? 5).map (fun i => (i.zero, i.size, i.bytes)) = some (some (.int .u8 0), 1, 1) := by kernel_rfl
theorem run_append_none (ty base m : Nat) (e : Nat → BitVec 8) (v : Value) (h : Own w base m e v) (c : Nat) : (Builtin.append_ #[23, 23] ty #[v, .slice none 0 c]).run Try.prog w = .ok v w := by
  obtain ⟨i, hi, hz⟩ := Option.map_eq_some_iff.1 info_u8
  rcases h.form with ⟨rfl, rfl⟩ | ⟨g, cap, cur, rfl, _, _, hm, _, _, _⟩
  · simp [Builtin.append_, run_underlying Try.underlying23, sizeOf, typeInfo, hi, Builtin.lenOf, Builtin.firstCells]
  · simp [Builtin.append_, run_underlying Try.underlying23, sizeOf, typeInfo, hi, Builtin.lenOf, Builtin.firstCells, hm, storeCells]
/-- 'append(v, x...)', v the call's own, x any bytes. -/
theorem append_bytes (hgd : op.guard = none) (s x : Operand) (ho : op.op = .call { callee := .builtin .append, args := #[s, x], argTypes := #[23, 23] })
    (base n : Nat) (e : Nat → BitVec 8) (v : Value) (hs : a.eval s = v) (hown : Own w base n e v) (g m : Nat) (f : Nat → BitVec 8) (u : Value) (hx : a.eval x = u) (hu : SliceOf w g m f u)
    (hnm : n + m ≤ 1000000000) (hbase : base ≤ w.heap.size)
    (hK : ∀ v' w', Own w' base (n + m) (cat e n f) v' → w.grownBy w' v.ownBlock → (v'.ownBlock = v.ownBlock ∨ v'.ownBlock = some w.heap.size) → wpList Try.prog ops Q rest (a.put op.dst v') w') : wpList Try.prog ops Q (op :: rest) a w := by
  obtain ⟨A, c, rfl, hc, hr⟩ := hu
  obtain ⟨i, hi, hz⟩ := Option.map_eq_some_iff.1 info_u8
  simp only [Prod.mk.injEq] at hz
  have fin : ∀ (ad : Addr), A = some ad → (∀ j y, ((List.range m).map fun i => Value.int .u8 ((f i).toNat : Int))[j]? = some y → w.cell? (ad.add j) = some y) → wpList Try.prog ops Q (op :: rest) a w := by
    intro ad hA hcell
    subst hA
    refine wpList_append_own_at w hgd s x 23 ho base 5 i (.int .u8 0) 1 1 Try.underlying23 hi hz.1 hz.2.1 hz.2.2 rfl (by omega) v n _ hs hown ad m c _ hx (by simp) hcell ?_ (by simp only [maxLen]; omega) (by omega) hbase ?_
    · intro y hy
      obtain ⟨j, _, rfl⟩ := List.mem_map.1 hy
      rfl
    · intro v' w' h1 h2 _ h4
      rw [map_cat] at h1
      exact hK v' w' h1 h2 h4
  by_cases hm : 0 < m
  · obtain ⟨sb, so, hA, _, hcell⟩ := hr hm
    refine fin _ hA (fun j y hy => ?_)
    have hj : j < m := by have := (List.getElem?_eq_some_iff.1 hy).1; simpa using this
    rw [Addr.add_mid, hcell j hj, ← hy]
    simp [hj]
  · obtain rfl : m = 0 := by omega
    cases A with
    | some ad => exact fin ad rfl (fun j y hy => by simp at hy)
    | none =>
      refine wpList_plain hgd fun K hK' => ?_
      have hrun := run_append_none (w := w) op.type base n e v hown c
      unfold Oper.wp
      simp [execOp, ho, resolve, invoke, builtin, hs, hx, hrun, Result.andThen]
      refine hK' _ _ (hK v w ?_ (World.grownBy.refl w _) (.inl rfl))
      have : (List.range (n + 0)).map (fun i => Value.int .u8 ((cat e n f i).toNat : Int)) = (List.range n).map fun i => Value.int .u8 ((e i).toNat : Int) := by
        rw [← map_cat]; simp
      unfold Own
      rw [this]
      exact hown
end
end Go.Proofs.Ytcdgdoeegehjhaa.Aid
