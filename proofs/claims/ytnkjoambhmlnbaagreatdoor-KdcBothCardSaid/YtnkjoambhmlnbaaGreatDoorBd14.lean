/-
  What a call leaves as it was: all but the blocks of a footprint. A slice of values of the call's own, its content as a list; append of values to it.
-/
import Derived.Test.YtnkjoambhmlnbaaGreatDoorBd01
import Derived.Maps.AppendAt
namespace Go.Proofs.YtnkjoambhmlnbaaGreatDoor.Cache
open Go Go.RowKit Go.Proofs.YtnkjoambhmlnbaaGreatDoor.Aid

structure Leaves (F : Nat → Prop) (w w' : World) : Prop where
  os : w'.os = w.os
  tape : w'.tape = w.tape
  output : w'.output = w.output
  size : w.heap.size ≤ w'.heap.size
  block : ∀ k, k < w.heap.size → ¬ F k → w'.heap[k]? = w.heap[k]?
theorem Leaves.of_below {F : Nat → Prop} {w w' : World} (h : Below w.heap.size w w') : Leaves F w w' := ⟨h.os, h.tape, h.output, h.size, fun k hk _ => h.block k hk⟩
theorem Leaves.refl (F : Nat → Prop) (w : World) : Leaves F w w := ⟨rfl, rfl, rfl, Nat.le_refl _, fun _ _ _ => rfl⟩
theorem Leaves.below {F : Nat → Prop} {B : Nat} {w w' : World} (h : Leaves F w w') (hB : B ≤ w.heap.size) (hF : ∀ k, F k → B ≤ k) : Below B w w' :=
  ⟨h.os, h.tape, h.output, h.size, fun k hk => h.block k (by omega) (fun hf => by have := hF k hf; omega)⟩
theorem Leaves.trans {F F' : Nat → Prop} {a b c : World} (h : Leaves F a b) (k : Leaves F' b c) (hF : ∀ x, F' x → x < a.heap.size → F x) : Leaves F a c :=
  ⟨k.os.trans h.os, k.tape.trans h.tape, k.output.trans h.output, Nat.le_trans h.size k.size, fun x hx hn => (k.block x (Nat.lt_of_lt_of_le hx h.size) (fun hf => hn (hF x hf hx))).trans (h.block x hx hn)⟩
theorem Leaves.mono {F F' : Nat → Prop} {a b : World} (h : Leaves F a b) (hF : ∀ x, x < a.heap.size → F x → F' x) : Leaves F' a b :=
  ⟨h.os, h.tape, h.output, h.size, fun k hk hn => h.block k hk (fun hf => hn (hF k hk hf))⟩
theorem Leaves.cell {F : Nat → Prop} {w w' : World} (h : Leaves F w w') {p : Addr} {v : Value} (hc : w.cell? p = some v) (hF : ¬ F p.block) : w'.cell? p = some v := by
  have hlt := block_lt_of_cell hc
  rw [← hc]
  unfold World.cell?
  rw [h.block p.block hlt hF]
theorem Leaves.drew {F : Nat → Prop} {w w' : World} (h : Leaves F w w') : Leaves F w w'.drew := ⟨h.os, h.tape, h.output, h.size, h.block⟩

/-- A slice of the call's own; what it holds. -/
def OwnV (w : World) (base : Nat) (e : TypeId) (v : Value) (xs : List Value) : Prop := w.ownsRow base e 1 v xs.length xs
section
variable {w w' : World} {base : Nat} {e : TypeId} {v : Value} {xs : List Value}
theorem OwnV.keep (h : OwnV w base e v xs) (hk : ∀ b, v.ownBlock = some b → w'.heap[b]? = w.heap[b]?) : OwnV w' base e v xs := by
  refine ⟨h.1, ?_⟩
  rcases h.2 with h0 | ⟨g, cap, cur, rfl, hb, hg, rest⟩
  · exact .inl h0
  · exact .inr ⟨g, cap, cur, rfl, hb, (hk g rfl).trans hg, rest⟩
theorem OwnV.lt (h : OwnV w base e v xs) : ∀ b, v.ownBlock = some b → base ≤ b ∧ b < w.heap.size := World.ownsRow.lt h
theorem OwnV.below (h : OwnV w base e v xs) (hb : Below w.heap.size w w') : OwnV w' base e v xs := h.keep (fun b hv => hb.block b (h.lt b hv).2)
theorem OwnV.leaves {F : Nat → Prop} (h : OwnV w base e v xs) (hl : Leaves F w w') (hF : ∀ b, v.ownBlock = some b → ¬ F b) : OwnV w' base e v xs := h.keep (fun b hv => hl.block b (h.lt b hv).2 (hF b hv))
theorem OwnV.nil (w : World) (base : Nat) (e : TypeId) : OwnV w base e (.slice none 0 0) [] := World.ownsRow_nil w base e 1
theorem OwnV.lower (h : OwnV w base e v xs) {B : Nat} (hB : B ≤ base) : OwnV w B e v xs := by
  refine ⟨h.1, ?_⟩
  rcases h.2 with h0 | ⟨g, cap, cur, rfl, hb, hg, rest⟩
  · exact .inl h0
  · exact .inr ⟨g, cap, cur, rfl, by omega, hg, rest⟩
/-- An empty slice that was made just now. -/
theorem OwnV.empty (w : World) (e : TypeId) : OwnV (w.alloc (.cells #[] e)) w.heap.size e (.slice (some ⟨w.heap.size, 0, none⟩) 0 0) [] :=
  World.ownsRow_made w #[] 0 (Nat.le_refl _) (by simp [maxLen]) (by simp)
/-- Its shape, and what lies where. -/
theorem OwnV.shape (h : OwnV w base e v xs) : ∃ A cap, v = .slice A xs.length cap ∧ xs.length ≤ cap ∧ (1 ≤ xs.length → ∃ g, A = some ⟨g, 0, none⟩ ∧ base ≤ g ∧ g < w.heap.size ∧ v.ownBlock = some g ∧ ∀ i u, xs[i]? = some u → w.cell? ⟨g, i, none⟩ = some u) := by
  rcases h.2 with ⟨hv, h0⟩ | ⟨g, cap, cur, rfl, hb, hg, hn, rest⟩
  · exact ⟨none, 0, by rw [hv, h0], by omega, fun h1 => by omega⟩
  · refine ⟨_, cap, rfl, hn, fun _ => ⟨g, rfl, hb, (Array.getElem?_eq_some_iff.1 hg).1, rfl, fun i u hi => ?_⟩⟩
    have := World.ownsRow.cells h (g := g) rfl i u hi
    have hadd : ∀ j, (⟨g, 0, none⟩ : Addr).add j = ⟨g, j, none⟩ := fun j => by unfold Addr.add; split <;> simp_all
    rwa [hadd] at this
end
section
variable {P : Program} {w : World} {ops : Array Oper} {rest : List Oper} {op : Oper} {a : Act} {Q : Exit → Act → World → Prop}
theorem append_vals (hgd : op.guard = none) (s x : Operand) (T : TypeId) (ho : op.op = .call { callee := .builtin .append, args := #[s, x], argTypes := #[T, T] })
    (base : Nat) (e : TypeId) (z : Value) (b : Nat) (hT : P.underlying T = some (.slice e)) (hinfo : (P.info? e).map (fun i => (i.zero, i.size, i.bytes)) = some (some z, 1, b)) (hz : z.cells.size = 1) (hb : b ≤ 100)
    (xs : List Value) (v : Value) (hs : a.eval s = v) (hown : OwnV w base e v xs) (sb so c m : Nat) (news : List Value) (hx : a.eval x = .slice (some ⟨sb, so, none⟩) m c) (hm : news.length = m)
    (hnews : ∀ j u, news[j]? = some u → w.cell? ⟨sb, so + j, none⟩ = some u) (h1 : ∀ u ∈ news, u.oneCell' = true) (hn : xs.length + m ≤ 1000000) (hbase : base ≤ w.heap.size)
    (hK : ∀ v' w', OwnV w' base e v' (xs ++ news) → w.grownBy w' v.ownBlock → (v'.ownBlock = v.ownBlock ∨ v'.ownBlock = some w.heap.size) → wpList P ops Q rest (a.put op.dst v') w') : wpList P ops Q (op :: rest) a w := by
  obtain ⟨i, hi, hzz⟩ := Option.map_eq_some_iff.1 hinfo
  simp only [Prod.mk.injEq] at hzz
  refine wpList_append_own_at w hgd s x T ho base e i z 1 b hT hi hzz.1 hzz.2.1 hzz.2.2 hz (by omega) v xs.length _ hs hown ⟨sb, so, none⟩ m c news hx (by omega) ?_ h1 (by simp only [maxLen]; omega) ?_ hbase ?_
  · intro j u hu
    have hadd : ∀ j, (⟨sb, so, none⟩ : Addr).add j = ⟨sb, so + j, none⟩ := fun j => by unfold Addr.add; split <;> simp_all
    rw [hadd]
    exact hnews j u hu
  · have : (xs.length + m) * b ≤ 1000000 * 100 := Nat.mul_le_mul hn hb
    omega
  · intro v' w' h2 h3 _ h4
    refine hK v' w' ?_ h3 h4
    unfold OwnV
    rw [List.length_append, hm]
    exact h2
end
end Go.Proofs.YtnkjoambhmlnbaaGreatDoor.Cache
