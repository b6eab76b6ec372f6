/-
  The document's store has the program's form.
-/
import Derived.Test.YthacldkmjpjgiaaRefAppend
namespace Go.Proofs.Ythacldkmjpjgiaa.Store
open Go Go.RowKit Go.Proofs.Ythacldkmjpjgiaa.Aid Go.Proofs.Ythacldkmjpjgiaa.Cache

theorem refForm13 : StForm 9 20 21 22 23 24 25 RefSt where
  keep := fun W W' F v m s h hk => by obtain ⟨g, Bv, hv, h⟩ := h; exact ⟨g, Bv, hv, h.kept hk⟩
  lt := fun h => by obtain ⟨g, Bv, hv, h⟩ := h; exact h.lt
  ptr := fun h => by obtain ⟨g, Bv, hv, h⟩ := h; exact ⟨_, hv⟩
  ok := fun h => by obtain ⟨g, Bv, hv, h⟩ := h; exact h.ok
  new_no := refNew13_no
  new_ok := refNew13_ok
  app := fun n e bv h hb hn => refAppend_any h n e bv hb (by omega)
  sync := fun h => refSync_any h
  rep := fun n e bv h hb hn => refReplace_any h n e bv hb (by omega)
  fuse := fun k h _ h2 => refFuse_any h k h2
  crash := fun k h _ _ => refCrash_any h k
  turn := fun k x h _ _ => refTurn_any h k x
/-- What a law reads of it. -/
theorem RefSt.row {W : World} {F : Nat → Prop} {v : Value} {m : Nat} {s : St} (h : RefSt W F v m s) : ∃ g Bv, v = .pointer (some ⟨g, 0, none⟩) ∧ W.cell? ⟨g, 0, none⟩ = some Bv ∧ W.cell? ⟨g, 1, none⟩ = some (.int .i64 (s.sure : Int)) ∧ SliceOf W W.heap.size s.n s.e Bv ∧ (∃ A c, Bv = .slice A s.n c) ∧ F g ∧ ∀ b, Bv.ownBlock = some b → F b := by
  obtain ⟨g, Bv, hv, h⟩ := h
  have h2 := h.read
  obtain ⟨A, c, he, hc, hr⟩ := h2
  refine ⟨g, Bv, hv, h.row.cell (i := 0) (by omega), h.row.cell (i := 1) (by omega), ⟨A, c, he, hc, fun h0 => ?_⟩, ⟨A, c, he⟩, h.fg, fun b hb => (h.inF b hb).1⟩
  obtain ⟨sb, so, hA, _, hj⟩ := hr h0
  exact ⟨sb, so, hA, Nat.ne_of_lt (block_lt_of_cell (hj 0 h0)), hj⟩
end Go.Proofs.Ythacldkmjpjgiaa.Store
