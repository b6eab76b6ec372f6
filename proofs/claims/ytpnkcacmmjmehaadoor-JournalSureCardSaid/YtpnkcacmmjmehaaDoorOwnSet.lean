/-
  Bytes of the call's own, read and written one by one.
-/
import Derived.Test.YtpnkcacmmjmehaaDoorOwn
namespace Go.Proofs.YtpnkcacmmjmehaaDoor.Aid
open Go Go.RowKit

/-- One byte set. -/
def setAt (e : Nat → BitVec 8) (k : Nat) (x : BitVec 8) (j : Nat) : BitVec 8 := if j = k then x else e j
theorem own_cells {w : World} {base m : Nat} {e : Nat → BitVec 8} {v : Value} (h : Own w base m e v) (hm : 0 < m) :
    ∃ g cap, v = .slice (some ⟨g, 0, none⟩) m cap ∧ base ≤ g ∧ g < w.heap.size ∧ m ≤ cap ∧ (∀ j, j < m → w.cell? ⟨g, j, none⟩ = some (.int .u8 ((e j).toNat : Int))) ∧ ∀ j, w.frozen? ⟨g, j, none⟩ = false := by
  rcases h.form with ⟨_, h0⟩ | ⟨g, cap, cur, hv, hg, hlt, hc, hh, hs, hcell⟩
  · omega
  · refine ⟨g, cap, hv, hg, hlt, hc, fun j hj => ?_, fun j => ?_⟩
    · simp [World.cell?, hh, hcell j hj]
    · simp [World.frozen?, hh]
theorem slice_set {w : World} {g m cap k G : Nat} {e : Nat → BitVec 8} (hc : ∀ j, j < m → w.cell? ⟨g, j, none⟩ = some (.int .u8 ((e j).toNat : Int))) (hk : k < m) (hcap : m ≤ cap) (hG : g ≠ G) (x : BitVec 8) (v : Int) (hv : v = (x.toNat : Int)) :
    SliceOf (w.setCell ⟨g, k, none⟩ (.int .u8 v)) G m (setAt e k x) (.slice (some ⟨g, 0, none⟩) m cap) := by
  refine ⟨_, cap, rfl, hcap, fun _ => ⟨g, 0, rfl, hG, fun j hj => ?_⟩⟩
  rw [Nat.zero_add]
  unfold setAt
  by_cases h : j = k
  · subst h
    rw [if_pos rfl, World.cell?_setCell_same' _ _ _ (by rw [hc j hj]; rfl), hv]
  · rw [if_neg h]
    exact (World.cell?_setCell_other _ _ _ _ (fun hx => h (by cases hx; rfl))).trans (hc j hj)
section
variable {w : World} {ops : Array Oper} {rest : List Oper} {op : Oper} {a : Act} {Q : Exit → Act → World → Prop}
/-- A byte is stored; the world behind it has a name. -/
theorem store_byte (hgd : op.guard = none) (x y : Operand) (ho : op.op = .store 5 x y) (g k : Nat) (hx : a.eval x = .pointer (some ⟨g, k, none⟩)) (z : Int) (hy : a.eval y = .int .u8 z) (old : Value) (hc : w.cell? ⟨g, k, none⟩ = some old) (hf : w.frozen? ⟨g, k, none⟩ = false)
    (hK : ∀ w', w' = w.setCell ⟨g, k, none⟩ (.int .u8 z) → wpList Tryd.prog ops Q rest (a.put op.dst undef) w') : wpList Tryd.prog ops Q (op :: rest) a w := by
  refine wpList_plain hgd fun K hK' => ?_
  unfold Oper.wp execOp
  have := hK' _ _ (hK _ rfl)
  obtain ⟨i, hi, hz⟩ := Option.map_eq_some_iff.1 info_u8
  simp only [Prod.mk.injEq] at hz
  simp only [ho, hx, hy, Instr.storeAt, Instr.sureAddr, Sem.run_bind, Sem.run_pure, Result.andThen_ok]
  simp [storeVar, sizeOf, typeInfo, hi, hz.2.1, Value.cells, hc, hf, go_sem]
  exact this
end
end Go.Proofs.YtpnkcacmmjmehaaDoor.Aid
