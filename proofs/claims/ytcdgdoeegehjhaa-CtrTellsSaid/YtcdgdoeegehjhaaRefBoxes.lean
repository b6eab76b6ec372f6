/-
  What bartizanref03.Boxes does: the published S-box.
-/
import Derived.Test.YtcdgdoeegehjhaaRefTimes
import Derived.Deep.WholeRow
import Derived.Laws.Tables
namespace Go.Proofs.Ytcdgdoeegehjhaa.Aes
open Go Go.RowKit Go.Proofs.Ytcdgdoeegehjhaa.Aid

def byteRow (n : Nat) (f : Nat → BitVec 8) : Array Value := cellsOf n fun i => .int .u8 ((f i).toNat : Int)
def boxAt (i : Nat) : BitVec 8 := boxL.getD i 0
theorem boxes_zero (t : TypeId) (ht : t = 38) : (Try.prog.info? t).map (fun i => (i.zero, i.size)) = some (some (.agg (cellsOf 256 fun _ => .int .u8 0)), 256) := by subst ht; kernel_rfl

section
variable {P : Program} {w : World} {ops : Array Oper} {rest : List Oper} {op : Oper} {a : Act} {Q : Exit → Act → World → Prop}
/-- A literal array, by the cells that it has. -/
theorem build_named (hg : op.guard = none) (t : TypeId) (parts : Array (Nat × Operand)) (ho : op.op = .build t parts) (cells : Array Value)
    (hc : P.built t (parts.map fun (i, x) => (i, a.eval x)).toList = some cells) (h : wpList P ops Q rest (a.put op.dst (.agg cells)) w) : wpList P ops Q (op :: rest) a w :=
  wpList_build hg t parts ho (by rw [hc]; rfl) (by rw [hc]; exact h)
end

set_option maxRecDepth 100000 in
set_option maxHeartbeats 4000000 in
theorem refBoxes_any (w : World) :
    Calls Try.prog 21 #[] w fun x w' => x = .returned (.agg (byteRow 256 boxAt)) ∧ Below w.heap.size w w' := by
  obtain ⟨hz1, _⟩ := zero_of_info (boxes_zero _ rfl)
  go_enter Try.func21, Try.ntmps21
  go_wp2_with (first
    | (refine build_named (by rfl) 38 _ (by rfl) (byteRow 256 boxAt) (by kernel_rfl) ?_)
    | (refine store_whole (by rfl) 38 (.tmp 0) (.tmp 1) (by rfl) w.heap.size _ 256 (fun _ => .int .u8 0) (fun j => .int .u8 ((boxAt j).toNat : Int)) (by exact row_new w _ _ 256 _ (size_cellsOf _ _) (cellsOf_at _ _)) (by rfl) _ (by rfl) (by kernel_rfl) (size_cellsOf _ _) (cellsOf_at _ _) (fun _ _ => rfl) ?_
       intro w2 hr2 ho2))
  exact bodyPost_ret (results_row rfl _ w.heap.size _ _ _ _ (by rfl) hr2 Try.underlying38 rfl (by kernel_rfl)) rfl ⟨rfl, ho2.below ((Below.refl _ _).alloc (Nat.le_refl _) _) (Nat.le_refl _)⟩
end Go.Proofs.Ytcdgdoeegehjhaa.Aes
