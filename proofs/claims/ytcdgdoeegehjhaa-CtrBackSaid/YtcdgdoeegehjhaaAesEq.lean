/-
  A piece of a row behind a guard; a block and itself compared.
-/
import Derived.Test.YtcdgdoeegehjhaaRefBoxes
import Derived.Test.YtcdgdoeegehjhaaEq
namespace Go.Proofs.Ytcdgdoeegehjhaa.Aes
open Go Go.RowKit Go.Proofs.Ytcdgdoeegehjhaa.Aid

section
variable {P : Program} {w : World} {ops : Array Oper} {rest : List Oper} {op : Oper} {a : Act} {Q : Exit → Act → World → Prop}
/-- A piece of a row, read behind a guard that lets it. -/
theorem load_row_if (hw : Region.wanted op (yielded ops a.tmps) = true) (ty : TypeId) (x : Operand) (ho : op.op = .load ty x) (g o t n m : Nat) (f : Nat → Value) (h : w.rowIs g t n f)
    (hx : a.eval x = .pointer (some ⟨g, o, none⟩)) (d : TypeDesc) (hu : P.underlying ty = some d) (hd : d.isRow = true) (hi : (P.info? ty).map (·.size) = some m) (hm : o + m ≤ n)
    (hK : wpList P ops Q rest (a.put op.dst (.agg (cellsOf m fun j => f (o + j)))) w) : wpList P ops Q (op :: rest) a w := by
  unfold wpList
  rw [if_pos hw]
  exact .inl (wp_load_mid ty x ho g o hx _ d (row_range h o m hm) hu hd (by simpa using hi) hK)
end

theorem eq16 (f : Blk) (W : World) : (binOp .eql 22 (.agg (byteRow 16 f)) (.agg (byteRow 16 f))).run Try.prog W = .ok (.bool true) W :=
  run_eql_same Try.underlying22 Try.underlying5 (by kernel_rfl) _ (fun i hi => ⟨_, cellsOf_at 16 _ i hi⟩) W
end Go.Proofs.Ytcdgdoeegehjhaa.Aes
