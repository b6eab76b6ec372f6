/-
  What the laws of layer 3 need of the program's own functions, as one bundle; what R says of a world (of the program's tables, if it has any) stays true.
-/
import Derived.Test.YtapfanphlbcnjaaRefEncrypt
import Derived.Test.YtapfanphlbcnjaaAesKnown
import Derived.Test.YtapfanphlbcnjaaEq
namespace Go.Proofs.Ytapfanphlbcnjaa.Aes
open Go Go.RowKit Go.Proofs.Ytapfanphlbcnjaa.Aid

section
variable {P : Program} {w : World} {ops : Array Oper} {rest : List Oper} {op : Oper} {a : Act} {Q : Exit → Act → World → Prop}
/-- A piece of a row, read behind a guard that lets it. -/
theorem load_row_if (hw : Region.wanted op (yielded ops a.tmps) = true) (ty : TypeId) (x : Operand) (ho : op.op = .load ty x) (g o t n m : Nat) (f : Nat → Value) (h : w.rowIs g t n f)
    (hx : a.eval x = .pointer (some ⟨g, o, none⟩)) (d : TypeDesc) (hu : P.underlying ty = some d) (hd : d.isRow = true) (hi : (P.info? ty).map (·.size) = some m) (hm : o + m ≤ n)
    (hK : wpList P ops Q rest (a.put op.dst (.agg (cellsOf m fun j => f (o + j)))) w) : wpList P ops Q (op :: rest) a w := by
  unfold wpList
  rw [if_pos hw]
  exact .inl (wp_load_mid ty x ho g o hx _ d (row_range h o m hm) hu hd (by simpa using hi) hK)
end

structure AesHas (R : World → Prop) : Prop where
  keep : ∀ w w', R w → Below w.heap.size w w' → R w'
  times : ∀ (a b : BitVec 8) (W : World), R W → Calls Try.prog 9 #[.int .u8 (a.toNat : Int), .int .u8 (b.toNat : Int)] W fun x w' => x = .returned (.int .u8 ((times a b).toNat : Int)) ∧ Below W.heap.size W w'
  box : ∀ (b : BitVec 8) (W : World), R W → Calls Try.prog 11 #[.int .u8 (b.toNat : Int)] W fun x w' => x = .returned (.int .u8 ((box b).toNat : Int)) ∧ Below W.heap.size W w'
  keys : ∀ (key : Blk) (X : Array Value), X.size = 16 → (∀ i, i < 16 → X[i]? = some (.int .u8 ((key i).toNat : Int))) → ∀ W : World, R W → Calls Try.prog 13 #[.agg X] W fun x w' => x = .returned (.agg (byteRow 176 (keysTo key 11))) ∧ Below W.heap.size W w'
  encrypt : ∀ (key block : Blk) (X Y : Array Value), X.size = 16 → (∀ i, i < 16 → X[i]? = some (.int .u8 ((key i).toNat : Int))) → Y.size = 16 → (∀ i, i < 16 → Y[i]? = some (.int .u8 ((block i).toNat : Int))) → ∀ W : World, R W →
    Calls Try.prog 15 #[.agg X, .agg Y] W fun x w' => x = .returned (.agg (byteRow 16 (enc key block))) ∧ Below W.heap.size W w'

theorem eq16 (f : Blk) (W : World) : (binOp .eql 28 (.agg (byteRow 16 f)) (.agg (byteRow 16 f))).run Try.prog W = .ok (.bool true) W :=
  run_eql_same Try.underlying28 Try.underlying5 (by kernel_rfl) _ (fun i hi => ⟨_, cellsOf_at 16 _ i hi⟩) W
end Go.Proofs.Ytapfanphlbcnjaa.Aes
