/-
  A region that draws its order, walked once in the text's order over a class of worlds: each operation yields one value in every world of the class, and stays within it (calls may make memory). A load of a whole array by an operation whose guard is met; '!=' between any two arrays of bytes. A load of a piece of a row, its cells under a name of their own: in a plain region, and in one that draws its order.
-/
import Derived.Test.YtnkjoambhmlnbaaGreatDoorBd01
import Derived.Deep.Quiet
namespace Go.Proofs.YtnkjoambhmlnbaaGreatDoor.Aid
open Go Go.RowKit
variable {P : Program} {ops : Array Oper} {C : World → Prop} {Q : Act → Prop} {rest : List Oper} {op : Oper} {a : Act}

theorem q_val (hw : Region.wanted op (yielded ops a.tmps) = true) (v : Value) (hv : ∀ w, C w → (execOp a.eval op).run P w = .ok (.value v) w) (h : wpQuiet P ops C Q rest (a.put op.dst v)) : wpQuiet P ops C Q (op :: rest) a := by
  unfold wpQuiet
  rw [if_pos hw]
  exact ⟨v, fun w hC => by unfold Oper.quietAt; rw [hv w hC]; exact ⟨rfl, rfl⟩, h⟩
/-- A piece of a row. -/
theorem q_load (hw : Region.wanted op (yielded ops a.tmps) = true) (ty : TypeId) (x : Operand) (ho : op.op = .load ty x) (g o t n m : Nat) (f : Nat → Value) (hr : ∀ w, C w → w.rowIs g t n f)
    (hx : a.eval x = .pointer (some ⟨g, o, none⟩)) (d : TypeDesc) (hu : P.underlying ty = some d) (hd : d.isRow = true) (hi : (P.info? ty).map (·.size) = some m) (hm : o + m ≤ n)
    (h : wpQuiet P ops C Q rest (a.put op.dst (.agg (cellsOf m fun j => f (o + j))))) : wpQuiet P ops C Q (op :: rest) a :=
  q_val hw _ (fun w hC => by
    unfold execOp
    simp only [ho, hx, Instr.loadAt, Instr.sureAddr, Sem.run_bind, Sem.run_pure, Result.andThen_ok, run_loadVar_mid w g o ty _ d (row_range (hr w hC) o m hm) hu hd (by simpa using hi)]
    rfl) h
/-- A call, by its contract in every world of the class. -/
theorem q_call (hw : Region.wanted op (yielded ops a.tmps) = true) (f : FuncId) (args : Array Value) (he : ∀ w, (execOp a.eval op).run P w = .ok (.enter f args) w) (v : Value)
    (hc : ∀ w, C w → Calls P f args w (fun e w' => e = .returned v ∧ C w')) (h : wpQuiet P ops C Q rest (a.put op.dst v)) : wpQuiet P ops C Q (op :: rest) a := by
  unfold wpQuiet
  rw [if_pos hw]
  exact ⟨v, fun w hC => by unfold Oper.quietAt; rw [he w]; exact ⟨rfl, hc w hC⟩, h⟩
theorem region_held {id : Nat} {Q : Exit → Act → World → Prop} {a : Act} {w : World} {l : List Oper} (C : World → Prop) (hm : P.follows .mixedOrders = true) (hB : Region.lexB .any l.toArray = true) (hC : C w.drew)
    (h : wpQuiet P l.toArray C (fun a' => ∀ w', C w' → Q .normal a' w') l a) : (Code.region id l.toArray true).wp P Q a w :=
  wp_region_quiet (C := C) hm hB hC (by simpa using h)
end Go.Proofs.YtnkjoambhmlnbaaGreatDoor.Aid
namespace Go.Proofs.YtnkjoambhmlnbaaGreatDoor.Aid
open Go Go.RowKit
variable {P : Program}

theorem load_row_met {w : World} {ops : Array Oper} {rest : List Oper} {op : Oper} {a : Act} {Q : Exit → Act → World → Prop} (hw : Region.wanted op (yielded ops a.tmps) = true) (ty : TypeId) (x : Operand) (ho : op.op = .load ty x) (g o t n m : Nat) (f : Nat → Value) (h : w.rowIs g t n f)
    (hx : a.eval x = .pointer (some ⟨g, o, none⟩)) (d : TypeDesc) (hu : P.underlying ty = some d) (hd : d.isRow = true) (hi : (P.info? ty).map (·.size) = some m) (hm : o + m ≤ n)
    (hK : wpList P ops Q rest (a.put op.dst (.agg (cellsOf m fun j => f (o + j)))) w) : wpList P ops Q (op :: rest) a w :=
  wpList_step fun K hK' => by
    rw [if_pos hw]
    exact wp_load_mid ty x ho g o hx _ d (row_range h o m hm) hu hd (by simpa using hi) (hK' _ _ hK)
theorem load_whole_met {w : World} {ops : Array Oper} {rest : List Oper} {op : Oper} {a : Act} {Q : Exit → Act → World → Prop} (hw : Region.wanted op (yielded ops a.tmps) = true) (ty : TypeId) (x : Operand) (ho : op.op = .load ty x) (g t n : Nat) (f : Nat → Value) (h : w.rowIs g t n f)
    (hx : a.eval x = .pointer (some ⟨g, 0, none⟩)) (d : TypeDesc) (hu : P.underlying ty = some d) (hd : d.isRow = true) (hi : (P.info? ty).map (·.size) = some n)
    (hK : wpList P ops Q rest (a.put op.dst (.agg (cellsOf n f))) w) : wpList P ops Q (op :: rest) a w := by
  refine load_row_met hw ty x ho g 0 t n n f h hx d hu hd hi (by omega) ?_
  rw [show (fun j => f (0 + j)) = f from funext fun j => by rw [Nat.zero_add]]
  exact hK
theorem run_neq_bytes {ty len elem : TypeId} (hu : P.underlying ty = some (.array len elem)) (he : P.underlying elem = some (.int .u8)) (hsz : (P.info? elem).map (·.size) = some 1)
    (X Y : Array Value) (e f : Nat → BitVec 8) (hX : ∀ i, i < len → X[i]? = some (.int .u8 ((e i).toNat : Int))) (hY : ∀ i, i < len → Y[i]? = some (.int .u8 ((f i).toNat : Int))) (w : World) : (binOp .neq ty (.agg X) (.agg Y)).run P w = .ok (.bool (!sameUpto e f len)) w := by
  simp only [binOp]
  simp [Op.equal, Op.maxDepth, run_equalIn_bytes 9998 hu he hsz X Y e f hX hY w]
end Go.Proofs.YtnkjoambhmlnbaaGreatDoor.Aid

namespace Go.Proofs.YtnkjoambhmlnbaaGreatDoor.Aid
open Go Go.RowKit
variable {P : Program}

theorem load_as {w : World} {ops : Array Oper} {rest : List Oper} {op : Oper} {a : Act} {Q : Exit → Act → World → Prop} (hw : Region.wanted op (yielded ops a.tmps) = true) (ty : TypeId) (x : Operand) (ho : op.op = .load ty x) (g o t n m : Nat) (f : Nat → Value) (C : Array Value) (hC : cellsOf m (fun j => f (o + j)) = C) (h : w.rowIs g t n f)
    (hx : a.eval x = .pointer (some ⟨g, o, none⟩)) (d : TypeDesc) (hu : P.underlying ty = some d) (hd : d.isRow = true) (hi : (P.info? ty).map (·.size) = some m) (hm : o + m ≤ n)
    (hK : wpList P ops Q rest (a.put op.dst (.agg C)) w) : wpList P ops Q (op :: rest) a w := by
  refine load_row_met hw ty x ho g o t n m f h hx d hu hd hi hm ?_
  rw [hC]
  exact hK
theorem q_load_as {ops : Array Oper} {K : World → Prop} {Q : Act → Prop} {rest : List Oper} {op : Oper} {a : Act} (hw : Region.wanted op (yielded ops a.tmps) = true) (ty : TypeId) (x : Operand) (ho : op.op = .load ty x) (g o t n m : Nat) (f : Nat → Value) (C : Array Value) (hC : cellsOf m (fun j => f (o + j)) = C) (hr : ∀ w, K w → w.rowIs g t n f)
    (hx : a.eval x = .pointer (some ⟨g, o, none⟩)) (d : TypeDesc) (hu : P.underlying ty = some d) (hd : d.isRow = true) (hi : (P.info? ty).map (·.size) = some m) (hm : o + m ≤ n)
    (h : wpQuiet P ops K Q rest (a.put op.dst (.agg C))) : wpQuiet P ops K Q (op :: rest) a := by
  refine q_load hw ty x ho g o t n m f hr hx d hu hd hi hm ?_
  rw [hC]
  exact h
theorem cells_zero (m : Nat) (f : Nat → Value) : cellsOf m (fun j => f (0 + j)) = cellsOf m f := by
  rw [show (fun j => f (0 + j)) = f from funext fun j => by rw [Nat.zero_add]]
end Go.Proofs.YtnkjoambhmlnbaaGreatDoor.Aid
