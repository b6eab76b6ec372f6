/-
  What the laws of layer 4 need of the program's own functions, as one bundle.
-/
import Derived.Test.YtcdgdoeegehjhaaCtrKnown
import Derived.Test.YtcdgdoeegehjhaaRefXored
import Derived.Test.YtcdgdoeegehjhaaAesEq
import Derived.Test.YtcdgdoeegehjhaaSl
import Derived.Test.YtcdgdoeegehjhaaMix
import Derived.Test.YtcdgdoeegehjhaaSame
namespace Go.Proofs.Ytcdgdoeegehjhaa.Ctr
open Go Go.RowKit Go.Proofs.Ytcdgdoeegehjhaa.Aid Go.Proofs.Ytcdgdoeegehjhaa.Aes

structure CtrHas : Prop where
  next : ∀ (at_ : Blk) (by_ : Nat), by_ < 2 ^ 64 → ∀ X : Array Value, X.size = 16 → (∀ i, i < 16 → X[i]? = some (.int .u8 ((at_ i).toNat : Int))) → ∀ W : World,
    Calls Try.prog 10 #[.agg X, .int .u64 (by_ : Int)] W fun x w' => x = .returned (.agg (byteRow 16 (nextB at_ by_))) ∧ Below W.heap.size W w'
  flip : ∀ (key at_ e : Nat → BitVec 8) (X Y : Array Value), X.size = 16 → (∀ i, i < 16 → X[i]? = some (.int .u8 ((key i).toNat : Int))) → Y.size = 16 → (∀ i, i < 16 → Y[i]? = some (.int .u8 ((at_ i).toNat : Int))) →
    ∀ (A : Option Addr) (n c : Nat) (W : World), SliceOf W W.heap.size n e (.slice A n c) → n ≤ 1000 →
    Calls Try.prog 8 #[.agg X, .agg Y, .slice A n c] W fun x w' => ∃ A' c', x = .returned (.slice A' n c') ∧ SliceOf w' w'.heap.size n (flipB key at_ e) (.slice A' n c') ∧ Below W.heap.size W w'

/-- Two blocks that are the same, compared. -/
theorem eq_same16 (f g : Blk) (h : Same16 f g) (W : World) : (binOp .eql 22 (.agg (byteRow 16 f)) (.agg (byteRow 16 g))).run Try.prog W = .ok (.bool true) W := by
  rw [show byteRow 16 f = byteRow 16 g from cellsOf_congr (fun i hi => by rw [h i hi])]
  exact eq16 g W
end Go.Proofs.Ytcdgdoeegehjhaa.Ctr
