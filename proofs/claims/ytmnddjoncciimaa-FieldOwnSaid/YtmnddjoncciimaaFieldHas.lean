/-
  What the laws of layer 9 need of the program's own functions, as one bundle.
-/
import Derived.Test.YtmnddjoncciimaaRefSplit
import Derived.Test.YtmnddjoncciimaaRefWord
import Derived.Test.YtmnddjoncciimaaRefTake
import Derived.Test.YtmnddjoncciimaaNameB
namespace Go.Proofs.Ytmnddjoncciimaa.Field
open Go Go.RowKit Go.Proofs.Ytmnddjoncciimaa.Aid Go.Proofs.Ytmnddjoncciimaa.Law01

structure FieldHas : Prop where
  put : ∀ (len : Nat) (m : Nat → Nat) (e : Nat → Nat → BitVec 8) (v : Value) (w : World), PartsOf w len m e v → off m len + len ≤ 100000 →
    Calls Try.prog 8 #[v] w fun x w' => ∃ r, x = .returned (.tuple #[r, .int .i64 (putC len m)]) ∧ Own w' w.heap.size (putN len m) (encB m e len) r ∧ Below w.heap.size w w'
  split : ∀ (A : Option Addr) (c n : Nat) (E : Nat → BitVec 8) (w : World), n ≤ 100000 → SliceOf w w.heap.size n E (.slice A n c) → Calls Try.prog 10 #[.slice A n c] w (SplitPost E n w)
  number : ∀ (n : Int) (w : World), Calls Try.prog 18 #[.int .i64 n] w fun x w' => ∃ v, x = .returned v ∧ Own w' w.heap.size 8 (numB n) v ∧ Below w.heap.size w w'
  take : ∀ (A : Option Addr) (c n : Nat) (E : Nat → BitVec 8) (w : World), n ≤ 1000000 → SliceOf w w.heap.size n E (.slice A n c) → Calls Try.prog 12 #[.slice A n c] w fun x w' => x = .returned (.tuple #[.int .i64 (takeV E n), .int .i64 (takeC n)]) ∧ Below w.heap.size w w'
  word : ∀ (A : Option Addr) (c n : Nat) (E : Nat → BitVec 8) (w : World), n ≤ 1000000 → SliceOf w w.heap.size n E (.slice A n c) → Calls Try.prog 14 #[.slice A n c] w fun x w' => x = .returned (.tuple #[wordV (wordE n E), .int .i64 (wordC n)]) ∧ Below w.heap.size w w'
  name : ∀ (s : ByteArray) (w : World), s.size ≤ 9000000000000000000 → Calls Try.prog 20 #[.string s] w fun x w' => x = .returned (.bool (nameB s)) ∧ Below w.heap.size w w'
end Go.Proofs.Ytmnddjoncciimaa.Field
