/-
  What the laws of layer 8 need of the program's own functions, as one bundle.
-/
import Derived.Test.YtmkmmpmhbahmeaaProg
import Derived.Test.YtmkmmpmhbahmeaaSpansAt
import Derived.Test.YtmkmmpmhbahmeaaClockPlain
namespace Go.Proofs.Ytmkmmpmhbahmeaa.Clock
open Go Go.RowKit Go.Proofs.Ytmkmmpmhbahmeaa.Aid Go.Proofs.Ytmkmmpmhbahmeaa.Span Go.Proofs.Ytmkmmpmhbahmeaa.Sweep

structure ClockHas : Prop where
  sample : ∀ (lo hi asked got p : Int) (w : World), Calls Try.prog 6 #[sp lo hi, .int .i64 asked, .int .i64 got, .int .i64 p] w fun x w' => x = .returned (.tuple #[sp (sampleLo lo hi asked got p) (sampleHi lo hi asked got p), .int .i64 (sampleC lo hi asked got p)]) ∧ Below w.heap.size w w'
  new : ∀ (p : Int) (w : World), Calls Try.prog 8 #[.int .i64 p] w fun x w' => x = .returned (.tuple #[ck (newP p) false 0 0 0, .int .i64 (newC p)]) ∧ Below w.heap.size w w'
  now : ∀ (p : Int) (on : Bool) (t lo hi n : Int) (w : World), Calls Try.prog 10 #[ck p on t lo hi, .int .i64 n] w fun x w' => x = .returned (.tuple #[sp (nowLo p on t lo hi n) (nowHi p on t lo hi n), .int .i64 (nowC p on t lo hi n)]) ∧ Below w.heap.size w w'
  set : ∀ (p : Int) (on : Bool) (t lo hi n : Int) (e : Nat → Int × Int) (N : Nat), N ≤ 100 → ∀ (L : Int) (v : Value) (w : World), mayC p on t lo hi = true → SpansAt w w.heap.size N e v →
    Calls Try.prog 13 #[ck p on t lo hi, .int .i64 n, v, .int .i64 L] w fun x w' => x = .returned (.tuple #[setV p n e N L, .int .i64 (setC n e N L)]) ∧ Below w.heap.size w w'
  off : ∀ (p : Int) (on : Bool) (t lo hi : Int) (w : World), Calls Try.prog 15 #[ck p on t lo hi] w fun x w' => x = .returned (ck p false 0 0 0) ∧ Below w.heap.size w w'
theorem setV_form (p n : Int) (e : Nat → Int × Int) (N : Nat) (L : Int) : ∃ q o t a b, setV p n e N L = ck q o t a b := by
  unfold setV
  split
  · exact ⟨_, _, _, _, _, rfl⟩
  · exact ⟨_, _, _, _, _, rfl⟩
end Go.Proofs.Ytmkmmpmhbahmeaa.Clock
