/-
  What the laws of layer 7 need of the program's own functions, as one bundle; what is always fused, as a function; the example that the laws ask first.
-/
import Derived.Test.YtlkifbcgcmgpcaaProg
import Derived.Test.YtlkifbcgcmgpcaaSpansAt
import Derived.Test.YtlkifbcgcmgpcaaSweepPlain
namespace Go.Proofs.Ytlkifbcgcmgpcaa.Sweep
open Go Go.RowKit Go.Proofs.Ytlkifbcgcmgpcaa.Aid Go.Proofs.Ytlkifbcgcmgpcaa.Span

structure SweepHas : Prop where
  votes : ∀ (e : Nat → Int × Int) (N : Nat), N ≤ 100 → ∀ (t : Int) (v : Value) (w : World), SpansAt w w.heap.size N e v →
    Calls Try.prog 12 #[v, .int .i64 t] w fun x w' => x = .returned (.int .i64 (votes e t N : Int)) ∧ Below w.heap.size w w'
  fuse : ∀ (e : Nat → Int × Int) (N : Nat), N ≤ 100 → ∀ (L : Int) (v : Value) (w : World), SpansAt w w.heap.size N e v →
    Calls Try.prog 8 #[v, .int .i64 L] w fun x w' => x = .returned (.tuple #[sp (fuseR e N L).1 (fuseR e N L).2.1, .int .i64 (fuseR e N L).2.2]) ∧ Below w.heap.size w w'
  most : ∀ (e : Nat → Int × Int) (N : Nat), N ≤ 100 → ∀ (v : Value) (w : World), SpansAt w w.heap.size N e v →
    Calls Try.prog 10 #[v] w fun x w' => x = .returned (.tuple #[.int .i64 (mostR e N).1, .int .i64 (mostR e N).2.1, .int .i64 (mostR e N).2.2]) ∧ Below w.heap.size w w'
end Go.Proofs.Ytlkifbcgcmgpcaa.Sweep
