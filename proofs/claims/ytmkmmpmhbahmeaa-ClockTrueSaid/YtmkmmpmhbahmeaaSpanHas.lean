/-
  What span.Has does.
-/
import Derived.Test.YtmkmmpmhbahmeaaProg
import Derived.Test.YtmkmmpmhbahmeaaSpanPlain
namespace Go.Proofs.Ytmkmmpmhbahmeaa.Span
open Go Go.RowKit Go.Proofs.Ytmkmmpmhbahmeaa.Aid

theorem has_any (a b t : Int) (w : World) : Calls Try.prog 19 #[sp a b, .int .i64 t] w fun e w' => e = .returned (.bool (hasB a b t)) ∧ Below w.heap.size w w' := by
  unfold sp
  by_cases h0 : a ≤ t <;> by_cases h1 : t ≤ b
  all_goals
    go_enter Try.func19, Try.ntmps19
    go_wp2
    go_ret
    exact ⟨retB (by unfold hasB; simp [*]), (Below.refl _ _).alloc (Nat.le_refl _) _⟩
end Go.Proofs.Ytmkmmpmhbahmeaa.Span
