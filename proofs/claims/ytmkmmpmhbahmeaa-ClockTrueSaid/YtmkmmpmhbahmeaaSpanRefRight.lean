/-
  What the document's Right does.
-/
import Derived.Test.YtmkmmpmhbahmeaaProg
import Derived.Test.YtmkmmpmhbahmeaaSpanPlain
namespace Go.Proofs.Ytmkmmpmhbahmeaa.Span
open Go Go.RowKit Go.Proofs.Ytmkmmpmhbahmeaa.Aid

theorem refRight_any (a b : Int) (w : World) : Calls Try.prog 17 #[sp a b] w fun e w' => e = .returned (.bool (rightB a b)) ∧ Below w.heap.size w w' := by
  unfold sp
  by_cases h0 : -1152921504606846976 ≤ a <;> by_cases h1 : b ≤ 1152921504606846976 <;> by_cases h2 : a ≤ b
  all_goals first
    | (exfalso; omega)
    | (go_enter Try.func17, Try.ntmps17
       go_wp2
       go_ret
       exact ⟨retB (by unfold rightB; simp [*]), (Below.refl _ _).alloc (Nat.le_refl _) _⟩)

end Go.Proofs.Ytmkmmpmhbahmeaa.Span
