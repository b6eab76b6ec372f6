/-
  '==' and '!=' of two spans.
-/
import Derived.Test.YtmkmmpmhbahmeaaProg
import Derived.Test.YtmkmmpmhbahmeaaSpanPlain
namespace Go.Proofs.Ytmkmmpmhbahmeaa.Span
open Go Go.RowKit Go.Proofs.Ytmkmmpmhbahmeaa.Aid

/-- '==' of two spans. -/
theorem run_eql_sp (a b c d : Int) (W : World) : (binOp .eql 23 (sp a b) (sp c d)).run Try.prog W = .ok (.bool (decide (a = c ∧ b = d))) W := by
  unfold sp
  by_cases h0 : a = c <;> by_cases h1 : b = d <;> go_simp
theorem run_neq_sp (a b c d : Int) (W : World) : (binOp .neq 23 (sp a b) (sp c d)).run Try.prog W = .ok (.bool (!decide (a = c ∧ b = d))) W := by
  unfold sp
  by_cases h0 : a = c <;> by_cases h1 : b = d <;> go_simp
end Go.Proofs.Ytmkmmpmhbahmeaa.Span
