/-
  '==' and '!=' of two spans.
-/
import Derived.Test.YtlkifbcgcmgpcaaProg
import Derived.Test.YtlkifbcgcmgpcaaSpanPlain
namespace Go.Proofs.Ytlkifbcgcmgpcaa.Span
open Go Go.RowKit Go.Proofs.Ytlkifbcgcmgpcaa.Aid

/-- '==' of two spans. -/
theorem run_eql_sp (a b c d : Int) (W : World) : (binOp .eql 25 (sp a b) (sp c d)).run Try.prog W = .ok (.bool (decide (a = c ∧ b = d))) W := by
  unfold sp
  by_cases h0 : a = c <;> by_cases h1 : b = d <;> go_simp
theorem run_neq_sp (a b c d : Int) (W : World) : (binOp .neq 25 (sp a b) (sp c d)).run Try.prog W = .ok (.bool (!decide (a = c ∧ b = d))) W := by
  unfold sp
  by_cases h0 : a = c <;> by_cases h1 : b = d <;> go_simp
end Go.Proofs.Ytlkifbcgcmgpcaa.Span
