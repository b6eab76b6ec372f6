/-
  What span.Width does.
-/
import Derived.Test.YtlkifbcgcmgpcaaProg
import Derived.Test.YtlkifbcgcmgpcaaSpanPlain
namespace Go.Proofs.Ytlkifbcgcmgpcaa.Span
open Go Go.RowKit Go.Proofs.Ytlkifbcgcmgpcaa.Aid

theorem width_any (a b : Int) (h : IntKind.i64.wrap (b - a) = b - a) (w : World) : Calls Try.prog 17 #[sp a b] w fun e w' => e = .returned (.int .i64 (b - a)) ∧ Below w.heap.size w w' := by
  unfold sp
  go_enter Try.func17, Try.ntmps17
  go_wp2
  go_ret
  exact ⟨rfl, (Below.refl _ _).alloc (Nat.le_refl _) _⟩
end Go.Proofs.Ytlkifbcgcmgpcaa.Span
