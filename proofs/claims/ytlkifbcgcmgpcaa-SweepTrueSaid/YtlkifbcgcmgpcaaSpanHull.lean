/-
  What span.Hull does.
-/
import Derived.Test.YtlkifbcgcmgpcaaProg
import Derived.Test.YtlkifbcgcmgpcaaSpanPlain
namespace Go.Proofs.Ytlkifbcgcmgpcaa.Span
open Go Go.RowKit Go.Proofs.Ytlkifbcgcmgpcaa.Aid

theorem hull_any (a b c d : Int) (w : World) : Calls Try.prog 16 #[sp a b, sp c d] w fun e w' => e = .returned (sp (min a c) (max b d)) ∧ Below w.heap.size w w' := by
  have e1 : (if c < a then c else a) = min a c := by omega
  have e2 : (if b < d then d else b) = max b d := by omega
  generalize min a c = x at *
  generalize max b d = y at *
  unfold sp
  go_enter Try.func16, Try.ntmps16
  go_wp2
  exact bodyPost_ret (v := sp x y) (by simp [sp, results, Try.results16, go_sem]) rfl ⟨rfl, (((Below.refl _ _).alloc (Nat.le_refl _) _).alloc (by simp) _).alloc (by simp; omega) _⟩
end Go.Proofs.Ytlkifbcgcmgpcaa.Span
