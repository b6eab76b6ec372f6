/-
  What span.inRange and span.Slack do.
-/
import Derived.Test.YtmkmmpmhbahmeaaProg
import Derived.Test.YtmkmmpmhbahmeaaSpanPlain
namespace Go.Proofs.Ytmkmmpmhbahmeaa.Span
open Go Go.RowKit Go.Proofs.Ytmkmmpmhbahmeaa.Aid

theorem may_any (t p : Int) (w : World) : Calls Try.prog 27 #[.int .i64 t, .int .i64 p] w fun e w' => e = .returned (.bool (mayB t p)) ∧ w = w' := by
  by_cases h0 : 0 ≤ t <;> by_cases h1 : t ≤ 1152921504606846976 <;> by_cases h2 : 0 ≤ p <;> by_cases h3 : p ≤ 100000
  all_goals
    go_enter Try.func27, Try.ntmps27
    go_wp2
    go_ret
    exact ⟨retB (by unfold mayB; simp [*]), rfl⟩
theorem slack_no (t p : Int) (h : mayB t p = false) (w : World) : Calls Try.prog 28 #[.int .i64 t, .int .i64 p] w fun e w' => e = .returned (.int .i64 0) ∧ w = w' := by
  have hm := fun w => may_any t p w
  simp only [h] at hm
  have HM := Lib.hid hm
  clear hm h
  go_enter Try.func28, Try.ntmps28
  go_wp2_with (go_at_call 27; refine (HM.out _).mono ?_; rintro x w' ⟨rfl, rfl⟩)
  go_ret
  exact ⟨rfl, rfl⟩
theorem slack_yes (t p : Int) (h : mayB t p = true) (w : World) : Calls Try.prog 28 #[.int .i64 t, .int .i64 p] w fun e w' => e = .returned (.int .i64 (slackZ t p)) ∧ w = w' := by
  have hm := fun w => may_any t p w
  simp only [h] at hm
  have HM := Lib.hid hm
  clear hm
  have hS : slackZ t p = t / 1000000 * p + (t % 1000000 * p + 999999) / 1000000 := by unfold slackZ; rw [if_pos h]
  unfold mayB at h
  simp only [decide_eq_true_eq] at h
  obtain ⟨h0, h1, h2, h3⟩ := h
  have a0 : 0 ≤ t / 1000000 := by omega
  have a1 : t / 1000000 ≤ 1152921504606 := by omega
  have b0 : 0 ≤ t % 1000000 := by omega
  have b1 : t % 1000000 ≤ 999999 := by omega
  have d1 : t.tdiv 1000000 = t / 1000000 := Int.tdiv_eq_ediv_of_nonneg h0
  have m1 : t.tmod 1000000 = t % 1000000 := Int.tmod_eq_emod_of_nonneg h0
  generalize t / 1000000 = q at *
  generalize t % 1000000 = r at *
  have c0 : 0 ≤ q * p := Int.mul_nonneg a0 h2
  have c1 : q * p ≤ 1152921504606 * 100000 := Int.mul_le_mul a1 h3 h2 (by omega)
  have e0 : 0 ≤ r * p := Int.mul_nonneg b0 h2
  have e1 : r * p ≤ 999999 * 100000 := Int.mul_le_mul b1 h3 h2 (by omega)
  have d2 : (r * p + 999999).tdiv 1000000 = (r * p + 999999) / 1000000 := Int.tdiv_eq_ediv_of_nonneg (by omega)
  have f0 : 0 ≤ (r * p + 999999) / 1000000 := by omega
  have f1 : (r * p + 999999) / 1000000 ≤ 100000 := by omega
  have HS := Lib.hid hS
  clear hS
  go_enter Try.func28, Try.ntmps28
  go_wp2_with (go_at_call 27; refine (HM.out _).mono ?_; rintro x w' ⟨rfl, rfl⟩)
  go_ret
  exact ⟨retI (by rw [HS.out]; omega), rfl⟩
theorem slack_any (t p : Int) (w : World) : Calls Try.prog 28 #[.int .i64 t, .int .i64 p] w fun e w' => e = .returned (.int .i64 (slackZ t p)) ∧ w = w' := by
  cases h : mayB t p
  · have := slack_no t p h w
    rwa [show slackZ t p = 0 by unfold slackZ; rw [h]; rfl]
  · exact slack_yes t p h w
end Go.Proofs.Ytmkmmpmhbahmeaa.Span
