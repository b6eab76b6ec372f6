/-
  What span.Right does.
-/
import Derived.Test.YtmkmmpmhbahmeaaSpanLimited
namespace Go.Proofs.Ytmkmmpmhbahmeaa.Span
open Go Go.RowKit Go.Proofs.Ytmkmmpmhbahmeaa.Aid

theorem right_yes (a b : Int) (h : rightB a b = true) (w : World) : Calls Try.prog 32 #[sp a b] w fun e w' => e = .returned (.bool true) ∧ Below w.heap.size w w' := by
  have e1 := fun W => run_eql_sp a b (lim a) (lim b) W
  unfold rightB at h
  simp only [decide_eq_true_eq] at h
  obtain ⟨h1, h2, h3⟩ := h
  have e2 : decide (a = lim a ∧ b = lim b) = true := by unfold lim; rw [decide_eq_true_iff]; omega
  simp only [e2] at e1
  have h0 := limited_any a b
  clear e2 h1 h2
  unfold sp at *
  have H0 := Lib.hid h0
  clear h0
  generalize lim a = x at *
  generalize lim b = y at *
  go_enter Try.func32, Try.ntmps32
  go_wp2
  have hb0 : Below w.heap.size w (w.alloc (.cells #[.int .i64 a, .int .i64 b] 23)) := (Below.refl _ _).alloc (Nat.le_refl _) _
  have hc0 : (w.alloc (.cells #[.int .i64 a, .int .i64 b] 23)).cell? ⟨w.heap.size, 0, none⟩ = some (.int .i64 a) := by go_simp
  have hc1 : (w.alloc (.cells #[.int .i64 a, .int .i64 b] 23)).cell? ⟨w.heap.size, 1, none⟩ = some (.int .i64 b) := by go_simp
  have hz : w.heap.size < (w.alloc (.cells #[.int .i64 a, .int .i64 b] 23)).heap.size := by simp
  generalize w.alloc (.cells #[.int .i64 a, .int .i64 b] 23) = w1 at *
  have F1 := after_cell w1
  refine region_after (by kernel_rfl) (by kernel_rfl) ?_
  repeat (go_big_quiet_step ((go_at_call 29; exact after_call H0.out)))
  refine wpQuiet_nil ?_
  rintro _ ⟨x, rfl⟩
  have hb1 := hb0.trans ((after_below w1 x).mono hb0.size)
  clear F1 H0 e1
  generalize after w1 x = w2 at *
  go_wp2
  go_ret
  exact ⟨rfl, hb1⟩
theorem right_no (a b : Int) (h : rightB a b = false) (w : World) : Calls Try.prog 32 #[sp a b] w fun e w' => e = .returned (.bool false) ∧ Below w.heap.size w w' := by
  have e1 := fun W => run_eql_sp a b (lim a) (lim b) W
  have h0 := limited_any a b
  by_cases h3 : a ≤ b
  · have e2 : decide (a = lim a ∧ b = lim b) = false := by unfold rightB at h; simp only [decide_eq_false_iff_not] at h; unfold lim; rw [decide_eq_false_iff_not]; omega
    simp only [e2] at e1
    clear e2 h
    unfold sp at *
    have H0 := Lib.hid h0
    clear h0
    generalize lim a = x at *
    generalize lim b = y at *
    go_enter Try.func32, Try.ntmps32
    go_wp2
    have hb0 : Below w.heap.size w (w.alloc (.cells #[.int .i64 a, .int .i64 b] 23)) := (Below.refl _ _).alloc (Nat.le_refl _) _
    have hc0 : (w.alloc (.cells #[.int .i64 a, .int .i64 b] 23)).cell? ⟨w.heap.size, 0, none⟩ = some (.int .i64 a) := by go_simp
    have hc1 : (w.alloc (.cells #[.int .i64 a, .int .i64 b] 23)).cell? ⟨w.heap.size, 1, none⟩ = some (.int .i64 b) := by go_simp
    have hz : w.heap.size < (w.alloc (.cells #[.int .i64 a, .int .i64 b] 23)).heap.size := by simp
    generalize w.alloc (.cells #[.int .i64 a, .int .i64 b] 23) = w1 at *
    have F1 := after_cell w1
    refine region_after (by kernel_rfl) (by kernel_rfl) ?_
    repeat (go_big_quiet_step ((go_at_call 29; exact after_call H0.out)))
    refine wpQuiet_nil ?_
    rintro _ ⟨x, rfl⟩
    have hb1 := hb0.trans ((after_below w1 x).mono hb0.size)
    clear F1 H0 e1
    generalize after w1 x = w2 at *
    go_wp2
    go_ret
    exact ⟨rfl, hb1⟩
  · have h3' : decide (a ≤ b) = false := by simpa using h3
    clear e1 h h0 h3
    unfold sp at *
    go_enter Try.func32, Try.ntmps32
    go_wp2
    have hb0 : Below w.heap.size w (w.alloc (.cells #[.int .i64 a, .int .i64 b] 23)) := (Below.refl _ _).alloc (Nat.le_refl _) _
    have hc0 : (w.alloc (.cells #[.int .i64 a, .int .i64 b] 23)).cell? ⟨w.heap.size, 0, none⟩ = some (.int .i64 a) := by go_simp
    have hc1 : (w.alloc (.cells #[.int .i64 a, .int .i64 b] 23)).cell? ⟨w.heap.size, 1, none⟩ = some (.int .i64 b) := by go_simp
    have hz : w.heap.size < (w.alloc (.cells #[.int .i64 a, .int .i64 b] 23)).heap.size := by simp
    generalize w.alloc (.cells #[.int .i64 a, .int .i64 b] 23) = w1 at *
    have F1 := after_cell w1
    refine region_after (by kernel_rfl) (by kernel_rfl) ?_
    repeat (go_big_quiet_step (fail))
    refine wpQuiet_nil ?_
    rintro _ ⟨x, rfl⟩
    have hb1 := hb0.trans ((after_below w1 x).mono hb0.size)
    clear F1
    generalize after w1 x = w2 at *
    go_wp2
    go_ret
    exact ⟨rfl, hb1⟩
theorem right_any (a b : Int) (w : World) : Calls Try.prog 32 #[sp a b] w fun e w' => e = .returned (.bool (rightB a b)) ∧ Below w.heap.size w w' := by
  cases h : rightB a b
  · exact right_no a b h w
  · exact right_yes a b h w
end Go.Proofs.Ytmkmmpmhbahmeaa.Span
