/-
  Regions that draw their order: span.limited, span.Right, span.Grow.
-/
import Derived.Test.YtggdbmpbceijdaaSpan
import Derived.Test.YtggdbmpbceijdaaAfter
namespace Go.Proofs.Ytggdbmpbceijdaa.Span
open Go Go.RowKit Go.Proofs.Ytggdbmpbceijdaa.Aid

set_option maxRecDepth 100000 in
theorem limited_any (a b : Int) (w : World) : Calls Try.prog 20 #[sp a b] w fun e w' => e = .returned (sp (lim a) (lim b)) ∧ Below w.heap.size w w' := by
  unfold sp
  go_enter Try.func20, Try.ntmps20
  go_wp2
  obtain ⟨w1, hw1⟩ : ∃ w1, w1 = ((w.alloc (.cells #[.int .i64 a, .int .i64 b] 23)).alloc (.cells #[.int .i64 0, .int .i64 0] 23)) := ⟨_, rfl⟩
  have h0 : Below w.heap.size w w1 := by rw [hw1]; exact ((Below.refl _ _).alloc (Nat.le_refl _) _).alloc (by simp) _
  have hc0 : w1.cell? ⟨w.heap.size, 0, none⟩ = some (.int .i64 a) := by rw [hw1]; go_simp
  have hc1 : w1.cell? ⟨w.heap.size, 1, none⟩ = some (.int .i64 b) := by rw [hw1]; go_simp
  have hr : w1.rowIs (w.heap.size + 1) 23 2 (fun _ => .int .i64 0) := by
    have := row_new (w.alloc (.cells #[.int .i64 a, .int .i64 b] 23)) #[.int .i64 0, .int .i64 0] 23 2 (fun _ => .int .i64 0) rfl (fun i hi => by match i, hi with | 0, _ => rfl | 1, _ => rfl)
    rw [hw1]
    simpa using this
  rw [← hw1]
  clear hw1
  have hS : (fun W => Below w.heap.size w W ∧ W.cell? ⟨w.heap.size, 0, none⟩ = some (.int .i64 a) ∧ W.cell? ⟨w.heap.size, 1, none⟩ = some (.int .i64 b) ∧ ∃ f, W.rowIs (w.heap.size + 1) 23 2 f) w1.drew := ⟨h0.drew, by simpa using hc0, by simpa using hc1, _, hr⟩
  clear h0 hc0 hc1 hr
  refine region_mix (fun W => Below w.heap.size w W ∧ W.cell? ⟨w.heap.size, 0, none⟩ = some (.int .i64 a) ∧ W.cell? ⟨w.heap.size, 1, none⟩ = some (.int .i64 b) ∧ ∃ f, W.rowIs (w.heap.size + 1) 23 2 f) [(0, true), (1, true), (3, true), (4, true), (2, false), (5, false), (6, false), (7, false)] (by kernel_rfl) (by kernel_rfl) hS ?_
  iterate 4
    refine m_val rfl (by rfl) _ (fun W ⟨_, c0, c1, _⟩ => by go_simp; rfl) ?_
    simp only [Act.put, List.setIfInBounds_toArray, List.set_cons_zero, List.set_cons_succ]
  generalize w1.drew = w2 at *
  refine m_go rfl ?_
  go_wp2_with fail
  refine (limit_same a _).mono ?_
  rintro _ w2 ⟨rfl, rfl⟩
  go_wp2_with fail
  refine m_on hS ?_
  refine m_go rfl ?_
  go_wp2_with fail
  refine (limit_same b _).mono ?_
  rintro _ w2 ⟨rfl, rfl⟩
  go_wp2_with fail
  refine m_on hS ?_
  refine m_go rfl ?_
  go_wp2_with fail
  refine m_on hS ?_
  obtain ⟨h2, _, _, f, hr⟩ := hS
  have c0 := hr.cell (i := 0) (by omega)
  have c1 := hr.cell (i := 1) (by omega)
  have f0 := hr.frozen 0
  have f1 := hr.frozen 1
  have hr' := (hr.set 0 (.int .i64 (lim a))).set 1 (.int .i64 (lim b))
  refine m_go rfl ?_
  go_wp2_with fail
  refine m_on ⟨(h2.setCell (by simp) _).setCell (by simp) _, by go_simp, by go_simp, _, hr'⟩ ?_
  refine m_end ?_
  clear hr'
  go_wp2
  exact bodyPost_ret (v := sp (lim a) (lim b)) (by simp [sp, results, Try.results20, go_sem, c0, c1]) rfl ⟨rfl, (h2.setCell (by simp) _).setCell (by simp) _⟩
theorem right_yes (a b : Int) (h : rightB a b = true) (w : World) : Calls Try.prog 10 #[sp a b] w fun e w' => e = .returned (.bool true) ∧ Below w.heap.size w w' := by
  have e1 := fun W => run_eql_sp a b (lim a) (lim b) W
  unfold rightB at h
  simp only [decide_eq_true_eq] at h
  obtain ⟨h1, h2, h3⟩ := h
  have e2 : decide (a = lim a ∧ b = lim b) = true := by unfold lim; rw [decide_eq_true_iff]; omega
  simp only [e2] at e1
  have h0 := limited_any a b
  clear e2 h1 h2
  unfold sp at *
  have H0 := Lib.hid h0
  clear h0
  generalize lim a = x at *
  generalize lim b = y at *
  go_enter Try.func10, Try.ntmps10
  go_wp2
  have hb0 : Below w.heap.size w (w.alloc (.cells #[.int .i64 a, .int .i64 b] 23)) := (Below.refl _ _).alloc (Nat.le_refl _) _
  have hc0 : (w.alloc (.cells #[.int .i64 a, .int .i64 b] 23)).cell? ⟨w.heap.size, 0, none⟩ = some (.int .i64 a) := by go_simp
  have hc1 : (w.alloc (.cells #[.int .i64 a, .int .i64 b] 23)).cell? ⟨w.heap.size, 1, none⟩ = some (.int .i64 b) := by go_simp
  have hz : w.heap.size < (w.alloc (.cells #[.int .i64 a, .int .i64 b] 23)).heap.size := by simp
  generalize w.alloc (.cells #[.int .i64 a, .int .i64 b] 23) = w1 at *
  have F1 := after_cell w1
  refine region_after (by kernel_rfl) (by kernel_rfl) ?_
  repeat (go_big_quiet_step ((go_at_call 20; exact after_call H0.out)))
  refine wpQuiet_nil ?_
  rintro _ ⟨x, rfl⟩
  have hb1 := hb0.trans ((after_below w1 x).mono hb0.size)
  clear F1 H0 e1
  generalize after w1 x = w2 at *
  go_wp2
  go_ret
  exact ⟨rfl, hb1⟩
theorem right_no (a b : Int) (h : rightB a b = false) (w : World) : Calls Try.prog 10 #[sp a b] w fun e w' => e = .returned (.bool false) ∧ Below w.heap.size w w' := by
  have e1 := fun W => run_eql_sp a b (lim a) (lim b) W
  have h0 := limited_any a b
  by_cases h3 : a ≤ b
  · have e2 : decide (a = lim a ∧ b = lim b) = false := by unfold rightB at h; simp only [decide_eq_false_iff_not] at h; unfold lim; rw [decide_eq_false_iff_not]; omega
    simp only [e2] at e1
    clear e2 h
    unfold sp at *
    have H0 := Lib.hid h0
    clear h0
    generalize lim a = x at *
    generalize lim b = y at *
    go_enter Try.func10, Try.ntmps10
    go_wp2
    have hb0 : Below w.heap.size w (w.alloc (.cells #[.int .i64 a, .int .i64 b] 23)) := (Below.refl _ _).alloc (Nat.le_refl _) _
    have hc0 : (w.alloc (.cells #[.int .i64 a, .int .i64 b] 23)).cell? ⟨w.heap.size, 0, none⟩ = some (.int .i64 a) := by go_simp
    have hc1 : (w.alloc (.cells #[.int .i64 a, .int .i64 b] 23)).cell? ⟨w.heap.size, 1, none⟩ = some (.int .i64 b) := by go_simp
    have hz : w.heap.size < (w.alloc (.cells #[.int .i64 a, .int .i64 b] 23)).heap.size := by simp
    generalize w.alloc (.cells #[.int .i64 a, .int .i64 b] 23) = w1 at *
    have F1 := after_cell w1
    refine region_after (by kernel_rfl) (by kernel_rfl) ?_
    repeat (go_big_quiet_step ((go_at_call 20; exact after_call H0.out)))
    refine wpQuiet_nil ?_
    rintro _ ⟨x, rfl⟩
    have hb1 := hb0.trans ((after_below w1 x).mono hb0.size)
    clear F1 H0 e1
    generalize after w1 x = w2 at *
    go_wp2
    go_ret
    exact ⟨rfl, hb1⟩
  · have h3' : decide (a ≤ b) = false := by simpa using h3
    clear e1 h h0 h3
    unfold sp at *
    go_enter Try.func10, Try.ntmps10
    go_wp2
    have hb0 : Below w.heap.size w (w.alloc (.cells #[.int .i64 a, .int .i64 b] 23)) := (Below.refl _ _).alloc (Nat.le_refl _) _
    have hc0 : (w.alloc (.cells #[.int .i64 a, .int .i64 b] 23)).cell? ⟨w.heap.size, 0, none⟩ = some (.int .i64 a) := by go_simp
    have hc1 : (w.alloc (.cells #[.int .i64 a, .int .i64 b] 23)).cell? ⟨w.heap.size, 1, none⟩ = some (.int .i64 b) := by go_simp
    have hz : w.heap.size < (w.alloc (.cells #[.int .i64 a, .int .i64 b] 23)).heap.size := by simp
    generalize w.alloc (.cells #[.int .i64 a, .int .i64 b] 23) = w1 at *
    have F1 := after_cell w1
    refine region_after (by kernel_rfl) (by kernel_rfl) ?_
    repeat (go_big_quiet_step (fail))
    refine wpQuiet_nil ?_
    rintro _ ⟨x, rfl⟩
    have hb1 := hb0.trans ((after_below w1 x).mono hb0.size)
    clear F1
    generalize after w1 x = w2 at *
    go_wp2
    go_ret
    exact ⟨rfl, hb1⟩
end Go.Proofs.Ytggdbmpbceijdaa.Span
