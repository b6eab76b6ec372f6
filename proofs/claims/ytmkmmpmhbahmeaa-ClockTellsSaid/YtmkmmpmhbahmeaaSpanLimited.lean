/-
  What span.limit and span.limited do.
-/
import Derived.Test.YtmkmmpmhbahmeaaSpanEql
import Derived.Test.YtmkmmpmhbahmeaaAfter
namespace Go.Proofs.Ytmkmmpmhbahmeaa.Span
open Go Go.RowKit Go.Proofs.Ytmkmmpmhbahmeaa.Aid

theorem limit_same (t : Int) (w : World) : Calls Try.prog 40 #[.int .i64 t] w fun e w' => e = .returned (.int .i64 (lim t)) ∧ w = w' := by
  go_enter Try.func40, Try.ntmps40
  go_wp2
  all_goals
    go_ret
    exact ⟨retI (by unfold lim; omega), rfl⟩

set_option maxRecDepth 100000 in
theorem limited_any (a b : Int) (w : World) : Calls Try.prog 29 #[sp a b] w fun e w' => e = .returned (sp (lim a) (lim b)) ∧ Below w.heap.size w w' := by
  unfold sp
  go_enter Try.func29, Try.ntmps29
  go_wp2
  obtain ⟨w1, hw1⟩ : ∃ w1, w1 = ((w.alloc (.cells #[.int .i64 a, .int .i64 b] 23)).alloc (.cells #[.int .i64 0, .int .i64 0] 23)) := ⟨_, rfl⟩
  have h0 : Below w.heap.size w w1 := by rw [hw1]; exact ((Below.refl _ _).alloc (Nat.le_refl _) _).alloc (by simp) _
  have hc0 : w1.cell? ⟨w.heap.size, 0, none⟩ = some (.int .i64 a) := by rw [hw1]; go_simp
  have hc1 : w1.cell? ⟨w.heap.size, 1, none⟩ = some (.int .i64 b) := by rw [hw1]; go_simp
  have hr : w1.rowIs (w.heap.size + 1) 23 2 (fun _ => .int .i64 0) := by
    have := row_new (w.alloc (.cells #[.int .i64 a, .int .i64 b] 23)) #[.int .i64 0, .int .i64 0] 23 2 (fun _ => .int .i64 0) rfl (fun i hi => by match i, hi with | 0, _ => rfl | 1, _ => rfl)
    rw [hw1]
    simpa using this
  rw [← hw1]
  clear hw1
  have hS : (fun W => Below w.heap.size w W ∧ W.cell? ⟨w.heap.size, 0, none⟩ = some (.int .i64 a) ∧ W.cell? ⟨w.heap.size, 1, none⟩ = some (.int .i64 b) ∧ ∃ f, W.rowIs (w.heap.size + 1) 23 2 f) w1.drew := ⟨h0.drew, by simpa using hc0, by simpa using hc1, _, hr⟩
  clear h0 hc0 hc1 hr
  refine region_mix (fun W => Below w.heap.size w W ∧ W.cell? ⟨w.heap.size, 0, none⟩ = some (.int .i64 a) ∧ W.cell? ⟨w.heap.size, 1, none⟩ = some (.int .i64 b) ∧ ∃ f, W.rowIs (w.heap.size + 1) 23 2 f) [(0, true), (1, true), (3, true), (4, true), (2, false), (5, false), (6, false), (7, false)] (by kernel_rfl) (by kernel_rfl) hS ?_
  iterate 4
    refine m_val rfl (by rfl) _ (fun W ⟨_, c0, c1, _⟩ => by go_simp; rfl) ?_
    simp only [Act.put, List.setIfInBounds_toArray, List.set_cons_zero, List.set_cons_succ]
  generalize w1.drew = w2 at *
  refine m_go rfl ?_
  go_wp2_with fail
  refine (limit_same a _).mono ?_
  rintro _ w2 ⟨rfl, rfl⟩
  go_wp2_with fail
  refine m_on hS ?_
  refine m_go rfl ?_
  go_wp2_with fail
  refine (limit_same b _).mono ?_
  rintro _ w2 ⟨rfl, rfl⟩
  go_wp2_with fail
  refine m_on hS ?_
  refine m_go rfl ?_
  go_wp2_with fail
  refine m_on hS ?_
  obtain ⟨h2, _, _, f, hr⟩ := hS
  have c0 := hr.cell (i := 0) (by omega)
  have c1 := hr.cell (i := 1) (by omega)
  have f0 := hr.frozen 0
  have f1 := hr.frozen 1
  have hr' := (hr.set 0 (.int .i64 (lim a))).set 1 (.int .i64 (lim b))
  refine m_go rfl ?_
  go_wp2_with fail
  refine m_on ⟨(h2.setCell (by simp) _).setCell (by simp) _, by go_simp, by go_simp, _, hr'⟩ ?_
  refine m_end ?_
  clear hr'
  go_wp2
  exact bodyPost_ret (v := sp (lim a) (lim b)) (by simp [sp, results, Try.results29, go_sem, c0, c1]) rfl ⟨rfl, (h2.setCell (by simp) _).setCell (by simp) _⟩
end Go.Proofs.Ytmkmmpmhbahmeaa.Span
