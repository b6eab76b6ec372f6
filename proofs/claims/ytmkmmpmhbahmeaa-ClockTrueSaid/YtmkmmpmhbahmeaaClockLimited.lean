/-
  What clock.reading, clock.isReading and clock.limited do.
-/
import Derived.Test.YtmkmmpmhbahmeaaClockPlain
import Derived.Test.YtmkmmpmhbahmeaaSpanRight
namespace Go.Proofs.Ytmkmmpmhbahmeaa.Clock
open Go Go.RowKit Go.Proofs.Ytmkmmpmhbahmeaa.Aid Go.Proofs.Ytmkmmpmhbahmeaa.Span Go.Proofs.Ytmkmmpmhbahmeaa.Sweep

/-- The nearest reading, and the nearest ppm. -/
def rdZ (n : Int) : Int := max 0 (min n 1152921504606846976)
def pdZ (p : Int) : Int := max 0 (min p 100000)
theorem readZ_any (n : Int) (w : World) : Calls Try.prog 33 #[.int .i64 n] w fun x w' => x = .returned (.int .i64 (rdZ n)) ∧ w = w' := by
  go_enter Try.func33, Try.ntmps33
  go_wp2
  all_goals
    go_ret
    exact ⟨retI (by unfold rdZ; omega), rfl⟩
theorem isReading_any (n : Int) (w : World) : Calls Try.prog 23 #[.int .i64 n] w fun x w' => x = .returned (.bool (readB n)) ∧ w = w' := by
  have h := readZ_any n
  have hr : readB n = decide (n = rdZ n) := by
    unfold readB rdZ
    by_cases h1 : 0 ≤ n ∧ n ≤ 1152921504606846976
    · rw [decide_eq_true h1, decide_eq_true (by omega)]
    · rw [decide_eq_false h1, decide_eq_false (by omega)]
  rw [hr]
  clear hr
  generalize rdZ n = x at *
  have H := Lib.hid h
  clear h
  by_cases h0 : n = x
  · subst h0
    go_enter Try.func23, Try.ntmps23
    go_wp2_with fail
    refine (H.out _).mono ?_
    rintro _ u1 ⟨rfl, rfl⟩
    go_wp2
    go_ret
    exact ⟨retB (by simp), rfl⟩
  · have h0' : ((n : Int) == x) = false := by simp; omega
    go_enter Try.func23, Try.ntmps23
    go_wp2_with fail
    refine (H.out _).mono ?_
    rintro _ u1 ⟨rfl, rfl⟩
    go_wp2
    go_ret
    exact ⟨retB (by simp [h0]), rfl⟩
/-- Five cells. -/
def five5 (v0 v1 v2 v3 v4 : Value) (i : Nat) : Value := #[v0, v1, v2, v3, v4].getD i undef
set_option maxRecDepth 100000 in
set_option maxHeartbeats 2000000 in
theorem limitedC_any (p : Int) (on : Bool) (t lo hi : Int) (w : World) : Calls Try.prog 31 #[ck p on t lo hi] w fun x w' => x = .returned (ck (pdZ p) on (rdZ t) lo hi) ∧ Below w.heap.size w w' := by
  have h := readZ_any t
  generalize rdZ t = x at *
  have HR := Lib.hid h
  clear h
  unfold ck
  obtain ⟨q, hq⟩ : ∃ q, q = pdZ p := ⟨_, rfl⟩
  rw [← hq]
  unfold pdZ at hq
  have hcase : (p ≤ 0 ∧ q = 0) ∨ (0 < p ∧ p ≤ 100000 ∧ q = p) ∨ (100000 < p ∧ q = 100000) := by omega
  clear hq
  rcases hcase with ⟨a1, rfl⟩ | ⟨a1, a2, hq⟩ | ⟨a1, rfl⟩
  · go_enter Try.func31, Try.ntmps31
    go_wp2
    obtain ⟨w1, hw1⟩ : ∃ w1, w1 = ((w.alloc (.cells #[.int .i64 p, .bool on, .int .i64 t, .int .i64 lo, .int .i64 hi] 25)).alloc (.cells #[.int .i64 0, .bool false, .int .i64 0, .int .i64 0, .int .i64 0] 25)) := ⟨_, rfl⟩
    have h0 : Below w.heap.size w w1 := by rw [hw1]; exact ((Below.refl _ _).alloc (Nat.le_refl _) _).alloc (by simp) _
    have hc0 : w1.cell? ⟨w.heap.size, 0, none⟩ = some (.int .i64 p) := by rw [hw1]; go_simp
    have hc1 : w1.cell? ⟨w.heap.size, 1, none⟩ = some (.bool on) := by rw [hw1]; go_simp
    have hc2 : w1.cell? ⟨w.heap.size, 2, none⟩ = some (.int .i64 t) := by rw [hw1]; go_simp
    have hc3 : w1.cell? ⟨w.heap.size, 3, none⟩ = some (.int .i64 lo) := by rw [hw1]; go_simp
    have hc4 : w1.cell? ⟨w.heap.size, 4, none⟩ = some (.int .i64 hi) := by rw [hw1]; go_simp
    have hr : w1.rowIs (w.heap.size + 1) 25 5 (five5 (.int .i64 0) (.bool false) (.int .i64 0) (.int .i64 0) (.int .i64 0)) := by
      have := row_new (w.alloc (.cells #[.int .i64 p, .bool on, .int .i64 t, .int .i64 lo, .int .i64 hi] 25)) #[.int .i64 0, .bool false, .int .i64 0, .int .i64 0, .int .i64 0] 25 5 (five5 (.int .i64 0) (.bool false) (.int .i64 0) (.int .i64 0) (.int .i64 0)) rfl (fun i hi => by match i, hi with | 0, _ => rfl | 1, _ => rfl | 2, _ => rfl | 3, _ => rfl | 4, _ => rfl)
      rw [hw1]
      simpa using this
    rw [← hw1]
    clear hw1
    have hS : (fun W => Below w.heap.size w W ∧ W.cell? ⟨w.heap.size, 0, none⟩ = some (.int .i64 p) ∧ W.cell? ⟨w.heap.size, 1, none⟩ = some (.bool on) ∧ W.cell? ⟨w.heap.size, 2, none⟩ = some (.int .i64 t) ∧ W.cell? ⟨w.heap.size, 3, none⟩ = some (.int .i64 lo) ∧ W.cell? ⟨w.heap.size, 4, none⟩ = some (.int .i64 hi) ∧ ∃ f, W.rowIs (w.heap.size + 1) 25 5 f) w1.drew := ⟨h0.drew, by simpa using hc0, by simpa using hc1, by simpa using hc2, by simpa using hc3, by simpa using hc4, _, hr⟩
    clear h0 hc0 hc1 hc2 hc3 hc4 hr
    refine region_mix (fun W => Below w.heap.size w W ∧ W.cell? ⟨w.heap.size, 0, none⟩ = some (.int .i64 p) ∧ W.cell? ⟨w.heap.size, 1, none⟩ = some (.bool on) ∧ W.cell? ⟨w.heap.size, 2, none⟩ = some (.int .i64 t) ∧ W.cell? ⟨w.heap.size, 3, none⟩ = some (.int .i64 lo) ∧ W.cell? ⟨w.heap.size, 4, none⟩ = some (.int .i64 hi) ∧ ∃ f, W.rowIs (w.heap.size + 1) 25 5 f) [(0, true), (1, true), (2, true), (3, true), (4, true), (5, true), (6, true), (7, true), (9, true), (10, true), (8, false), (11, false), (12, false)] (by kernel_rfl) (by kernel_rfl) hS ?_
    iterate 10
      refine m_val rfl (by rfl) _ (fun W ⟨_, c0, c1, c2, c3, c4, _⟩ => by go_simp; rfl) ?_
      simp only [Act.put, List.setIfInBounds_toArray, List.set_cons_zero, List.set_cons_succ]
    generalize w1.drew = w2 at *
    refine m_go rfl ?_
    go_wp2_with fail
    refine (HR.out _).mono ?_
    rintro _ w2 ⟨rfl, rfl⟩
    go_wp2_with fail
    refine m_on hS ?_
    refine m_go rfl ?_
    go_wp2_with fail
    refine m_on hS ?_
    obtain ⟨h2, _, _, _, _, _, f, hr⟩ := hS
    have c0 := hr.cell (i := 0) (by omega)
    have c1 := hr.cell (i := 1) (by omega)
    have c2 := hr.cell (i := 2) (by omega)
    have c3 := hr.cell (i := 3) (by omega)
    have c4 := hr.cell (i := 4) (by omega)
    have f0 := hr.frozen 0
    have f1 := hr.frozen 1
    have f2 := hr.frozen 2
    have f3 := hr.frozen 3
    have f4 := hr.frozen 4
    refine m_go rfl ?_
    go_wp2_with fail
    have hr' := ((((hr.set 0 (.int .i64 0)).set 1 (.bool on)).set 2 (.int .i64 x)).set 3 (.int .i64 lo)).set 4 (.int .i64 hi)
    refine m_on ⟨((((h2.setCell (by simp) _).setCell (by simp) _).setCell (by simp) _).setCell (by simp) _).setCell (by simp) _, by go_simp, by go_simp, by go_simp, by go_simp, by go_simp, _, hr'⟩ ?_
    refine m_end ?_
    clear hr'
    go_wp2
    exact bodyPost_ret (v := .agg #[(.int .i64 0), .bool on, .int .i64 x, .int .i64 lo, .int .i64 hi]) (by simp [results, Try.results31, go_sem, c0, c1, c2, c3, c4]) rfl ⟨rfl, ((((h2.setCell (by simp) _).setCell (by simp) _).setCell (by simp) _).setCell (by simp) _).setCell (by simp) _⟩
  · obtain rfl : p = q := hq.symm
    go_enter Try.func31, Try.ntmps31
    go_wp2
    obtain ⟨w1, hw1⟩ : ∃ w1, w1 = ((w.alloc (.cells #[.int .i64 p, .bool on, .int .i64 t, .int .i64 lo, .int .i64 hi] 25)).alloc (.cells #[.int .i64 0, .bool false, .int .i64 0, .int .i64 0, .int .i64 0] 25)) := ⟨_, rfl⟩
    have h0 : Below w.heap.size w w1 := by rw [hw1]; exact ((Below.refl _ _).alloc (Nat.le_refl _) _).alloc (by simp) _
    have hc0 : w1.cell? ⟨w.heap.size, 0, none⟩ = some (.int .i64 p) := by rw [hw1]; go_simp
    have hc1 : w1.cell? ⟨w.heap.size, 1, none⟩ = some (.bool on) := by rw [hw1]; go_simp
    have hc2 : w1.cell? ⟨w.heap.size, 2, none⟩ = some (.int .i64 t) := by rw [hw1]; go_simp
    have hc3 : w1.cell? ⟨w.heap.size, 3, none⟩ = some (.int .i64 lo) := by rw [hw1]; go_simp
    have hc4 : w1.cell? ⟨w.heap.size, 4, none⟩ = some (.int .i64 hi) := by rw [hw1]; go_simp
    have hr : w1.rowIs (w.heap.size + 1) 25 5 (five5 (.int .i64 0) (.bool false) (.int .i64 0) (.int .i64 0) (.int .i64 0)) := by
      have := row_new (w.alloc (.cells #[.int .i64 p, .bool on, .int .i64 t, .int .i64 lo, .int .i64 hi] 25)) #[.int .i64 0, .bool false, .int .i64 0, .int .i64 0, .int .i64 0] 25 5 (five5 (.int .i64 0) (.bool false) (.int .i64 0) (.int .i64 0) (.int .i64 0)) rfl (fun i hi => by match i, hi with | 0, _ => rfl | 1, _ => rfl | 2, _ => rfl | 3, _ => rfl | 4, _ => rfl)
      rw [hw1]
      simpa using this
    rw [← hw1]
    clear hw1
    have hS : (fun W => Below w.heap.size w W ∧ W.cell? ⟨w.heap.size, 0, none⟩ = some (.int .i64 p) ∧ W.cell? ⟨w.heap.size, 1, none⟩ = some (.bool on) ∧ W.cell? ⟨w.heap.size, 2, none⟩ = some (.int .i64 t) ∧ W.cell? ⟨w.heap.size, 3, none⟩ = some (.int .i64 lo) ∧ W.cell? ⟨w.heap.size, 4, none⟩ = some (.int .i64 hi) ∧ ∃ f, W.rowIs (w.heap.size + 1) 25 5 f) w1.drew := ⟨h0.drew, by simpa using hc0, by simpa using hc1, by simpa using hc2, by simpa using hc3, by simpa using hc4, _, hr⟩
    clear h0 hc0 hc1 hc2 hc3 hc4 hr
    refine region_mix (fun W => Below w.heap.size w W ∧ W.cell? ⟨w.heap.size, 0, none⟩ = some (.int .i64 p) ∧ W.cell? ⟨w.heap.size, 1, none⟩ = some (.bool on) ∧ W.cell? ⟨w.heap.size, 2, none⟩ = some (.int .i64 t) ∧ W.cell? ⟨w.heap.size, 3, none⟩ = some (.int .i64 lo) ∧ W.cell? ⟨w.heap.size, 4, none⟩ = some (.int .i64 hi) ∧ ∃ f, W.rowIs (w.heap.size + 1) 25 5 f) [(0, true), (1, true), (2, true), (3, true), (4, true), (5, true), (6, true), (7, true), (9, true), (10, true), (8, false), (11, false), (12, false)] (by kernel_rfl) (by kernel_rfl) hS ?_
    iterate 10
      refine m_val rfl (by rfl) _ (fun W ⟨_, c0, c1, c2, c3, c4, _⟩ => by go_simp; rfl) ?_
      simp only [Act.put, List.setIfInBounds_toArray, List.set_cons_zero, List.set_cons_succ]
    generalize w1.drew = w2 at *
    refine m_go rfl ?_
    go_wp2_with fail
    refine (HR.out _).mono ?_
    rintro _ w2 ⟨rfl, rfl⟩
    go_wp2_with fail
    refine m_on hS ?_
    refine m_go rfl ?_
    go_wp2_with fail
    refine m_on hS ?_
    obtain ⟨h2, _, _, _, _, _, f, hr⟩ := hS
    have c0 := hr.cell (i := 0) (by omega)
    have c1 := hr.cell (i := 1) (by omega)
    have c2 := hr.cell (i := 2) (by omega)
    have c3 := hr.cell (i := 3) (by omega)
    have c4 := hr.cell (i := 4) (by omega)
    have f0 := hr.frozen 0
    have f1 := hr.frozen 1
    have f2 := hr.frozen 2
    have f3 := hr.frozen 3
    have f4 := hr.frozen 4
    refine m_go rfl ?_
    go_wp2_with fail
    have hr' := ((((hr.set 0 (.int .i64 p)).set 1 (.bool on)).set 2 (.int .i64 x)).set 3 (.int .i64 lo)).set 4 (.int .i64 hi)
    refine m_on ⟨((((h2.setCell (by simp) _).setCell (by simp) _).setCell (by simp) _).setCell (by simp) _).setCell (by simp) _, by go_simp, by go_simp, by go_simp, by go_simp, by go_simp, _, hr'⟩ ?_
    refine m_end ?_
    clear hr'
    go_wp2
    exact bodyPost_ret (v := .agg #[(.int .i64 p), .bool on, .int .i64 x, .int .i64 lo, .int .i64 hi]) (by simp [results, Try.results31, go_sem, c0, c1, c2, c3, c4]) rfl ⟨rfl, ((((h2.setCell (by simp) _).setCell (by simp) _).setCell (by simp) _).setCell (by simp) _).setCell (by simp) _⟩
  · go_enter Try.func31, Try.ntmps31
    go_wp2
    obtain ⟨w1, hw1⟩ : ∃ w1, w1 = ((w.alloc (.cells #[.int .i64 p, .bool on, .int .i64 t, .int .i64 lo, .int .i64 hi] 25)).alloc (.cells #[.int .i64 0, .bool false, .int .i64 0, .int .i64 0, .int .i64 0] 25)) := ⟨_, rfl⟩
    have h0 : Below w.heap.size w w1 := by rw [hw1]; exact ((Below.refl _ _).alloc (Nat.le_refl _) _).alloc (by simp) _
    have hc0 : w1.cell? ⟨w.heap.size, 0, none⟩ = some (.int .i64 p) := by rw [hw1]; go_simp
    have hc1 : w1.cell? ⟨w.heap.size, 1, none⟩ = some (.bool on) := by rw [hw1]; go_simp
    have hc2 : w1.cell? ⟨w.heap.size, 2, none⟩ = some (.int .i64 t) := by rw [hw1]; go_simp
    have hc3 : w1.cell? ⟨w.heap.size, 3, none⟩ = some (.int .i64 lo) := by rw [hw1]; go_simp
    have hc4 : w1.cell? ⟨w.heap.size, 4, none⟩ = some (.int .i64 hi) := by rw [hw1]; go_simp
    have hr : w1.rowIs (w.heap.size + 1) 25 5 (five5 (.int .i64 0) (.bool false) (.int .i64 0) (.int .i64 0) (.int .i64 0)) := by
      have := row_new (w.alloc (.cells #[.int .i64 p, .bool on, .int .i64 t, .int .i64 lo, .int .i64 hi] 25)) #[.int .i64 0, .bool false, .int .i64 0, .int .i64 0, .int .i64 0] 25 5 (five5 (.int .i64 0) (.bool false) (.int .i64 0) (.int .i64 0) (.int .i64 0)) rfl (fun i hi => by match i, hi with | 0, _ => rfl | 1, _ => rfl | 2, _ => rfl | 3, _ => rfl | 4, _ => rfl)
      rw [hw1]
      simpa using this
    rw [← hw1]
    clear hw1
    have hS : (fun W => Below w.heap.size w W ∧ W.cell? ⟨w.heap.size, 0, none⟩ = some (.int .i64 p) ∧ W.cell? ⟨w.heap.size, 1, none⟩ = some (.bool on) ∧ W.cell? ⟨w.heap.size, 2, none⟩ = some (.int .i64 t) ∧ W.cell? ⟨w.heap.size, 3, none⟩ = some (.int .i64 lo) ∧ W.cell? ⟨w.heap.size, 4, none⟩ = some (.int .i64 hi) ∧ ∃ f, W.rowIs (w.heap.size + 1) 25 5 f) w1.drew := ⟨h0.drew, by simpa using hc0, by simpa using hc1, by simpa using hc2, by simpa using hc3, by simpa using hc4, _, hr⟩
    clear h0 hc0 hc1 hc2 hc3 hc4 hr
    refine region_mix (fun W => Below w.heap.size w W ∧ W.cell? ⟨w.heap.size, 0, none⟩ = some (.int .i64 p) ∧ W.cell? ⟨w.heap.size, 1, none⟩ = some (.bool on) ∧ W.cell? ⟨w.heap.size, 2, none⟩ = some (.int .i64 t) ∧ W.cell? ⟨w.heap.size, 3, none⟩ = some (.int .i64 lo) ∧ W.cell? ⟨w.heap.size, 4, none⟩ = some (.int .i64 hi) ∧ ∃ f, W.rowIs (w.heap.size + 1) 25 5 f) [(0, true), (1, true), (2, true), (3, true), (4, true), (5, true), (6, true), (7, true), (9, true), (10, true), (8, false), (11, false), (12, false)] (by kernel_rfl) (by kernel_rfl) hS ?_
    iterate 10
      refine m_val rfl (by rfl) _ (fun W ⟨_, c0, c1, c2, c3, c4, _⟩ => by go_simp; rfl) ?_
      simp only [Act.put, List.setIfInBounds_toArray, List.set_cons_zero, List.set_cons_succ]
    generalize w1.drew = w2 at *
    refine m_go rfl ?_
    go_wp2_with fail
    refine (HR.out _).mono ?_
    rintro _ w2 ⟨rfl, rfl⟩
    go_wp2_with fail
    refine m_on hS ?_
    refine m_go rfl ?_
    go_wp2_with fail
    refine m_on hS ?_
    obtain ⟨h2, _, _, _, _, _, f, hr⟩ := hS
    have c0 := hr.cell (i := 0) (by omega)
    have c1 := hr.cell (i := 1) (by omega)
    have c2 := hr.cell (i := 2) (by omega)
    have c3 := hr.cell (i := 3) (by omega)
    have c4 := hr.cell (i := 4) (by omega)
    have f0 := hr.frozen 0
    have f1 := hr.frozen 1
    have f2 := hr.frozen 2
    have f3 := hr.frozen 3
    have f4 := hr.frozen 4
    refine m_go rfl ?_
    go_wp2_with fail
    have hr' := ((((hr.set 0 (.int .i64 100000)).set 1 (.bool on)).set 2 (.int .i64 x)).set 3 (.int .i64 lo)).set 4 (.int .i64 hi)
    refine m_on ⟨((((h2.setCell (by simp) _).setCell (by simp) _).setCell (by simp) _).setCell (by simp) _).setCell (by simp) _, by go_simp, by go_simp, by go_simp, by go_simp, by go_simp, _, hr'⟩ ?_
    refine m_end ?_
    clear hr'
    go_wp2
    exact bodyPost_ret (v := .agg #[(.int .i64 100000), .bool on, .int .i64 x, .int .i64 lo, .int .i64 hi]) (by simp [results, Try.results31, go_sem, c0, c1, c2, c3, c4]) rfl ⟨rfl, ((((h2.setCell (by simp) _).setCell (by simp) _).setCell (by simp) _).setCell (by simp) _).setCell (by simp) _⟩
end Go.Proofs.Ytmkmmpmhbahmeaa.Clock
