/-
  The walk of bartizanlaw06.SpanSteps: for any span and any three numbers it returns true, and writes nothing that was there.
-/
import Derived.Test.YtggdbmpbceijdaaLaw06Grows
import Derived.Test.YtggdbmpbceijdaaFork
import Derived.Deep.DeepCutAuto
namespace Go.Proofs.Ytggdbmpbceijdaa.Span
open Go Go.RowKit Go.Proofs.Ytggdbmpbceijdaa.Aid

theorem mem13 (w : World) (a b n0 n1 n2 : Int) : Mem w [(w.heap.size + 1, 0, .int .i64 n0), (w.heap.size + 1, 1, .int .i64 n1), (w.heap.size + 1, 2, .int .i64 n2), (w.heap.size, 0, .int .i64 a), (w.heap.size, 1, .int .i64 b)]
    ((w.alloc (.cells #[.int .i64 a, .int .i64 b] 23)).alloc (.cells #[.int .i64 n0, .int .i64 n1, .int .i64 n2] 24)) := by
  have M := ((Mem.nil w).two (.int .i64 a) (.int .i64 b) 23 w.heap.size rfl).alloc #[.int .i64 n0, .int .i64 n1, .int .i64 n2] 24 3 (by simp)
  rw [World.size_alloc] at M
  exact M
def StepsRel (l : List (Nat × Nat × Value)) (w : World) (z0 z1 : Int) (v : Value) (wx : World) : Prop := ∃ g, v = .pointer (some ⟨g, 0, none⟩) ∧ Mem w ((g, 0, .int .i64 z0) :: (g, 1, .int .i64 z1) :: l) wx
/-- What P6.3 says of two steps. -/
theorem steps_facts (a b n0 n1 p : Int) (h : rightB a b = true) (h1 : 0 ≤ p) (h2 : p ≤ 100000) (h3 : 0 ≤ n0) (h4 : 0 ≤ n1) (h5 : n0 ≤ 288230376151711744) (h6 : n1 ≤ 288230376151711744) :
    mayB n0 p = true ∧ growLo (growLo a n0 p) n1 p ≤ growLo a (n0 + n1) p ∧ growHi b (n0 + n1) p ≤ growHi (growHi b n0 p) n1 p ∧ slackZ (n0 + n1) p ≤ slackZ n0 p + slackZ n1 p ∧ slackZ n0 p + slackZ n1 p ≤ slackZ (n0 + n1) p + 1 ∧
    IntKind.i64.wrap (slackZ n0 p + slackZ n1 p) = slackZ n0 p + slackZ n1 p ∧ IntKind.i64.wrap (slackZ (n0 + n1) p + 1) = slackZ (n0 + n1) p + 1 := by
  have m0 : mayB n0 p = true := by unfold mayB; rw [decide_eq_true_iff]; omega
  have m1 : mayB n1 p = true := by unfold mayB; rw [decide_eq_true_iff]; omega
  have m2 : mayB (n0 + n1) p = true := by unfold mayB; rw [decide_eq_true_iff]; omega
  obtain ⟨k0, k1, k2⟩ := slack_bounds n0 p m0
  obtain ⟨l0, l1, l2⟩ := slack_bounds n1 p m1
  obtain ⟨j0, j1, j2⟩ := slack_bounds (n0 + n1) p m2
  obtain ⟨r0, r1, r2⟩ := right_range a b h
  have e0 := slack_at n0 p m0
  have e1 := slack_at n1 p m1
  have e2 := slack_at (n0 + n1) p m2
  rw [Int.add_mul] at e2
  have d1 : slackZ (n0 + n1) p ≤ slackZ n0 p + slackZ n1 p := by omega
  have d2 : slackZ n0 p + slackZ n1 p ≤ slackZ (n0 + n1) p + 1 := by omega
  clear e0 e1 e2
  refine ⟨m0, ?_, ?_, d1, d2, IntWalk.i64_in _ (by omega), IntWalk.i64_in _ (by omega)⟩
  · unfold growLo lim
    rw [if_pos m0, if_pos m1, if_pos m2]
    omega
  · unfold growHi lim
    rw [if_pos m0, if_pos m1, if_pos m2]
    omega

set_option maxRecDepth 100000 in
set_option maxHeartbeats 4000000 in
theorem steps_out (a b n0 n1 n2 : Int) (h : n2 < 0 ∨ 100000 < n2 ∨ n0 < 0 ∨ n1 < 0 ∨ 288230376151711744 < n0 ∨ 288230376151711744 < n1) (w : World) : Calls Try.prog 6 #[sp a b, .agg #[.int .i64 n0, .int .i64 n1, .int .i64 n2]] w fun e w' => e = .returned (.bool true) ∧ Below w.heap.size w w' := by
  by_cases q0 : n2 < 0
  · have M := mem13 w a b n0 n1 n2
    clear h
    unfold sp
    go_enter Try.func6, Try.ntmps6
    go_wp2_with fail
    refine (awake_any _).mono ?_
    rintro _ u1 ⟨rfl, hb⟩
    replace M := M.step hb
    clear hb
    have x0 := M.at_ 0 rfl
    have x1 := M.at_ 1 rfl
    have x2 := M.at_ 2 rfl
    have x3 := M.at_ 3 rfl
    have x4 := M.at_ 4 rfl
    go_wp2
    go_ret
    exact ⟨rfl, M.below⟩
  by_cases q1 : 100000 < n2
  · have M := mem13 w a b n0 n1 n2
    clear h
    unfold sp
    go_enter Try.func6, Try.ntmps6
    go_wp2_with fail
    refine (awake_any _).mono ?_
    rintro _ u11 ⟨rfl, hb⟩
    replace M := M.step hb
    clear hb
    have x0 := M.at_ 0 rfl
    have x1 := M.at_ 1 rfl
    have x2 := M.at_ 2 rfl
    have x3 := M.at_ 3 rfl
    have x4 := M.at_ 4 rfl
    go_wp2
    go_ret
    exact ⟨rfl, M.below⟩
  by_cases q2 : n0 < 0
  · have M := mem13 w a b n0 n1 n2
    clear h
    unfold sp
    go_enter Try.func6, Try.ntmps6
    go_wp2_with fail
    refine (awake_any _).mono ?_
    rintro _ u21 ⟨rfl, hb⟩
    replace M := M.step hb
    clear hb
    have x0 := M.at_ 0 rfl
    have x1 := M.at_ 1 rfl
    have x2 := M.at_ 2 rfl
    have x3 := M.at_ 3 rfl
    have x4 := M.at_ 4 rfl
    go_wp2
    go_ret
    exact ⟨rfl, M.below⟩
  by_cases q3 : n1 < 0
  · have M := mem13 w a b n0 n1 n2
    clear h
    unfold sp
    go_enter Try.func6, Try.ntmps6
    go_wp2_with fail
    refine (awake_any _).mono ?_
    rintro _ u31 ⟨rfl, hb⟩
    replace M := M.step hb
    clear hb
    have x0 := M.at_ 0 rfl
    have x1 := M.at_ 1 rfl
    have x2 := M.at_ 2 rfl
    have x3 := M.at_ 3 rfl
    have x4 := M.at_ 4 rfl
    go_wp2
    go_ret
    exact ⟨rfl, M.below⟩
  by_cases q4 : 288230376151711744 < n0
  · have M := mem13 w a b n0 n1 n2
    clear h
    unfold sp
    go_enter Try.func6, Try.ntmps6
    go_wp2_with fail
    refine (awake_any _).mono ?_
    rintro _ u41 ⟨rfl, hb⟩
    replace M := M.step hb
    clear hb
    have x0 := M.at_ 0 rfl
    have x1 := M.at_ 1 rfl
    have x2 := M.at_ 2 rfl
    have x3 := M.at_ 3 rfl
    have x4 := M.at_ 4 rfl
    go_wp2
    go_ret
    exact ⟨rfl, M.below⟩
  by_cases q5 : 288230376151711744 < n1
  · have M := mem13 w a b n0 n1 n2
    clear h
    unfold sp
    go_enter Try.func6, Try.ntmps6
    go_wp2_with fail
    refine (awake_any _).mono ?_
    rintro _ u51 ⟨rfl, hb⟩
    replace M := M.step hb
    clear hb
    have x0 := M.at_ 0 rfl
    have x1 := M.at_ 1 rfl
    have x2 := M.at_ 2 rfl
    have x3 := M.at_ 3 rfl
    have x4 := M.at_ 4 rfl
    go_wp2
    go_ret
    exact ⟨rfl, M.below⟩
  exact absurd h (by omega)
set_option maxRecDepth 100000 in
set_option maxHeartbeats 4000000 in
theorem steps_not (a b n0 n1 n2 : Int) (q0 : 0 ≤ n2) (q1 : n2 ≤ 100000) (q2 : 0 ≤ n0) (q3 : 0 ≤ n1) (q4 : n0 ≤ 288230376151711744) (q5 : n1 ≤ 288230376151711744) (hr : rightB a b = false) (w : World) : Calls Try.prog 6 #[sp a b, .agg #[.int .i64 n0, .int .i64 n1, .int .i64 n2]] w fun e w' => e = .returned (.bool true) ∧ Below w.heap.size w w' := by
  have r1 := right_any a b
  rw [hr] at r1
  unfold sp at r1
  have R1 := Lib.hid r1
  clear r1 hr
  have M := mem13 w a b n0 n1 n2
  unfold sp
  go_enter Try.func6, Try.ntmps6
  go_wp2_with fail
  refine (awake_any _).mono ?_
  rintro _ u1 ⟨rfl, hb⟩
  replace M := M.step hb
  clear hb
  have x0 := M.at_ 0 rfl
  have x1 := M.at_ 1 rfl
  have x2 := M.at_ 2 rfl
  have x3 := M.at_ 3 rfl
  have x4 := M.at_ 4 rfl
  go_wp2_with fail
  refine (R1.out _).mono ?_
  rintro _ u2 ⟨rfl, hb⟩
  replace M := M.step hb
  clear hb x0 x1 x2 x3 x4
  have x0 := M.at_ 0 rfl
  have x1 := M.at_ 1 rfl
  have x2 := M.at_ 2 rfl
  have x3 := M.at_ 3 rfl
  have x4 := M.at_ 4 rfl
  go_wp2
  go_ret
  exact ⟨rfl, M.below⟩
set_option maxRecDepth 100000 in
set_option maxHeartbeats 4000000 in
theorem steps_yes (a b n0 n1 n2 : Int) (q0 : 0 ≤ n2) (q1 : n2 ≤ 100000) (q2 : 0 ≤ n0) (q3 : 0 ≤ n1) (q4 : n0 ≤ 288230376151711744) (q5 : n1 ≤ 288230376151711744) (hr : rightB a b = true) (w : World) : Calls Try.prog 6 #[sp a b, .agg #[.int .i64 n0, .int .i64 n1, .int .i64 n2]] w fun e w' => e = .returned (.bool true) ∧ Below w.heap.size w w' := by
  obtain ⟨m0, f1, f2, f3, f4, f5, f6⟩ := steps_facts a b n0 n1 n2 hr q0 q1 q2 q3 q4 q5
  have r1 := right_any a b
  rw [hr] at r1
  have t1 := grow_any a b (n0 + n1) n2 hr
  have t2 := grow_any a b n0 n2 hr
  have t3 := grow_any _ _ n1 n2 (grow_right a b n0 n2 m0 hr)
  have s1 := slack_any (n0 + n1) n2
  have s2 := slack_any n0 n2
  have s3 := slack_any n1 n2
  clear m0 hr
  generalize growLo (growLo a n0 n2) n1 n2 = z0 at *
  generalize growHi (growHi b n0 n2) n1 n2 = z1 at *
  generalize growLo a n0 n2 = y0 at *
  generalize growHi b n0 n2 = y1 at *
  generalize growLo a (n0 + n1) n2 = v0 at *
  generalize growHi b (n0 + n1) n2 = v1 at *
  generalize slackZ (n0 + n1) n2 = K at *
  generalize slackZ n0 n2 = K0 at *
  generalize slackZ n1 n2 = K1 at *
  unfold sp at *
  have R1 := Lib.hid r1
  have T1 := Lib.hid t1
  have T2 := Lib.hid t2
  have T3 := Lib.hid t3
  have S1 := Lib.hid s1
  have S2 := Lib.hid s2
  have S3 := Lib.hid s3
  have E5 := Lib.hid f5
  have E6 := Lib.hid f6
  clear r1 t1 t2 t3 s1 s2 s3 f5 f6
  have M := mem13 w a b n0 n1 n2
  go_enter Try.func6, Try.ntmps6
  go_wp2_with fail
  refine (awake_any _).mono ?_
  rintro _ u1 ⟨rfl, hb⟩
  replace M := M.step hb
  clear hb
  have x0 := M.at_ 0 rfl
  have x1 := M.at_ 1 rfl
  have x2 := M.at_ 2 rfl
  have x3 := M.at_ 3 rfl
  have x4 := M.at_ 4 rfl
  go_wp2_with fail
  refine (R1.out _).mono ?_
  rintro _ u2 ⟨rfl, hb⟩
  replace M := M.step hb
  clear hb x0 x1 x2 x3 x4
  have x0 := M.at_ 0 rfl
  have x1 := M.at_ 1 rfl
  have x2 := M.at_ 2 rfl
  have x3 := M.at_ 3 rfl
  have x4 := M.at_ 4 rfl
  go_wp2_with fail
  refine (T1.out _).mono ?_
  rintro _ u3 ⟨rfl, hb⟩
  replace M := (M.step hb).two (.int .i64 v0) (.int .i64 v1) 23 u3.heap.size rfl
  clear hb x0 x1 x2 x3 x4
  have x0 := M.at_ 0 rfl
  have x1 := M.at_ 1 rfl
  have x2 := M.at_ 2 rfl
  have x3 := M.at_ 3 rfl
  have x4 := M.at_ 4 rfl
  have x5 := M.at_ 5 rfl
  have x6 := M.at_ 6 rfl
  go_wp2
  generalize hU : u3.alloc (.cells #[.int .i64 v0, .int .i64 v1] 23) = U at *
  clear hU x0 x1 x2 x3 x4 x5 x6
  generalize u3.heap.size = g1 at *
  go_cut [8] (fun v wx => StepsRel [(g1, 0, .int .i64 v0), (g1, 1, .int .i64 v1), (w.heap.size + 1, 0, .int .i64 n0), (w.heap.size + 1, 1, .int .i64 n1), (w.heap.size + 1, 2, .int .i64 n2), (w.heap.size, 0, .int .i64 a), (w.heap.size, 1, .int .i64 b)] w z0 z1 v wx)
  case first =>
    clear T1 S1 S2 S3 E5 E6 f1 f2 f3 f4 q0 q1 q2 q3 q4 q5
    have hS : Mem w [(g1, 0, .int .i64 v0), (g1, 1, .int .i64 v1), (w.heap.size + 1, 0, .int .i64 n0), (w.heap.size + 1, 1, .int .i64 n1), (w.heap.size + 1, 2, .int .i64 n2), (w.heap.size, 0, .int .i64 a), (w.heap.size, 1, .int .i64 b)] U.drew := M.step (Below.refl _ _).drew
    refine region_h (fun W => Mem w [(g1, 0, .int .i64 v0), (g1, 1, .int .i64 v1), (w.heap.size + 1, 0, .int .i64 n0), (w.heap.size + 1, 1, .int .i64 n1), (w.heap.size + 1, 2, .int .i64 n2), (w.heap.size, 0, .int .i64 a), (w.heap.size, 1, .int .i64 b)] W) 11 (by kernel_rfl) rfl ?_
    refine f_take 0 rfl (by kernel_rfl) (by rfl) _ (fun W hW => by have x2 := hW.at_ 2 rfl; have x3 := hW.at_ 3 rfl; have x4 := hW.at_ 4 rfl; have x5 := hW.at_ 5 rfl; have x6 := hW.at_ 6 rfl; go_simp; rfl) hS ?_
    simp only [Act.put, List.setIfInBounds_toArray, List.set_cons_zero, List.set_cons_succ]
    refine f_take 1 rfl (by kernel_rfl) (by rfl) _ (fun W hW => by have x2 := hW.at_ 2 rfl; have x3 := hW.at_ 3 rfl; have x4 := hW.at_ 4 rfl; have x5 := hW.at_ 5 rfl; have x6 := hW.at_ 6 rfl; go_simp; rfl) hS ?_
    simp only [Act.put, List.setIfInBounds_toArray, List.set_cons_zero, List.set_cons_succ]
    refine f_take 2 rfl (by kernel_rfl) (by rfl) _ (fun W hW => by have x2 := hW.at_ 2 rfl; have x3 := hW.at_ 3 rfl; have x4 := hW.at_ 4 rfl; have x5 := hW.at_ 5 rfl; have x6 := hW.at_ 6 rfl; go_simp; rfl) hS ?_
    simp only [Act.put, List.setIfInBounds_toArray, List.set_cons_zero, List.set_cons_succ]
    refine f_take 3 rfl (by kernel_rfl) (by rfl) _ (fun W hW => by have x2 := hW.at_ 2 rfl; have x3 := hW.at_ 3 rfl; have x4 := hW.at_ 4 rfl; have x5 := hW.at_ 5 rfl; have x6 := hW.at_ 6 rfl; go_simp; rfl) hS ?_
    simp only [Act.put, List.setIfInBounds_toArray, List.set_cons_zero, List.set_cons_succ]
    refine f_take 5 rfl (by kernel_rfl) (by rfl) _ (fun W hW => by have x2 := hW.at_ 2 rfl; have x3 := hW.at_ 3 rfl; have x4 := hW.at_ 4 rfl; have x5 := hW.at_ 5 rfl; have x6 := hW.at_ 6 rfl; go_simp; rfl) hS ?_
    simp only [Act.put, List.setIfInBounds_toArray, List.set_cons_zero, List.set_cons_succ]
    refine f_take 6 rfl (by kernel_rfl) (by rfl) _ (fun W hW => by have x2 := hW.at_ 2 rfl; have x3 := hW.at_ 3 rfl; have x4 := hW.at_ 4 rfl; have x5 := hW.at_ 5 rfl; have x6 := hW.at_ 6 rfl; go_simp; rfl) hS ?_
    simp only [Act.put, List.setIfInBounds_toArray, List.set_cons_zero, List.set_cons_succ]
    refine f_take 7 rfl (by kernel_rfl) (by rfl) _ (fun W hW => by have x2 := hW.at_ 2 rfl; have x3 := hW.at_ 3 rfl; have x4 := hW.at_ 4 rfl; have x5 := hW.at_ 5 rfl; have x6 := hW.at_ 6 rfl; go_simp; rfl) hS ?_
    simp only [Act.put, List.setIfInBounds_toArray, List.set_cons_zero, List.set_cons_succ]
    clear M
    generalize U.drew = U2 at *
    have hal : ∀ W : World, Below W.heap.size W (W.alloc (.cells #[.int .i64 0, .int .i64 0] 23)) := fun W => (Below.refl _ _).alloc (Nat.le_refl _) _
    have HAL := Lib.hid hal
    clear hal
    refine f_two 4 9 rfl rfl (by kernel_rfl) ?_ ?_
    · go_wp2_with fail
      refine (T2.out _).mono ?_
      rintro _ u4 ⟨rfl, hb⟩
      replace hS := hS.step hb
      clear hb
      go_wp2_with fail
      refine m_on hS ?_
      refine f_two 8 9 rfl rfl (by kernel_rfl) ?_ ?_
      · go_wp2_with fail
        refine (T3.out _).mono ?_
        rintro _ u5 ⟨rfl, hb⟩
        replace hS := hS.step hb
        clear hb
        go_wp2_with fail
        refine m_on hS ?_
        refine f_go 9 rfl (by kernel_rfl) ?_
        go_wp2_with fail
        refine m_on (hS.step (HAL.out _)) ?_
        refine f_go 10 rfl (by kernel_rfl) ?_
        have hM := hS.two (.int .i64 z0) (.int .i64 z1) 23 u5.heap.size rfl
        go_wp2_with fail
        refine m_on (hS.step ((Below.refl _ _).alloc (Nat.le_refl _) _)) ?_
        refine f_end (by kernel_rfl) ?_
        go_wp2_with fail
        go_meet
        exact ⟨_, rfl, hM⟩
      · go_wp2_with fail
        have hr := row_new u4 #[.int .i64 0, .int .i64 0] 23 2 (fun _ => .int .i64 0) rfl (fun i hi => by match i, hi with | 0, _ => rfl | 1, _ => rfl)
        have hb0 := HAL.out u4
        refine m_on (hS.step hb0) ?_
        refine f_go 8 rfl (by kernel_rfl) ?_
        go_wp2_with fail
        refine (T3.out _).mono ?_
        rintro _ u5 ⟨rfl, hb⟩
        replace hr := hr.of_block (hb.block _ hr.lt)
        replace hb0 := hb0.trans (hb.mono hb0.size)
        clear hb
        go_wp2_with fail
        refine m_on (hS.step hb0) ?_
        refine f_go 10 rfl (by kernel_rfl) ?_
        have hr' := (hr.set 0 (.int .i64 z0)).set 1 (.int .i64 z1)
        have hb1 := (hb0.setCell (p := ⟨u4.heap.size, 0, none⟩) (Nat.le_refl _) (.int .i64 z0)).setCell (p := ⟨u4.heap.size, 1, none⟩) (Nat.le_refl _) (.int .i64 z1)
        have hM := (hS.step hb1).row hr'
        have c0 := hr.cell (i := 0) (by omega)
        have c1 := hr.cell (i := 1) (by omega)
        have f0 := hr.frozen 0
        have f1 := hr.frozen 1
        have HS := Lib.hid (hS.step hb1)
        clear hr hr' hS hb0 hb1
        go_wp2_with fail
        refine m_on HS.out ?_
        refine f_end (by kernel_rfl) ?_
        go_wp2_with fail
        go_meet
        exact ⟨_, rfl, hM⟩
    · go_wp2_with fail
      have hr := row_new U2 #[.int .i64 0, .int .i64 0] 23 2 (fun _ => .int .i64 0) rfl (fun i hi => by match i, hi with | 0, _ => rfl | 1, _ => rfl)
      have hb0 := HAL.out U2
      refine m_on (hS.step hb0) ?_
      refine f_go 4 rfl (by kernel_rfl) ?_
      go_wp2_with fail
      refine (T2.out _).mono ?_
      rintro _ u4 ⟨rfl, hb⟩
      replace hr := hr.of_block (hb.block _ hr.lt)
      replace hb0 := hb0.trans (hb.mono hb0.size)
      clear hb
      go_wp2_with fail
      refine m_on (hS.step hb0) ?_
      refine f_go 8 rfl (by kernel_rfl) ?_
      go_wp2_with fail
      refine (T3.out _).mono ?_
      rintro _ u5 ⟨rfl, hb⟩
      replace hr := hr.of_block (hb.block _ hr.lt)
      replace hb0 := hb0.trans (hb.mono hb0.size)
      clear hb
      go_wp2_with fail
      refine m_on (hS.step hb0) ?_
      refine f_go 10 rfl (by kernel_rfl) ?_
      have hr' := (hr.set 0 (.int .i64 z0)).set 1 (.int .i64 z1)
      have hb1 := (hb0.setCell (p := ⟨U2.heap.size, 0, none⟩) (Nat.le_refl _) (.int .i64 z0)).setCell (p := ⟨U2.heap.size, 1, none⟩) (Nat.le_refl _) (.int .i64 z1)
      have hM := (hS.step hb1).row hr'
      have c0 := hr.cell (i := 0) (by omega)
      have c1 := hr.cell (i := 1) (by omega)
      have f0 := hr.frozen 0
      have f1 := hr.frozen 1
      have HS := Lib.hid (hS.step hb1)
      clear hr hr' hS hb0 hb1
      go_wp2_with fail
      refine m_on HS.out ?_
      refine f_end (by kernel_rfl) ?_
      go_wp2_with fail
      go_meet
      exact ⟨_, rfl, hM⟩
  case rest =>
    obtain ⟨g2, rfl, M⟩ := hcut
    have x0 := M.at_ 0 rfl
    have x1 := M.at_ 1 rfl
    have x2 := M.at_ 2 rfl
    have x3 := M.at_ 3 rfl
    have x4 := M.at_ 4 rfl
    have x5 := M.at_ 5 rfl
    have x6 := M.at_ 6 rfl
    have x7 := M.at_ 7 rfl
    have x8 := M.at_ 8 rfl
    go_wp2_with fail
    refine (S1.out _).mono ?_
    rintro _ u51 ⟨rfl, rfl⟩
    have e5 := E5.out
    have e6 := E6.out
    clear E5 E6 R1 T1 T2 T3
    go_wp2
    have l0 := M.lt 0 rfl
    have l2 := M.lt 2 rfl
    have l4 := M.lt 4 rfl
    have l7 := M.lt 7 rfl
    have F1 := after_cell wc
    refine region_after (by kernel_rfl) (by kernel_rfl) ?_
    repeat (go_big_quiet_step ((first | (go_at_call_of 14 n0; exact after_call_same S2.out) | (go_at_call_of 14 n1; exact after_call_same S3.out))))
    refine wpQuiet_nil ?_
    rintro _ ⟨x, rfl⟩
    replace M := M.step (after_below wc x)
    clear F1 l0 l2 l4 l7 x0 x1 x2 x3 x4 x5 x6 x7 x8
    generalize after wc x = u52 at *
    have x0 := M.at_ 0 rfl
    have x1 := M.at_ 1 rfl
    have x2 := M.at_ 2 rfl
    have x3 := M.at_ 3 rfl
    have x4 := M.at_ 4 rfl
    have x5 := M.at_ 5 rfl
    have x6 := M.at_ 6 rfl
    have x7 := M.at_ 7 rfl
    have x8 := M.at_ 8 rfl
    clear S1 S2 S3 e5
    go_wp2
    go_ret
    exact ⟨rfl, M.below⟩
theorem steps_any (a b n0 n1 n2 : Int) (w : World) : Calls Try.prog 6 #[sp a b, .agg #[.int .i64 n0, .int .i64 n1, .int .i64 n2]] w fun e w' => e = .returned (.bool true) ∧ Below w.heap.size w w' := by
  by_cases h : n2 < 0 ∨ 100000 < n2 ∨ n0 < 0 ∨ n1 < 0 ∨ 288230376151711744 < n0 ∨ 288230376151711744 < n1
  · exact steps_out a b n0 n1 n2 h w
  cases hr : rightB a b
  · exact steps_not a b n0 n1 n2 (by omega) (by omega) (by omega) (by omega) (by omega) (by omega) hr w
  · exact steps_yes a b n0 n1 n2 (by omega) (by omega) (by omega) (by omega) (by omega) (by omega) hr w
end Go.Proofs.Ytggdbmpbceijdaa.Span
