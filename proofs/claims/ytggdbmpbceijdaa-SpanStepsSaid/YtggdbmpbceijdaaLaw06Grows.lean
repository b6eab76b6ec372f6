/-
  The walk of bartizanlaw06.SpanGrows: for any span and any four numbers it returns true, and writes nothing that was there.
-/
import Derived.Test.YtggdbmpbceijdaaLaw06Tells
namespace Go.Proofs.Ytggdbmpbceijdaa.Span
open Go Go.RowKit Go.Proofs.Ytggdbmpbceijdaa.Aid

theorem mem14 (w : World) (a b n0 n1 n2 n3 : Int) : Mem w [(w.heap.size + 1, 0, .int .i64 n0), (w.heap.size + 1, 1, .int .i64 n1), (w.heap.size + 1, 2, .int .i64 n2), (w.heap.size + 1, 3, .int .i64 n3), (w.heap.size, 0, .int .i64 a), (w.heap.size, 1, .int .i64 b)]
    ((w.alloc (.cells #[.int .i64 a, .int .i64 b] 23)).alloc (.cells #[.int .i64 n0, .int .i64 n1, .int .i64 n2, .int .i64 n3] 35)) := by
  have M := ((Mem.nil w).two (.int .i64 a) (.int .i64 b) 23 w.heap.size rfl).alloc #[.int .i64 n0, .int .i64 n1, .int .i64 n2, .int .i64 n3] 35 4 (by simp)
  rw [World.size_alloc] at M
  exact M
theorem slack_at (t p : Int) (h : mayB t p = true) : slackZ t p = (t * p + 999999) / 1000000 := by
  unfold slackZ
  rw [if_pos h]
  have e : t * p = t / 1000000 * p * 1000000 + t % 1000000 * p := by
    have h1 : t = t / 1000000 * 1000000 + t % 1000000 := by omega
    calc t * p = (t / 1000000 * 1000000 + t % 1000000) * p := by rw [← h1]
      _ = _ := by rw [Int.add_mul, Int.mul_right_comm]
  generalize t / 1000000 * p = x at *
  generalize t % 1000000 * p = y at *
  omega
theorem grow_right (a b t p : Int) (hm : mayB t p = true) (h : rightB a b = true) : rightB (growLo a t p) (growHi b t p) = true := by
  obtain ⟨k0, k1, k2⟩ := slack_bounds t p hm
  obtain ⟨r0, r1, r2⟩ := right_range a b h
  unfold growLo growHi
  rw [if_pos hm, if_pos hm]
  unfold rightB lim
  rw [decide_eq_true_iff]
  omega
/-- What P6.3 says of growing. -/
theorem grows_facts (a b t ticks ran p : Int) (h : rightB a b = true) (h1 : 0 ≤ p) (h2 : p ≤ 100000) (h3 : 0 ≤ ticks) (h4 : ticks ≤ 1099511627776) (h5 : 0 ≤ ran) (h6 : ran ≤ 2199023255552) (h7 : -576460752303423488 ≤ a) (h8 : b ≤ 576460752303423488)
    (h9 : hasB a b t = true) (h10 : -(slackZ ticks p) ≤ ran - ticks) (h11 : ran - ticks ≤ slackZ ticks p) :
    mayB ticks p = true ∧ hasB (growLo a ticks p) (growHi b ticks p) (t + ran) = true ∧ rightB (growLo a ticks p) (growHi b ticks p) = true ∧ growHi b ticks p - growLo a ticks p = b - a + 2 * slackZ ticks p ∧ IntKind.i64.wrap (t + ran) = t + ran ∧ IntKind.i64.wrap (b - a) = b - a ∧
    IntKind.i64.wrap (2 * slackZ ticks p) = 2 * slackZ ticks p ∧ IntKind.i64.wrap (b - a + 2 * slackZ ticks p) = b - a + 2 * slackZ ticks p ∧ IntKind.i64.wrap (growHi b ticks p - growLo a ticks p) = growHi b ticks p - growLo a ticks p := by
  have hm : mayB ticks p = true := by unfold mayB; rw [decide_eq_true_iff]; omega
  obtain ⟨k0, k1, k2⟩ := slack_bounds ticks p hm
  obtain ⟨r0, r1, r2⟩ := right_range a b h
  unfold hasB at h9
  rw [decide_eq_true_iff] at h9
  have e1 : growLo a ticks p = a + ticks - slackZ ticks p := by unfold growLo lim; rw [if_pos hm]; omega
  have e2 : growHi b ticks p = b + ticks + slackZ ticks p := by unfold growHi lim; rw [if_pos hm]; omega
  refine ⟨hm, ?_, grow_right a b ticks p hm h, ?_, IntWalk.i64_in _ (by omega), IntWalk.i64_in _ (by omega), IntWalk.i64_in _ (by omega), IntWalk.i64_in _ (by omega), ?_⟩
  · rw [e1, e2]; unfold hasB; rw [decide_eq_true_iff]; omega
  · rw [e1, e2]; omega
  · rw [e1, e2]; exact IntWalk.i64_in _ (by omega)

set_option maxRecDepth 100000 in
set_option maxHeartbeats 4000000 in
theorem grows_out (a b n0 n1 n2 n3 : Int) (h : n3 < 0 ∨ 100000 < n3 ∨ n1 < 0 ∨ 1099511627776 < n1 ∨ n2 < 0 ∨ 2199023255552 < n2) (w : World) : Calls Try.prog 4 #[sp a b, .agg #[.int .i64 n0, .int .i64 n1, .int .i64 n2, .int .i64 n3]] w fun e w' => e = .returned (.bool true) ∧ Below w.heap.size w w' := by
  by_cases q0 : n3 < 0
  · have M := mem14 w a b n0 n1 n2 n3
    clear h
    unfold sp
    go_enter Try.func4, Try.ntmps4
    go_wp2_with fail
    refine (awake_any _).mono ?_
    rintro _ u1 ⟨rfl, hb⟩
    replace M := M.step hb
    clear hb
    have x0 := M.at_ 0 rfl
    have x1 := M.at_ 1 rfl
    have x2 := M.at_ 2 rfl
    have x3 := M.at_ 3 rfl
    have x4 := M.at_ 4 rfl
    have x5 := M.at_ 5 rfl
    go_wp2
    go_ret
    exact ⟨rfl, M.below⟩
  by_cases q1 : 100000 < n3
  · have M := mem14 w a b n0 n1 n2 n3
    clear h
    unfold sp
    go_enter Try.func4, Try.ntmps4
    go_wp2_with fail
    refine (awake_any _).mono ?_
    rintro _ u11 ⟨rfl, hb⟩
    replace M := M.step hb
    clear hb
    have x0 := M.at_ 0 rfl
    have x1 := M.at_ 1 rfl
    have x2 := M.at_ 2 rfl
    have x3 := M.at_ 3 rfl
    have x4 := M.at_ 4 rfl
    have x5 := M.at_ 5 rfl
    go_wp2
    go_ret
    exact ⟨rfl, M.below⟩
  by_cases q2 : n1 < 0
  · have M := mem14 w a b n0 n1 n2 n3
    clear h
    unfold sp
    go_enter Try.func4, Try.ntmps4
    go_wp2_with fail
    refine (awake_any _).mono ?_
    rintro _ u21 ⟨rfl, hb⟩
    replace M := M.step hb
    clear hb
    have x0 := M.at_ 0 rfl
    have x1 := M.at_ 1 rfl
    have x2 := M.at_ 2 rfl
    have x3 := M.at_ 3 rfl
    have x4 := M.at_ 4 rfl
    have x5 := M.at_ 5 rfl
    go_wp2
    go_ret
    exact ⟨rfl, M.below⟩
  by_cases q3 : 1099511627776 < n1
  · have M := mem14 w a b n0 n1 n2 n3
    clear h
    unfold sp
    go_enter Try.func4, Try.ntmps4
    go_wp2_with fail
    refine (awake_any _).mono ?_
    rintro _ u31 ⟨rfl, hb⟩
    replace M := M.step hb
    clear hb
    have x0 := M.at_ 0 rfl
    have x1 := M.at_ 1 rfl
    have x2 := M.at_ 2 rfl
    have x3 := M.at_ 3 rfl
    have x4 := M.at_ 4 rfl
    have x5 := M.at_ 5 rfl
    go_wp2
    go_ret
    exact ⟨rfl, M.below⟩
  by_cases q4 : n2 < 0
  · have M := mem14 w a b n0 n1 n2 n3
    clear h
    unfold sp
    go_enter Try.func4, Try.ntmps4
    go_wp2_with fail
    refine (awake_any _).mono ?_
    rintro _ u41 ⟨rfl, hb⟩
    replace M := M.step hb
    clear hb
    have x0 := M.at_ 0 rfl
    have x1 := M.at_ 1 rfl
    have x2 := M.at_ 2 rfl
    have x3 := M.at_ 3 rfl
    have x4 := M.at_ 4 rfl
    have x5 := M.at_ 5 rfl
    go_wp2
    go_ret
    exact ⟨rfl, M.below⟩
  by_cases q5 : 2199023255552 < n2
  · have M := mem14 w a b n0 n1 n2 n3
    clear h
    unfold sp
    go_enter Try.func4, Try.ntmps4
    go_wp2_with fail
    refine (awake_any _).mono ?_
    rintro _ u51 ⟨rfl, hb⟩
    replace M := M.step hb
    clear hb
    have x0 := M.at_ 0 rfl
    have x1 := M.at_ 1 rfl
    have x2 := M.at_ 2 rfl
    have x3 := M.at_ 3 rfl
    have x4 := M.at_ 4 rfl
    have x5 := M.at_ 5 rfl
    go_wp2
    go_ret
    exact ⟨rfl, M.below⟩
  exact absurd h (by omega)
set_option maxRecDepth 100000 in
set_option maxHeartbeats 4000000 in
theorem grows_far (a b n0 n1 n2 n3 : Int) (q0 : 0 ≤ n3) (q1 : n3 ≤ 100000) (q2 : 0 ≤ n1) (q3 : n1 ≤ 1099511627776) (q4 : 0 ≤ n2) (q5 : n2 ≤ 2199023255552) (h : rightB a b = false ∨ a < -576460752303423488 ∨ 576460752303423488 < b) (w : World) : Calls Try.prog 4 #[sp a b, .agg #[.int .i64 n0, .int .i64 n1, .int .i64 n2, .int .i64 n3]] w fun e w' => e = .returned (.bool true) ∧ Below w.heap.size w w' := by
  have r1 := right_any a b
  generalize rightB a b = u at *
  unfold sp at r1
  have R1 := Lib.hid r1
  clear r1
  have M := mem14 w a b n0 n1 n2 n3
  rcases u with _ | _
  · clear h
    unfold sp
    go_enter Try.func4, Try.ntmps4
    go_wp2_with fail
    refine (awake_any _).mono ?_
    rintro _ u1 ⟨rfl, hb⟩
    replace M := M.step hb
    clear hb
    have x0 := M.at_ 0 rfl
    have x1 := M.at_ 1 rfl
    have x2 := M.at_ 2 rfl
    have x3 := M.at_ 3 rfl
    have x4 := M.at_ 4 rfl
    have x5 := M.at_ 5 rfl
    go_wp2_with fail
    refine (R1.out _).mono ?_
    rintro _ u2 ⟨rfl, hb⟩
    replace M := M.step hb
    clear hb x0 x1 x2 x3 x4 x5
    have x0 := M.at_ 0 rfl
    have x1 := M.at_ 1 rfl
    have x2 := M.at_ 2 rfl
    have x3 := M.at_ 3 rfl
    have x4 := M.at_ 4 rfl
    have x5 := M.at_ 5 rfl
    go_wp2
    go_ret
    exact ⟨rfl, M.below⟩
  by_cases g0 : a < -576460752303423488
  · clear h
    unfold sp
    go_enter Try.func4, Try.ntmps4
    go_wp2_with fail
    refine (awake_any _).mono ?_
    rintro _ u11 ⟨rfl, hb⟩
    replace M := M.step hb
    clear hb
    have x0 := M.at_ 0 rfl
    have x1 := M.at_ 1 rfl
    have x2 := M.at_ 2 rfl
    have x3 := M.at_ 3 rfl
    have x4 := M.at_ 4 rfl
    have x5 := M.at_ 5 rfl
    go_wp2_with fail
    refine (R1.out _).mono ?_
    rintro _ u12 ⟨rfl, hb⟩
    replace M := M.step hb
    clear hb x0 x1 x2 x3 x4 x5
    have x0 := M.at_ 0 rfl
    have x1 := M.at_ 1 rfl
    have x2 := M.at_ 2 rfl
    have x3 := M.at_ 3 rfl
    have x4 := M.at_ 4 rfl
    have x5 := M.at_ 5 rfl
    go_wp2
    go_ret
    exact ⟨rfl, M.below⟩
  by_cases g1 : 576460752303423488 < b
  · clear h
    unfold sp
    go_enter Try.func4, Try.ntmps4
    go_wp2_with fail
    refine (awake_any _).mono ?_
    rintro _ u21 ⟨rfl, hb⟩
    replace M := M.step hb
    clear hb
    have x0 := M.at_ 0 rfl
    have x1 := M.at_ 1 rfl
    have x2 := M.at_ 2 rfl
    have x3 := M.at_ 3 rfl
    have x4 := M.at_ 4 rfl
    have x5 := M.at_ 5 rfl
    go_wp2_with fail
    refine (R1.out _).mono ?_
    rintro _ u22 ⟨rfl, hb⟩
    replace M := M.step hb
    clear hb x0 x1 x2 x3 x4 x5
    have x0 := M.at_ 0 rfl
    have x1 := M.at_ 1 rfl
    have x2 := M.at_ 2 rfl
    have x3 := M.at_ 3 rfl
    have x4 := M.at_ 4 rfl
    have x5 := M.at_ 5 rfl
    go_wp2
    go_ret
    exact ⟨rfl, M.below⟩
  rcases h with h | h | h
  · cases h
  · exact absurd h g0
  · exact absurd h g1
set_option maxRecDepth 100000 in
set_option maxHeartbeats 4000000 in
theorem grows_not (a b n0 n1 n2 n3 : Int) (q0 : 0 ≤ n3) (q1 : n3 ≤ 100000) (q2 : 0 ≤ n1) (q3 : n1 ≤ 1099511627776) (q4 : 0 ≤ n2) (q5 : n2 ≤ 2199023255552) (hr : rightB a b = true) (g0 : -576460752303423488 ≤ a) (g1 : b ≤ 576460752303423488) (h : hasB a b n0 = false ∨ slackZ n1 n3 < n2 - n1 ∨ slackZ n1 n3 < -(n2 - n1)) (w : World) : Calls Try.prog 4 #[sp a b, .agg #[.int .i64 n0, .int .i64 n1, .int .i64 n2, .int .i64 n3]] w fun e w' => e = .returned (.bool true) ∧ Below w.heap.size w w' := by
  have r1 := right_any a b
  rw [hr] at r1
  have s1 := slack_any n1 n3
  have a1 := has_any a b n0
  have k0 := slack_bounds n1 n3 (by unfold mayB; rw [decide_eq_true_iff]; omega)
  obtain ⟨k0, k1, -⟩ := k0
  generalize slackZ n1 n3 = K at *
  generalize hasB a b n0 = x at *
  unfold sp at r1 a1
  have R1 := Lib.hid r1
  have S1 := Lib.hid s1
  have A1 := Lib.hid a1
  clear r1 s1 a1
  have M := mem14 w a b n0 n1 n2 n3
  rcases x with _ | _
  · clear h
    by_cases n : n2 - n1 < 0
    · by_cases g : K < -(n2 - n1)
      all_goals
        clear hr
        unfold sp
        go_enter Try.func4, Try.ntmps4
        go_wp2_with fail
        refine (awake_any _).mono ?_
        rintro _ u1 ⟨rfl, hb⟩
        replace M := M.step hb
        clear hb
        have x0 := M.at_ 0 rfl
        have x1 := M.at_ 1 rfl
        have x2 := M.at_ 2 rfl
        have x3 := M.at_ 3 rfl
        have x4 := M.at_ 4 rfl
        have x5 := M.at_ 5 rfl
        go_wp2_with fail
        refine (R1.out _).mono ?_
        rintro _ u2 ⟨rfl, hb⟩
        replace M := M.step hb
        clear hb x0 x1 x2 x3 x4 x5
        have x0 := M.at_ 0 rfl
        have x1 := M.at_ 1 rfl
        have x2 := M.at_ 2 rfl
        have x3 := M.at_ 3 rfl
        have x4 := M.at_ 4 rfl
        have x5 := M.at_ 5 rfl
        go_wp2_with fail
        refine (S1.out _).mono ?_
        rintro _ u3 ⟨rfl, rfl⟩
        go_wp2_with (go_at_call 12; refine (A1.out _).mono ?_; rintro _ uu ⟨rfl, hb⟩; replace M := M.step hb; clear hb)
        go_ret
        exact ⟨rfl, M.below⟩
    · by_cases g : K < n2 - n1
      all_goals
        clear hr
        unfold sp
        go_enter Try.func4, Try.ntmps4
        go_wp2_with fail
        refine (awake_any _).mono ?_
        rintro _ u1 ⟨rfl, hb⟩
        replace M := M.step hb
        clear hb
        have x0 := M.at_ 0 rfl
        have x1 := M.at_ 1 rfl
        have x2 := M.at_ 2 rfl
        have x3 := M.at_ 3 rfl
        have x4 := M.at_ 4 rfl
        have x5 := M.at_ 5 rfl
        go_wp2_with fail
        refine (R1.out _).mono ?_
        rintro _ u2 ⟨rfl, hb⟩
        replace M := M.step hb
        clear hb x0 x1 x2 x3 x4 x5
        have x0 := M.at_ 0 rfl
        have x1 := M.at_ 1 rfl
        have x2 := M.at_ 2 rfl
        have x3 := M.at_ 3 rfl
        have x4 := M.at_ 4 rfl
        have x5 := M.at_ 5 rfl
        go_wp2_with fail
        refine (S1.out _).mono ?_
        rintro _ u3 ⟨rfl, rfl⟩
        go_wp2_with (go_at_call 12; refine (A1.out _).mono ?_; rintro _ uu ⟨rfl, hb⟩; replace M := M.step hb; clear hb)
        go_ret
        exact ⟨rfl, M.below⟩
  · rcases h with h | h
    · cases h
    by_cases n : n2 - n1 < 0
    all_goals
      clear hr
      unfold sp
      go_enter Try.func4, Try.ntmps4
      go_wp2_with fail
      refine (awake_any _).mono ?_
      rintro _ u1 ⟨rfl, hb⟩
      replace M := M.step hb
      clear hb
      have x0 := M.at_ 0 rfl
      have x1 := M.at_ 1 rfl
      have x2 := M.at_ 2 rfl
      have x3 := M.at_ 3 rfl
      have x4 := M.at_ 4 rfl
      have x5 := M.at_ 5 rfl
      go_wp2_with fail
      refine (R1.out _).mono ?_
      rintro _ u2 ⟨rfl, hb⟩
      replace M := M.step hb
      clear hb x0 x1 x2 x3 x4 x5
      have x0 := M.at_ 0 rfl
      have x1 := M.at_ 1 rfl
      have x2 := M.at_ 2 rfl
      have x3 := M.at_ 3 rfl
      have x4 := M.at_ 4 rfl
      have x5 := M.at_ 5 rfl
      go_wp2_with fail
      refine (S1.out _).mono ?_
      rintro _ u3 ⟨rfl, rfl⟩
      go_wp2_with (go_at_call 12; refine (A1.out _).mono ?_; rintro _ uu ⟨rfl, hb⟩; replace M := M.step hb; clear hb)
      go_ret
      exact ⟨rfl, M.below⟩
set_option maxRecDepth 100000 in
set_option maxHeartbeats 4000000 in
theorem grows_yes (a b n0 n1 n2 n3 : Int) (q0 : 0 ≤ n3) (q1 : n3 ≤ 100000) (q2 : 0 ≤ n1) (q3 : n1 ≤ 1099511627776) (q4 : 0 ≤ n2) (q5 : n2 ≤ 2199023255552) (hr : rightB a b = true) (g0 : -576460752303423488 ≤ a) (g1 : b ≤ 576460752303423488) (hx : hasB a b n0 = true) (hn : -(slackZ n1 n3) ≤ n2 - n1 ∧ n2 - n1 ≤ slackZ n1 n3) (w : World) : Calls Try.prog 4 #[sp a b, .agg #[.int .i64 n0, .int .i64 n1, .int .i64 n2, .int .i64 n3]] w fun e w' => e = .returned (.bool true) ∧ Below w.heap.size w w' := by
  obtain ⟨f1, f2, f3, f4, f5, f6, f7, f8, f9⟩ := grows_facts a b n0 n1 n2 n3 hr q0 q1 q2 q3 q4 q5 g0 g1 hx hn.1 hn.2
  have r1 := right_any a b
  have r2 := right_any (growLo a n1 n3) (growHi b n1 n3)
  rw [hr] at r1
  rw [f3] at r2
  have s1 := slack_any n1 n3
  have a1 := has_any a b n0
  rw [hx] at a1
  have a2 := has_any (growLo a n1 n3) (growHi b n1 n3) (n0 + n2)
  rw [f2] at a2
  have v1 := width_any a b f6
  have v2 := width_any (growLo a n1 n3) (growHi b n1 n3) f9
  have G1 := grow_any a b n1 n3 hr
  rw [f4] at v2
  clear f1 f2 f3 f4 f9 hx
  generalize growLo a n1 n3 = y0 at *
  generalize growHi b n1 n3 = y1 at *
  generalize slackZ n1 n3 = K at *
  unfold sp at *
  generalize b - a = wa at *
  have HG1 := Lib.hid G1
  have R1 := Lib.hid r1
  have R2 := Lib.hid r2
  have S1 := Lib.hid s1
  have A1 := Lib.hid a1
  have A2 := Lib.hid a2
  have V1 := Lib.hid v1
  have V2 := Lib.hid v2
  have E5 := Lib.hid f5
  have E7 := Lib.hid f7
  have E8 := Lib.hid f8
  clear r1 r2 s1 a1 a2 v1 v2 G1 f5 f6 f7 f8 hr
  have M := mem14 w a b n0 n1 n2 n3
  obtain ⟨hn1, hn2⟩ := hn
  have hn3 : -(n2 - n1) ≤ K := by omega
  by_cases n : n2 - n1 < 0
  all_goals
    go_enter Try.func4, Try.ntmps4
    go_wp2_with fail
    refine (awake_any _).mono ?_
    rintro _ u1 ⟨rfl, hb⟩
    replace M := M.step hb
    clear hb
    have x0 := M.at_ 0 rfl
    have x1 := M.at_ 1 rfl
    have x2 := M.at_ 2 rfl
    have x3 := M.at_ 3 rfl
    have x4 := M.at_ 4 rfl
    have x5 := M.at_ 5 rfl
    go_wp2_with fail
    refine (R1.out _).mono ?_
    rintro _ u2 ⟨rfl, hb⟩
    replace M := M.step hb
    clear hb x0 x1 x2 x3 x4 x5
    have x0 := M.at_ 0 rfl
    have x1 := M.at_ 1 rfl
    have x2 := M.at_ 2 rfl
    have x3 := M.at_ 3 rfl
    have x4 := M.at_ 4 rfl
    have x5 := M.at_ 5 rfl
    go_wp2_with fail
    refine (S1.out _).mono ?_
    rintro _ u3 ⟨rfl, rfl⟩
    go_wp2_with fail
    refine (A1.out _).mono ?_
    rintro _ u4 ⟨rfl, hb⟩
    replace M := M.step hb
    clear hb x0 x1 x2 x3 x4 x5
    have x0 := M.at_ 0 rfl
    have x1 := M.at_ 1 rfl
    have x2 := M.at_ 2 rfl
    have x3 := M.at_ 3 rfl
    have x4 := M.at_ 4 rfl
    have x5 := M.at_ 5 rfl
    go_wp2_with fail
    refine (HG1.out _).mono ?_
    rintro _ u5 ⟨rfl, hb⟩
    replace M := (M.step hb).two (.int .i64 y0) (.int .i64 y1) 23 u5.heap.size rfl
    clear hb x0 x1 x2 x3 x4 x5
    have x0 := M.at_ 0 rfl
    have x1 := M.at_ 1 rfl
    have x2 := M.at_ 2 rfl
    have x3 := M.at_ 3 rfl
    have x4 := M.at_ 4 rfl
    have x5 := M.at_ 5 rfl
    have x6 := M.at_ 6 rfl
    have x7 := M.at_ 7 rfl
    have e5 := E5.out
    have e7 := E7.out
    have e8 := E8.out
    clear E5 E7 E8 HG1 R1 A1 hn1 hn2 hn3 n q0 q1 q2 q3 q4 q5 g0 g1
    go_wp2
    generalize u5.alloc (.cells #[.int .i64 y0, .int .i64 y1] 23) = U at *
    have l0 := M.lt 0 rfl
    have l2 := M.lt 2 rfl
    have l6 := M.lt 6 rfl
    have hB := M.below
    have F1 := after_cell U
    refine region_after (by kernel_rfl) (by kernel_rfl) ?_
    repeat (go_big_quiet_step ((first | (go_at_call 12; exact after_call A2.out) | (go_at_call 10; exact after_call R2.out) | (go_at_call_of 17 y0; exact after_call V2.out) | (go_at_call_of 17 a; exact after_call V1.out) | (go_at_call 14; exact after_call_same S1.out))))
    refine wpQuiet_nil ?_
    rintro _ ⟨x, rfl⟩
    have hb1 := hB.trans ((after_below U x).mono hB.size)
    clear M hB
    clear F1 l0 l2 l6 x0 x1 x2 x3 x4 x5 x6 x7
    generalize after U x = uz at *
    clear A2 R2 V1 V2 S1 e5 e7 e8
    go_wp2
    go_ret
    exact ⟨rfl, hb1⟩
theorem grows_any (a b n0 n1 n2 n3 : Int) (w : World) : Calls Try.prog 4 #[sp a b, .agg #[.int .i64 n0, .int .i64 n1, .int .i64 n2, .int .i64 n3]] w fun e w' => e = .returned (.bool true) ∧ Below w.heap.size w w' := by
  by_cases h : n3 < 0 ∨ 100000 < n3 ∨ n1 < 0 ∨ 1099511627776 < n1 ∨ n2 < 0 ∨ 2199023255552 < n2
  · exact grows_out a b n0 n1 n2 n3 h w
  by_cases h' : rightB a b = false ∨ a < -576460752303423488 ∨ 576460752303423488 < b
  · exact grows_far a b n0 n1 n2 n3 (by omega) (by omega) (by omega) (by omega) (by omega) (by omega) h' w
  by_cases h2 : hasB a b n0 = false ∨ slackZ n1 n3 < n2 - n1 ∨ slackZ n1 n3 < -(n2 - n1)
  · exact grows_not a b n0 n1 n2 n3 (by omega) (by omega) (by omega) (by omega) (by omega) (by omega) (by cases hh : rightB a b <;> simp_all) (by omega) (by omega) h2 w
  · exact grows_yes a b n0 n1 n2 n3 (by omega) (by omega) (by omega) (by omega) (by omega) (by omega) (by cases hh : rightB a b <;> simp_all) (by omega) (by omega) (by cases hh : hasB a b n0 <;> simp_all) (by omega) w
end Go.Proofs.Ytggdbmpbceijdaa.Span
