/-
  The walk of bartizanlaw06.SpanTells: for any two spans and any three numbers it returns true, and writes nothing that was there.
-/
import Derived.Test.YtggdbmpbceijdaaLaw06Meets
namespace Go.Proofs.Ytggdbmpbceijdaa.Span
open Go Go.RowKit Go.Proofs.Ytggdbmpbceijdaa.Aid

theorem slack_any (t p : Int) (w : World) : Calls Try.prog 14 #[.int .i64 t, .int .i64 p] w fun e w' => e = .returned (.int .i64 (slackZ t p)) ∧ w = w' := by
  cases h : mayB t p
  · have := slack_no t p h w
    rwa [show slackZ t p = 0 by unfold slackZ; rw [h]; rfl]
  · exact slack_yes t p h w
theorem refSlack_any (t p : Int) (w : World) : Calls Try.prog 15 #[.int .i64 t, .int .i64 p] w fun e w' => e = .returned (.int .i64 (slackZ t p)) ∧ w = w' := by
  cases h : mayB t p
  · have := refSlack_no t p h w
    rwa [show slackZ t p = 0 by unfold slackZ; rw [h]; rfl]
  · exact refSlack_yes t p h w
theorem refMeet_any (a b c d : Int) (w : World) : Calls Try.prog 9 #[sp a b, sp c d] w fun e w' => e = .returned (.tuple #[sp (meetLo a b c d) (meetHi a b c d), .bool (meetB a b c d)]) ∧ Below w.heap.size w w' := by
  cases h : meetB a b c d
  · unfold meetLo meetHi; rw [h]; exact refMeet_no a b c d h w
  · unfold meetLo meetHi; rw [h]; exact refMeet_yes a b c d h w
theorem grow_any (a b t p : Int) (hr : rightB a b = true) (w : World) : Calls Try.prog 18 #[sp a b, .int .i64 t, .int .i64 p] w fun e w' => e = .returned (sp (growLo a t p) (growHi b t p)) ∧ Below w.heap.size w w' := by
  unfold growLo growHi
  cases h : mayB t p
  · exact grow_no a b t p h w
  · exact grow_yes a b t p h hr w
theorem refGrow_any (a b t p : Int) (hr : rightB a b = true) (w : World) : Calls Try.prog 19 #[sp a b, .int .i64 t, .int .i64 p] w fun e w' => e = .returned (sp (growLo a t p) (growHi b t p)) ∧ Below w.heap.size w w' := by
  unfold growLo growHi
  cases h : mayB t p
  · exact refGrow_no a b t p h w
  · exact refGrow_yes a b t p h hr w
theorem mem3 (w : World) (a b c d n0 n1 n2 : Int) : Mem w [(w.heap.size + 1 + 1, 0, .int .i64 n0), (w.heap.size + 1 + 1, 1, .int .i64 n1), (w.heap.size + 1 + 1, 2, .int .i64 n2), (w.heap.size + 1, 0, .int .i64 c), (w.heap.size + 1, 1, .int .i64 d), (w.heap.size, 0, .int .i64 a), (w.heap.size, 1, .int .i64 b)]
    (((w.alloc (.cells #[.int .i64 a, .int .i64 b] 23)).alloc (.cells #[.int .i64 c, .int .i64 d] 23)).alloc (.cells #[.int .i64 n0, .int .i64 n1, .int .i64 n2] 24)) := by
  have M := (((Mem.nil w).two (.int .i64 a) (.int .i64 b) 23 w.heap.size rfl).two (.int .i64 c) (.int .i64 d) 23 (w.heap.size + 1) (by simp)).alloc #[.int .i64 n0, .int .i64 n1, .int .i64 n2] 24 3 (by simp)
  rw [World.size_alloc, World.size_alloc] at M
  exact M

theorem tells_lo (a b c d n0 n1 n2 : Int) (h : n2 < -200000) (w : World) : Calls Try.prog 3 #[sp a b, sp c d, .agg #[.int .i64 n0, .int .i64 n1, .int .i64 n2]] w fun e w' => e = .returned (.bool true) ∧ Below w.heap.size w w' := by
  have h' := h
  have M := mem3 w a b c d n0 n1 n2
  unfold sp
  go_enter Try.func3, Try.ntmps3
  go_wp2_with fail
  refine (awake_any _).mono ?_
  rintro _ u1 ⟨rfl, hb⟩
  replace M := M.step hb
  clear hb
  have x0 := M.at_ 0 rfl
  have x1 := M.at_ 1 rfl
  have x2 := M.at_ 2 rfl
  have x3 := M.at_ 3 rfl
  have x4 := M.at_ 4 rfl
  have x5 := M.at_ 5 rfl
  have x6 := M.at_ 6 rfl
  go_wp2
  go_ret
  exact ⟨rfl, M.below⟩
theorem tells_hi (a b c d n0 n1 n2 : Int) (h : 200000 < n2) (w : World) : Calls Try.prog 3 #[sp a b, sp c d, .agg #[.int .i64 n0, .int .i64 n1, .int .i64 n2]] w fun e w' => e = .returned (.bool true) ∧ Below w.heap.size w w' := by
  have h' : ¬ n2 < -200000 := by omega
  have M := mem3 w a b c d n0 n1 n2
  unfold sp
  go_enter Try.func3, Try.ntmps3
  go_wp2_with fail
  refine (awake_any _).mono ?_
  rintro _ u1 ⟨rfl, hb⟩
  replace M := M.step hb
  clear hb
  have x0 := M.at_ 0 rfl
  have x1 := M.at_ 1 rfl
  have x2 := M.at_ 2 rfl
  have x3 := M.at_ 3 rfl
  have x4 := M.at_ 4 rfl
  have x5 := M.at_ 5 rfl
  have x6 := M.at_ 6 rfl
  go_wp2
  go_ret
  exact ⟨rfl, M.below⟩
set_option maxRecDepth 100000 in
set_option maxHeartbeats 4000000 in
theorem tells_in (a b c d n0 n1 n2 : Int) (h : ¬ n2 < -200000 ∧ ¬ 200000 < n2) (w : World) : Calls Try.prog 3 #[sp a b, sp c d, .agg #[.int .i64 n0, .int .i64 n1, .int .i64 n2]] w fun e w' => e = .returned (.bool true) ∧ Below w.heap.size w w' := by
  obtain ⟨hlo, hhi⟩ := h
  have r1 := right_any a b
  have r2 := refRight_any a b
  have r3 := refRight_any c d
  have k1 := meet_any a b c d
  have k2 := refMeet_any a b c d
  have a1 := has_any a b n0
  have a2 := refHas_any a b n0
  have s1 := slack_any n1 n2
  have s2 := refSlack_any n1 n2
  have l1 := hull_any a b c d
  have M := mem3 w a b c d n0 n1 n2
  have e1 : (if c < a then c else a) = min a c := by omega
  have e2 : (if b < d then d else b) = max b d := by omega
  have v1 : rightB a b = true → IntKind.i64.wrap (b - a) = b - a := fun h => by obtain ⟨q1, q2, q3⟩ := right_range a b h; exact IntWalk.i64_in _ (by omega)
  have v2 : rightB a b = true → ∀ w, Calls Try.prog 17 #[sp a b] w fun e w' => e = .returned (.int .i64 (b - a)) ∧ Below w.heap.size w w' := fun h => width_any a b (v1 h)
  have g1 := grow_any a b n1 n2
  have g2 := refGrow_any a b n1 n2
  generalize growLo a n1 n2 = y0 at *
  generalize growHi b n1 n2 = y1 at *
  generalize rightB a b = u at *
  generalize rightB c d = v at *
  generalize meetB a b c d = is at *
  generalize meetLo a b c d = m0 at *
  generalize meetHi a b c d = m1 at *
  generalize min a c = h0 at *
  generalize max b d = h1 at *
  generalize hasB a b n0 = X at *
  generalize slackZ n1 n2 = K at *
  unfold sp at *
  have R1 := Lib.hid r1
  have R2 := Lib.hid r2
  have R3 := Lib.hid r3
  have K1 := Lib.hid k1
  have K2 := Lib.hid k2
  have A1 := Lib.hid a1
  have A2 := Lib.hid a2
  have S1 := Lib.hid s1
  have S2 := Lib.hid s2
  have L1 := Lib.hid l1
  have E1 := Lib.hid e1
  have E2 := Lib.hid e2
  have V1 := Lib.hid v1
  have V2 := Lib.hid v2
  have G1 := Lib.hid g1
  have G2 := Lib.hid g2
  clear r1 r2 r3 k1 k2 a1 a2 s1 s2 l1 e1 e2 v1 v2 g1 g2
  go_enter Try.func3, Try.ntmps3
  go_wp2_with fail
  refine (awake_any _).mono ?_
  rintro _ u1 ⟨rfl, hb⟩
  replace M := M.step hb
  clear hb
  have x0 := M.at_ 0 rfl
  have x1 := M.at_ 1 rfl
  have x2 := M.at_ 2 rfl
  have x3 := M.at_ 3 rfl
  have x4 := M.at_ 4 rfl
  have x5 := M.at_ 5 rfl
  have x6 := M.at_ 6 rfl
  go_wp2_with fail
  refine (K1.out _).mono ?_
  rintro _ u2 ⟨rfl, hb⟩
  replace M := (M.step hb).two (.int .i64 m0) (.int .i64 m1) 23 u2.heap.size rfl
  clear hb x0 x1 x2 x3 x4 x5 x6
  have x0 := M.at_ 0 rfl
  have x1 := M.at_ 1 rfl
  have x2 := M.at_ 2 rfl
  have x3 := M.at_ 3 rfl
  have x4 := M.at_ 4 rfl
  have x5 := M.at_ 5 rfl
  have x6 := M.at_ 6 rfl
  have x7 := M.at_ 7 rfl
  have x8 := M.at_ 8 rfl
  go_wp2_with fail
  refine (K2.out _).mono ?_
  rintro _ u3 ⟨rfl, hb⟩
  replace M := (M.step hb).two (.int .i64 m0) (.int .i64 m1) 23 u3.heap.size rfl
  clear hb x0 x1 x2 x3 x4 x5 x6 x7 x8
  have x0 := M.at_ 0 rfl
  have x1 := M.at_ 1 rfl
  have x2 := M.at_ 2 rfl
  have x3 := M.at_ 3 rfl
  have x4 := M.at_ 4 rfl
  have x5 := M.at_ 5 rfl
  have x6 := M.at_ 6 rfl
  have x7 := M.at_ 7 rfl
  have x8 := M.at_ 8 rfl
  have x9 := M.at_ 9 rfl
  have x10 := M.at_ 10 rfl
  go_wp2
  generalize u3.alloc (.cells #[.int .i64 m0, .int .i64 m1] 23) = U at *
  have l0 := M.lt 0 rfl
  have l2 := M.lt 2 rfl
  have l4 := M.lt 4 rfl
  have l7 := M.lt 7 rfl
  have l9 := M.lt 9 rfl
  have F1 := after_cell U
  refine region_after (by kernel_rfl) (by kernel_rfl) ?_
  repeat (go_big_quiet_step ((first | (go_at_call 10; exact after_call R1.out) | (go_at_call 11; exact after_call R2.out) | (go_at_call 12; exact after_call A1.out) | (go_at_call 13; exact after_call A2.out) | (go_at_call 14; exact after_call_same S1.out) | (go_at_call 15; exact after_call_same S2.out))))
  refine wpQuiet_nil ?_
  rintro _ ⟨x, rfl⟩
  replace M := M.step (after_below U x)
  clear F1 l0 l2 l4 l7 l9 x0 x1 x2 x3 x4 x5 x6 x7 x8 x9 x10
  generalize after U x = u4 at *
  have x0 := M.at_ 0 rfl
  have x1 := M.at_ 1 rfl
  have x2 := M.at_ 2 rfl
  have x3 := M.at_ 3 rfl
  have x4 := M.at_ 4 rfl
  have x5 := M.at_ 5 rfl
  have x6 := M.at_ 6 rfl
  have x7 := M.at_ 7 rfl
  have x8 := M.at_ 8 rfl
  have x9 := M.at_ 9 rfl
  have x10 := M.at_ 10 rfl
  clear R1 A1 A2 S1 S2 K1 K2
  rcases u with _ | _
  · go_wp2_with fail
    refine (R2.out _).mono ?_
    rintro _ u11 ⟨rfl, hb⟩
    replace M := M.step hb
    clear hb x0 x1 x2 x3 x4 x5 x6
    have x0 := M.at_ 0 rfl
    have x1 := M.at_ 1 rfl
    have x2 := M.at_ 2 rfl
    have x3 := M.at_ 3 rfl
    have x4 := M.at_ 4 rfl
    have x5 := M.at_ 5 rfl
    have x6 := M.at_ 6 rfl
    go_wp2
    go_ret
    exact ⟨rfl, M.below⟩
  · rcases v with _ | _
    · go_wp2_with fail
      refine (R2.out _).mono ?_
      rintro _ u21 ⟨rfl, hb⟩
      replace M := M.step hb
      clear hb x0 x1 x2 x3 x4 x5 x6 x7 x8 x9 x10
      have x0 := M.at_ 0 rfl
      have x1 := M.at_ 1 rfl
      have x2 := M.at_ 2 rfl
      have x3 := M.at_ 3 rfl
      have x4 := M.at_ 4 rfl
      have x5 := M.at_ 5 rfl
      have x6 := M.at_ 6 rfl
      have x7 := M.at_ 7 rfl
      have x8 := M.at_ 8 rfl
      have x9 := M.at_ 9 rfl
      have x10 := M.at_ 10 rfl
      go_wp2_with fail
      refine (R3.out _).mono ?_
      rintro _ u22 ⟨rfl, hb⟩
      replace M := M.step hb
      clear hb x0 x1 x2 x3 x4 x5 x6 x7 x8 x9 x10
      have x0 := M.at_ 0 rfl
      have x1 := M.at_ 1 rfl
      have x2 := M.at_ 2 rfl
      have x3 := M.at_ 3 rfl
      have x4 := M.at_ 4 rfl
      have x5 := M.at_ 5 rfl
      have x6 := M.at_ 6 rfl
      have x7 := M.at_ 7 rfl
      have x8 := M.at_ 8 rfl
      have x9 := M.at_ 9 rfl
      have x10 := M.at_ 10 rfl
      go_wp2
      go_ret
      exact ⟨rfl, M.below⟩
    · go_wp2_with fail
      refine (R2.out _).mono ?_
      rintro _ u31 ⟨rfl, hb⟩
      replace M := M.step hb
      clear hb x0 x1 x2 x3 x4 x5 x6 x7 x8 x9 x10
      have x0 := M.at_ 0 rfl
      have x1 := M.at_ 1 rfl
      have x2 := M.at_ 2 rfl
      have x3 := M.at_ 3 rfl
      have x4 := M.at_ 4 rfl
      have x5 := M.at_ 5 rfl
      have x6 := M.at_ 6 rfl
      have x7 := M.at_ 7 rfl
      have x8 := M.at_ 8 rfl
      have x9 := M.at_ 9 rfl
      have x10 := M.at_ 10 rfl
      go_wp2_with fail
      refine (R3.out _).mono ?_
      rintro _ u32 ⟨rfl, hb⟩
      replace M := M.step hb
      clear hb x0 x1 x2 x3 x4 x5 x6 x7 x8 x9 x10
      have x0 := M.at_ 0 rfl
      have x1 := M.at_ 1 rfl
      have x2 := M.at_ 2 rfl
      have x3 := M.at_ 3 rfl
      have x4 := M.at_ 4 rfl
      have x5 := M.at_ 5 rfl
      have x6 := M.at_ 6 rfl
      have x7 := M.at_ 7 rfl
      have x8 := M.at_ 8 rfl
      have x9 := M.at_ 9 rfl
      have x10 := M.at_ 10 rfl
      have e1 := E1.out
      have e2 := E2.out
      clear E1 E2 R2 R3
      go_wp2
      replace M := M.two (.int .i64 h0) (.int .i64 h1) 23 u32.heap.size rfl
      clear e1 e2 x0 x1 x2 x3 x4 x5 x6 x7 x8 x9 x10
      generalize u32.alloc (.cells #[.int .i64 h0, .int .i64 h1] 23) = U2 at *
      have x0 := M.at_ 0 rfl
      have x1 := M.at_ 1 rfl
      have x2 := M.at_ 2 rfl
      have x3 := M.at_ 3 rfl
      have x4 := M.at_ 4 rfl
      have x5 := M.at_ 5 rfl
      have x6 := M.at_ 6 rfl
      have x7 := M.at_ 7 rfl
      have x8 := M.at_ 8 rfl
      have x9 := M.at_ 9 rfl
      have x10 := M.at_ 10 rfl
      have x11 := M.at_ 11 rfl
      have x12 := M.at_ 12 rfl
      have v1 := V1.out (by simp)
      have g1 := G1.out (by simp)
      have g2 := G2.out (by simp)
      have v2 := V2.out (by simp)
      have GG1 := Lib.hid g1
      have GG2 := Lib.hid g2
      have VV2 := Lib.hid v2
      clear G1 G2 V2 V1 g1 g2 v2
      have l0 := M.lt 0 rfl
      have l6 := M.lt 6 rfl
      have l9 := M.lt 9 rfl
      have l11 := M.lt 11 rfl
      have hB := M.below
      have F1 := after_cell U2
      refine region_after (by kernel_rfl) (by kernel_rfl) ?_
      repeat (go_big_quiet_step ((first | (go_at_call 16; exact after_call L1.out) | (go_at_call 17; exact after_call VV2.out) | (go_at_call 18; exact after_call GG1.out) | (go_at_call 19; exact after_call GG2.out))))
      refine wpQuiet_nil ?_
      rintro _ ⟨x, rfl⟩
      have hb1 := hB.trans ((after_below U2 x).mono hB.size)
      clear M hB
      clear F1 l0 l6 l9 l11 x0 x1 x2 x3 x4 x5 x6 x7 x8 x9 x10 x11 x12
      generalize after U2 x = uz at *
      clear L1 VV2 GG1 GG2 v1
      go_wp2
      go_ret
      exact ⟨rfl, hb1⟩
theorem tells_any (a b c d n0 n1 n2 : Int) (w : World) : Calls Try.prog 3 #[sp a b, sp c d, .agg #[.int .i64 n0, .int .i64 n1, .int .i64 n2]] w fun e w' => e = .returned (.bool true) ∧ Below w.heap.size w w' := by
  by_cases h1 : n2 < -200000
  · exact tells_lo a b c d n0 n1 n2 h1 w
  · by_cases h2 : 200000 < n2
    · exact tells_hi a b c d n0 n1 n2 h2 w
    · exact tells_in a b c d n0 n1 n2 ⟨h1, h2⟩ w
end Go.Proofs.Ytggdbmpbceijdaa.Span
