/-
  The walk of bartizanlaw06.SpanMeets: for any two spans and any time it returns true, and writes nothing that was there.
-/
import Derived.Test.YtggdbmpbceijdaaSpanG
import Derived.Test.YtggdbmpbceijdaaMem
import Derived.Deep.RegionWith
namespace Go.Proofs.Ytggdbmpbceijdaa.Span
open Go Go.RowKit Go.Proofs.Ytggdbmpbceijdaa.Aid

theorem right_any (a b : Int) (w : World) : Calls Try.prog 10 #[sp a b] w fun e w' => e = .returned (.bool (rightB a b)) ∧ Below w.heap.size w w' := by
  cases h : rightB a b
  · exact right_no a b h w
  · exact right_yes a b h w
theorem meet_any (a b c d : Int) (w : World) : Calls Try.prog 8 #[sp a b, sp c d] w fun e w' => e = .returned (.tuple #[sp (meetLo a b c d) (meetHi a b c d), .bool (meetB a b c d)]) ∧ Below w.heap.size w w' := by
  cases h : meetB a b c d
  · unfold meetLo meetHi; rw [h]; exact meet_no a b c d h w
  · unfold meetLo meetHi; rw [h]; exact meet_yes a b c d h w
theorem meet_sym (a b c d : Int) : meetB c d a b = meetB a b c d ∧ meetLo c d a b = meetLo a b c d ∧ meetHi c d a b = meetHi a b c d := by
  have h1 : max c a = max a c := by omega
  have h2 : min d b = min b d := by omega
  unfold meetLo meetHi meetB
  rw [h1, h2]
  exact ⟨rfl, rfl, rfl⟩

set_option maxRecDepth 100000 in
theorem meets_no (a b c d t : Int) (h : rightB a b = false ∨ rightB c d = false) (w : World) : Calls Try.prog 5 #[sp a b, sp c d, .int .i64 t] w fun e w' => e = .returned (.bool true) ∧ Below w.heap.size w w' := by
  have h1 := right_any a b
  have h2 := right_any c d
  have M := ((Mem.nil w).alloc #[.int .i64 a, .int .i64 b] 23 2 (by simp)).alloc #[.int .i64 c, .int .i64 d] 23 2 (by simp)
  generalize rightB a b = u at *
  generalize rightB c d = v at *
  unfold sp at *
  have H1 := Lib.hid h1
  have H2 := Lib.hid h2
  clear h1 h2
  rcases u with _ | _ <;> rcases v with _ | _
  all_goals first
    | (exfalso; revert h; decide)
    | (clear h
       go_enter Try.func5, Try.ntmps5
       go_wp2_with (first
         | (go_at_call 7; refine (awake_any _).mono ?_; rintro _ w1 ⟨rfl, hb⟩; replace M := M.step hb; clear hb
            have c0 := M.at_ 0 rfl; have c1 := M.at_ 1 rfl; have d0 := M.at_ 2 rfl; have d1 := M.at_ 3 rfl; simp only [World.size_alloc] at c0 c1)
         | (go_at_call 10; ((with_reducible refine (H1.out _).mono ?_); rintro _ w2 ⟨rfl, hb⟩); replace M := M.step hb; clear hb
            have c2 := M.at_ 0 rfl; have c3 := M.at_ 1 rfl; have d2 := M.at_ 2 rfl; have d3 := M.at_ 3 rfl; simp only [World.size_alloc] at c2 c3)
         | (go_at_call 10; ((with_reducible refine (H2.out _).mono ?_); rintro _ w3 ⟨rfl, hb⟩); replace M := M.step hb; clear hb))
       go_ret
       exact ⟨rfl, M.below⟩)
theorem right_range' (a b : Int) (h : rightB a b = true) : -1152921504606846976 ≤ a ∧ b ≤ 1152921504606846976 ∧ a ≤ b := right_range a b h
/-- What P6.3 says of Meet and Hull. -/
theorem meets_facts (a b c d t : Int) (h1 : rightB a b = true) (h2 : rightB c d = true) :
    (hasB a b t && hasB c d t) = (meetB a b c d && hasB (meetLo a b c d) (meetHi a b c d) t) ∧ ((hasB a b t || hasB c d t) = true → hasB (min a c) (max b d) t = true) ∧ b - a ≤ max b d - min a c ∧ IntKind.i64.wrap (b - a) = b - a ∧ IntKind.i64.wrap (max b d - min a c) = max b d - min a c := by
  obtain ⟨a1, a2, a3⟩ := right_range a b h1
  obtain ⟨b1, b2, b3⟩ := right_range c d h2
  refine ⟨?_, ?_, by omega, IntWalk.i64_in _ (by omega), IntWalk.i64_in _ (by omega)⟩
  · cases h : meetB a b c d
    · simp only [Bool.false_and, Bool.and_eq_false_imp]
      unfold meetB at h
      unfold hasB
      simp only [decide_eq_false_iff_not, decide_eq_true_eq] at h ⊢
      intro hh
      omega
    · unfold meetLo meetHi
      rw [h]
      unfold hasB
      simp only [if_true, Bool.true_and]
      rw [Bool.eq_iff_iff]
      simp only [Bool.and_eq_true, decide_eq_true_eq]
      omega
  · unfold hasB
    simp only [Bool.or_eq_true, decide_eq_true_eq]
    intro hh
    omega

set_option maxRecDepth 100000 in
set_option maxHeartbeats 4000000 in
theorem meets_yes (a b c d t : Int) (h1 : rightB a b = true) (h2 : rightB c d = true) (w : World) : Calls Try.prog 5 #[sp a b, sp c d, .int .i64 t] w fun e w' => e = .returned (.bool true) ∧ Below w.heap.size w w' := by
  obtain ⟨f1, f2, f3, f4, f5⟩ := meets_facts a b c d t h1 h2
  have r1 := right_any a b
  have r2 := right_any c d
  have k1 := meet_any a b c d
  have k2 := meet_any c d a b
  rw [(meet_sym a b c d).1, (meet_sym a b c d).2.1, (meet_sym a b c d).2.2] at k2
  have l1 := hull_any a b c d
  have a1 := has_any a b t
  have a2 := has_any c d t
  have a3 := has_any (meetLo a b c d) (meetHi a b c d) t
  have a4 := has_any (min a c) (max b d) t
  have v1 := width_any a b f4
  have v2 := width_any _ _ f5
  have M := ((Mem.nil w).two (.int .i64 a) (.int .i64 b) 23 w.heap.size rfl).two (.int .i64 c) (.int .i64 d) 23 (w.heap.size + 1) (by simp)
  rw [h1] at r1
  rw [h2] at r2
  clear f4 f5 h1 h2
  generalize max b d - min a c = wh at *
  generalize b - a = wa at *
  generalize meetB a b c d = is at *
  generalize meetLo a b c d = m0 at *
  generalize meetHi a b c d = m1 at *
  generalize min a c = h0 at *
  generalize max b d = h1 at *
  generalize hasB a b t = A at *
  generalize hasB c d t = C at *
  have b3 : is = true → ∀ w, Calls Try.prog 12 #[sp m0 m1, .int .i64 t] w fun e w' => e = .returned (.bool (A && C)) ∧ Below w.heap.size w w' := fun hi w => by
    rw [hi, Bool.true_and] at f1
    rw [f1]
    exact a3 w
  have b4 : (A || C) = true → ∀ w, Calls Try.prog 12 #[sp h0 h1, .int .i64 t] w fun e w' => e = .returned (.bool true) ∧ Below w.heap.size w w' := fun hv w => by
    rw [← f2 hv]
    exact a4 w
  have f6 : is = false → (A && C) = false := fun hi => by rw [f1, hi]; rfl
  clear a3 a4 f2 f1
  generalize hV : (A && C) = V at *
  unfold sp at *
  have R1 := Lib.hid r1
  have R2 := Lib.hid r2
  have K1 := Lib.hid k1
  have K2 := Lib.hid k2
  have L1 := Lib.hid l1
  have A1 := Lib.hid a1
  have A2 := Lib.hid a2
  have V1 := Lib.hid v1
  have V2 := Lib.hid v2
  clear r1 r2 k1 k2 l1 a1 a2 v1 v2
  rcases is with _ | _ <;> rcases A with _ | _ <;> rcases C with _ | _ <;> rcases V with _ | _
  all_goals first
    | (exfalso; revert f6 hV; clear b3 b4; decide)
    | (clear f6 hV
       try replace b3 := b3 rfl
       try replace b4 := b4 rfl
       have A3 := Lib.hid b3
       have A4 := Lib.hid b4
       clear b3 b4
       go_enter Try.func5, Try.ntmps5
       go_wp2_with fail
       refine (awake_any _).mono ?_
       rintro _ w1 ⟨rfl, hb⟩
       replace M := M.step hb
       clear hb
       have x0 := M.at_ 0 rfl
       have x1 := M.at_ 1 rfl
       have x2 := M.at_ 2 rfl
       have x3 := M.at_ 3 rfl
       go_wp2_with fail
       refine (R1.out _).mono ?_
       rintro _ w1 ⟨rfl, hb⟩
       replace M := M.step hb
       clear hb x0 x1 x2 x3
       have x0 := M.at_ 0 rfl
       have x1 := M.at_ 1 rfl
       have x2 := M.at_ 2 rfl
       have x3 := M.at_ 3 rfl
       go_wp2_with fail
       refine (R2.out _).mono ?_
       rintro _ w1 ⟨rfl, hb⟩
       replace M := M.step hb
       clear hb x0 x1 x2 x3
       have x0 := M.at_ 0 rfl
       have x1 := M.at_ 1 rfl
       have x2 := M.at_ 2 rfl
       have x3 := M.at_ 3 rfl
       go_wp2_with fail
       refine (K1.out _).mono ?_
       rintro _ w3 ⟨rfl, hb⟩
       replace M := (M.step hb).two (.int .i64 m0) (.int .i64 m1) 23 w3.heap.size rfl
       clear hb x0 x1 x2 x3
       have x0 := M.at_ 0 rfl
       have x1 := M.at_ 1 rfl
       have x2 := M.at_ 2 rfl
       have x3 := M.at_ 3 rfl
       have x4 := M.at_ 4 rfl
       have x5 := M.at_ 5 rfl
       go_wp2_with fail
       refine (K2.out _).mono ?_
       rintro _ w4 ⟨rfl, hb⟩
       replace M := (M.step hb).two (.int .i64 m0) (.int .i64 m1) 23 w4.heap.size rfl
       clear hb x0 x1 x2 x3 x4 x5
       have x0 := M.at_ 0 rfl
       have x1 := M.at_ 1 rfl
       have x2 := M.at_ 2 rfl
       have x3 := M.at_ 3 rfl
       have x4 := M.at_ 4 rfl
       have x5 := M.at_ 5 rfl
       have x6 := M.at_ 6 rfl
       have x7 := M.at_ 7 rfl
       go_wp2_with fail
       refine (L1.out _).mono ?_
       rintro _ w5 ⟨rfl, hb⟩
       replace M := (M.step hb).two (.int .i64 h0) (.int .i64 h1) 23 w5.heap.size rfl
       clear hb x0 x1 x2 x3 x4 x5 x6 x7
       have x0 := M.at_ 0 rfl
       have x1 := M.at_ 1 rfl
       have x2 := M.at_ 2 rfl
       have x3 := M.at_ 3 rfl
       have x4 := M.at_ 4 rfl
       have x5 := M.at_ 5 rfl
       have x6 := M.at_ 6 rfl
       have x7 := M.at_ 7 rfl
       have x8 := M.at_ 8 rfl
       have x9 := M.at_ 9 rfl
       go_wp2_with (first
         | (go_at_call 12; ((with_reducible refine (A1.out _).mono ?_); rintro _ w6 ⟨rfl, hb⟩)
            replace M := M.step hb
            clear hb x0 x1 x2 x3 x4 x5 x6 x7 x8 x9
            have x0 := M.at_ 0 rfl
            have x1 := M.at_ 1 rfl
            have x2 := M.at_ 2 rfl
            have x3 := M.at_ 3 rfl
            have x4 := M.at_ 4 rfl
            have x5 := M.at_ 5 rfl
            have x6 := M.at_ 6 rfl
            have x7 := M.at_ 7 rfl
            have x8 := M.at_ 8 rfl
            have x9 := M.at_ 9 rfl)
         | (go_at_call 12; ((with_reducible refine (A2.out _).mono ?_); rintro _ w6 ⟨rfl, hb⟩)
            replace M := M.step hb
            clear hb x0 x1 x2 x3 x4 x5 x6 x7 x8 x9
            have x0 := M.at_ 0 rfl
            have x1 := M.at_ 1 rfl
            have x2 := M.at_ 2 rfl
            have x3 := M.at_ 3 rfl
            have x4 := M.at_ 4 rfl
            have x5 := M.at_ 5 rfl
            have x6 := M.at_ 6 rfl
            have x7 := M.at_ 7 rfl
            have x8 := M.at_ 8 rfl
            have x9 := M.at_ 9 rfl))
       have l0 := M.lt 0 rfl
       have l2 := M.lt 2 rfl
       have l4 := M.lt 4 rfl
       have l8 := M.lt 8 rfl
       have hB := M.below
       clear M x6 x7
       have F1 := after_cell w6
       refine region_after (by kernel_rfl) (by kernel_rfl) ?_
       repeat (go_big_quiet_step ((first | (go_at_call_of 12 m0; exact after_call A3.out) | (go_at_call_of 12 h0; exact after_call A4.out) | (go_at_call_of 17 a; exact after_call V1.out) | (go_at_call_of 17 h0; exact after_call V2.out))))
       refine wpQuiet_nil ?_
       rintro _ ⟨x, rfl⟩
       have hb1 := hB.trans ((after_below w6 x).mono hB.size)
       clear F1 A3 A4 V1 V2 x0 x1 x2 x3 x4 x5 x8 x9 l0 l2 l4 l8 hB f3
       generalize after w6 x = w7 at *
       go_wp2
       go_ret
       exact ⟨rfl, hb1⟩)
theorem meets_any (a b c d t : Int) (w : World) : Calls Try.prog 5 #[sp a b, sp c d, .int .i64 t] w fun e w' => e = .returned (.bool true) ∧ Below w.heap.size w w' := by
  cases h1 : rightB a b
  · exact meets_no a b c d t (.inl h1) w
  · cases h2 : rightB c d
    · exact meets_no a b c d t (.inr h2) w
    · exact meets_yes a b c d t h1 h2 w
end Go.Proofs.Ytggdbmpbceijdaa.Span
