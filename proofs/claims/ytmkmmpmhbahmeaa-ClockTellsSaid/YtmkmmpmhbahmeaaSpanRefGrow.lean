/-
  What the document's Grow does.
-/
import Derived.Test.YtmkmmpmhbahmeaaSpanRefSlack
namespace Go.Proofs.Ytmkmmpmhbahmeaa.Span
open Go Go.RowKit Go.Proofs.Ytmkmmpmhbahmeaa.Aid

theorem refGrow_no (a b t p : Int) (h : mayB t p = false) (w : World) : Calls Try.prog 21 #[sp a b, .int .i64 t, .int .i64 p] w fun e w' => e = .returned (sp a b) ∧ Below w.heap.size w w' := by
  have hm := fun w => refMay_any t p w
  simp only [h] at hm
  have HM := Lib.hid hm
  clear hm h
  unfold sp
  go_enter Try.func21, Try.ntmps21
  go_wp2_with (go_at_call 30; refine (HM.out _).mono ?_; rintro x w' ⟨rfl, rfl⟩)
  exact bodyPost_ret (v := sp a b) (by simp [sp, results, Try.results21, go_sem]) rfl ⟨rfl, ((Below.refl _ _).alloc (Nat.le_refl _) _).alloc (by simp) _⟩
theorem refGrow_yes (a b t p : Int) (h : mayB t p = true) (hr : rightB a b = true) (w : World) : Calls Try.prog 21 #[sp a b, .int .i64 t, .int .i64 p] w fun e w' => e = .returned (sp (lim (a + t - slackZ t p)) (lim (b + t + slackZ t p))) ∧ Below w.heap.size w w' := by
  have hm := fun w => refMay_any t p w
  have hs := fun w => refSlack_yes t p h w
  simp only [h] at hm
  obtain ⟨k0, k1, k2⟩ := slack_bounds t p h
  obtain ⟨t0, t1⟩ := may_range t p h
  obtain ⟨r0, r1, r2⟩ := right_range a b hr
  generalize slackZ t p = k at *
  have HM := Lib.hid hm
  have HS := Lib.hid hs
  have e1 : (if 1152921504606846976 < a + t - k then 1152921504606846976 else a + t - k) = lim (a + t - k) := by unfold lim; omega
  have e2 : (if 1152921504606846976 < b + t + k then 1152921504606846976 else b + t + k) = lim (b + t + k) := by unfold lim; omega
  generalize lim (a + t - k) = x at *
  generalize lim (b + t + k) = y at *
  clear hm hs h hr
  unfold sp
  go_enter Try.func21, Try.ntmps21
  go_wp2_with (first
    | (go_at_call 30; refine (HM.out _).mono ?_; rintro x w' ⟨rfl, rfl⟩)
    | (go_at_call 26; refine (HS.out _).mono ?_; rintro x w' ⟨rfl, rfl⟩))
  exact bodyPost_ret (v := sp x y) (by simp [sp, results, Try.results21, go_sem]) rfl ⟨rfl, ((Below.refl _ _).alloc (Nat.le_refl _) _).alloc (by simp) _⟩
theorem refGrow_any (a b t p : Int) (hr : rightB a b = true) (w : World) : Calls Try.prog 21 #[sp a b, .int .i64 t, .int .i64 p] w fun e w' => e = .returned (sp (growLo a t p) (growHi b t p)) ∧ Below w.heap.size w w' := by
  unfold growLo growHi
  cases h : mayB t p
  · exact refGrow_no a b t p h w
  · exact refGrow_yes a b t p h hr w
end Go.Proofs.Ytmkmmpmhbahmeaa.Span
