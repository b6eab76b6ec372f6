/-
  What span.Grow does.
-/
import Derived.Test.YtmkmmpmhbahmeaaSpanSlack
import Derived.Test.YtmkmmpmhbahmeaaSpanLimited
namespace Go.Proofs.Ytmkmmpmhbahmeaa.Span
open Go Go.RowKit Go.Proofs.Ytmkmmpmhbahmeaa.Aid

theorem grow_no (a b t p : Int) (h : mayB t p = false) (w : World) : Calls Try.prog 18 #[sp a b, .int .i64 t, .int .i64 p] w fun e w' => e = .returned (sp a b) ∧ Below w.heap.size w w' := by
  have hm := fun w => may_any t p w
  simp only [h] at hm
  have HM := Lib.hid hm
  clear hm h
  unfold sp
  go_enter Try.func18, Try.ntmps18
  go_wp2_with (go_at_call 27; refine (HM.out _).mono ?_; rintro x w' ⟨rfl, rfl⟩)
  exact bodyPost_ret (v := sp a b) (by simp [sp, results, Try.results18, go_sem]) rfl ⟨rfl, ((Below.refl _ _).alloc (Nat.le_refl _) _).alloc (by simp) _⟩
theorem grow_yes (a b t p : Int) (h : mayB t p = true) (hr : rightB a b = true) (w : World) : Calls Try.prog 18 #[sp a b, .int .i64 t, .int .i64 p] w fun e w' => e = .returned (sp (lim (a + t - slackZ t p)) (lim (b + t + slackZ t p))) ∧ Below w.heap.size w w' := by
  have hm := fun w => may_any t p w
  have hs := fun w => slack_yes t p h w
  simp only [h] at hm
  obtain ⟨k0, k1, k2⟩ := slack_bounds t p h
  obtain ⟨t0, t1⟩ := may_range t p h
  obtain ⟨r0, r1, r2⟩ := right_range a b hr
  generalize slackZ t p = k at *
  have hl := limited_any (a + t - k) (b + t + k)
  generalize lim (a + t - k) = x at *
  generalize lim (b + t + k) = y at *
  unfold sp at *
  have HM := Lib.hid hm
  have HS := Lib.hid hs
  have HL := Lib.hid hl
  clear hm hs h hr hl
  go_enter Try.func18, Try.ntmps18
  go_wp2_with (first
    | (go_at_call 27; refine (HM.out _).mono ?_; rintro x w' ⟨rfl, rfl⟩)
    | (go_at_call 28; refine (HS.out _).mono ?_; rintro x w' ⟨rfl, rfl⟩)
    | (go_at_call 29; refine (HL.out _).mono ?_; rintro _ w3 ⟨rfl, hb⟩; obtain ⟨hc, hf⟩ := bcell hb))
  exact bodyPost_ret (v := sp x y) (by simp [sp, results, Try.results18, go_sem, hc]) rfl ⟨rfl, (((((Below.refl _ _).alloc (Nat.le_refl _) _).alloc (by simp) _).trans (hb.mono (by simp; omega))).setCell (by simp) _).setCell (by simp) _⟩

theorem grow_any (a b t p : Int) (hr : rightB a b = true) (w : World) : Calls Try.prog 18 #[sp a b, .int .i64 t, .int .i64 p] w fun e w' => e = .returned (sp (growLo a t p) (growHi b t p)) ∧ Below w.heap.size w w' := by
  unfold growLo growHi
  cases h : mayB t p
  · exact grow_no a b t p h w
  · exact grow_yes a b t p h hr w
end Go.Proofs.Ytmkmmpmhbahmeaa.Span
