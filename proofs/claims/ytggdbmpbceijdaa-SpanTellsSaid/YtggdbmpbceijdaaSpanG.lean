/-
  span.Grow, the document's Grow, and awake of layer 6.
-/
import Derived.Test.YtggdbmpbceijdaaSpanR
namespace Go.Proofs.Ytggdbmpbceijdaa.Span
open Go Go.RowKit Go.Proofs.Ytggdbmpbceijdaa.Aid

theorem slack_bounds (t p : Int) (h : mayB t p = true) : 0 ≤ slackZ t p ∧ slackZ t p ≤ 115292150460700000 ∧ slackZ t p ≤ t := by
  unfold slackZ
  rw [if_pos h]
  unfold mayB at h
  simp only [decide_eq_true_eq] at h
  obtain ⟨h0, h1, h2, h3⟩ := h
  have a0 : 0 ≤ t / 1000000 := by omega
  have a1 : t / 1000000 ≤ 1152921504606 := by omega
  have b0 : 0 ≤ t % 1000000 := by omega
  have b1 : t % 1000000 ≤ 999999 := by omega
  have ht : t = t / 1000000 * 1000000 + t % 1000000 := by omega
  generalize t / 1000000 = q at *
  generalize t % 1000000 = r at *
  have c0 : 0 ≤ q * p := Int.mul_nonneg a0 h2
  have c1 : q * p ≤ q * 100000 := Int.mul_le_mul_of_nonneg_left h3 a0
  have e0 : 0 ≤ r * p := Int.mul_nonneg b0 h2
  have e1 : r * p ≤ r * 100000 := Int.mul_le_mul_of_nonneg_left h3 b0
  generalize q * p = x at *
  generalize r * p = y at *
  omega
theorem may_range (t p : Int) (h : mayB t p = true) : 0 ≤ t ∧ t ≤ 1152921504606846976 := by
  unfold mayB at h
  simp only [decide_eq_true_eq] at h
  exact ⟨h.1, h.2.1⟩
theorem right_range (a b : Int) (h : rightB a b = true) : -1152921504606846976 ≤ a ∧ b ≤ 1152921504606846976 ∧ a ≤ b := by
  unfold rightB at h
  simp only [decide_eq_true_eq] at h
  exact h

theorem grow_no (a b t p : Int) (h : mayB t p = false) (w : World) : Calls Try.prog 18 #[sp a b, .int .i64 t, .int .i64 p] w fun e w' => e = .returned (sp a b) ∧ Below w.heap.size w w' := by
  have hm := fun w => may_any t p w
  simp only [h] at hm
  have HM := Lib.hid hm
  clear hm h
  unfold sp
  go_enter Try.func18, Try.ntmps18
  go_wp2_with (go_at_call 21; refine (HM.out _).mono ?_; rintro x w' ⟨rfl, rfl⟩)
  exact bodyPost_ret (v := sp a b) (by simp [sp, results, Try.results18, go_sem]) rfl ⟨rfl, ((Below.refl _ _).alloc (Nat.le_refl _) _).alloc (by simp) _⟩
theorem refGrow_no (a b t p : Int) (h : mayB t p = false) (w : World) : Calls Try.prog 19 #[sp a b, .int .i64 t, .int .i64 p] w fun e w' => e = .returned (sp a b) ∧ Below w.heap.size w w' := by
  have hm := fun w => refMay_any t p w
  simp only [h] at hm
  have HM := Lib.hid hm
  clear hm h
  unfold sp
  go_enter Try.func19, Try.ntmps19
  go_wp2_with (go_at_call 22; refine (HM.out _).mono ?_; rintro x w' ⟨rfl, rfl⟩)
  exact bodyPost_ret (v := sp a b) (by simp [sp, results, Try.results19, go_sem]) rfl ⟨rfl, ((Below.refl _ _).alloc (Nat.le_refl _) _).alloc (by simp) _⟩
theorem refGrow_yes (a b t p : Int) (h : mayB t p = true) (hr : rightB a b = true) (w : World) : Calls Try.prog 19 #[sp a b, .int .i64 t, .int .i64 p] w fun e w' => e = .returned (sp (lim (a + t - slackZ t p)) (lim (b + t + slackZ t p))) ∧ Below w.heap.size w w' := by
  have hm := fun w => refMay_any t p w
  have hs := fun w => refSlack_yes t p h w
  simp only [h] at hm
  obtain ⟨k0, k1, k2⟩ := slack_bounds t p h
  obtain ⟨t0, t1⟩ := may_range t p h
  obtain ⟨r0, r1, r2⟩ := right_range a b hr
  generalize slackZ t p = k at *
  have HM := Lib.hid hm
  have HS := Lib.hid hs
  have e1 : (if 1152921504606846976 < a + t - k then 1152921504606846976 else a + t - k) = lim (a + t - k) := by unfold lim; omega
  have e2 : (if 1152921504606846976 < b + t + k then 1152921504606846976 else b + t + k) = lim (b + t + k) := by unfold lim; omega
  generalize lim (a + t - k) = x at *
  generalize lim (b + t + k) = y at *
  clear hm hs h hr
  unfold sp
  go_enter Try.func19, Try.ntmps19
  go_wp2_with (first
    | (go_at_call 22; refine (HM.out _).mono ?_; rintro x w' ⟨rfl, rfl⟩)
    | (go_at_call 15; refine (HS.out _).mono ?_; rintro x w' ⟨rfl, rfl⟩))
  exact bodyPost_ret (v := sp x y) (by simp [sp, results, Try.results19, go_sem]) rfl ⟨rfl, ((Below.refl _ _).alloc (Nat.le_refl _) _).alloc (by simp) _⟩
theorem grow_yes (a b t p : Int) (h : mayB t p = true) (hr : rightB a b = true) (w : World) : Calls Try.prog 18 #[sp a b, .int .i64 t, .int .i64 p] w fun e w' => e = .returned (sp (lim (a + t - slackZ t p)) (lim (b + t + slackZ t p))) ∧ Below w.heap.size w w' := by
  have hm := fun w => may_any t p w
  have hs := fun w => slack_yes t p h w
  simp only [h] at hm
  obtain ⟨k0, k1, k2⟩ := slack_bounds t p h
  obtain ⟨t0, t1⟩ := may_range t p h
  obtain ⟨r0, r1, r2⟩ := right_range a b hr
  generalize slackZ t p = k at *
  have hl := limited_any (a + t - k) (b + t + k)
  generalize lim (a + t - k) = x at *
  generalize lim (b + t + k) = y at *
  unfold sp at *
  have HM := Lib.hid hm
  have HS := Lib.hid hs
  have HL := Lib.hid hl
  clear hm hs h hr hl
  go_enter Try.func18, Try.ntmps18
  go_wp2_with (first
    | (go_at_call 21; refine (HM.out _).mono ?_; rintro x w' ⟨rfl, rfl⟩)
    | (go_at_call 14; refine (HS.out _).mono ?_; rintro x w' ⟨rfl, rfl⟩)
    | (go_at_call 20; refine (HL.out _).mono ?_; rintro _ w3 ⟨rfl, hb⟩; obtain ⟨hc, hf⟩ := bcell hb))
  exact bodyPost_ret (v := sp x y) (by simp [sp, results, Try.results18, go_sem, hc]) rfl ⟨rfl, (((((Below.refl _ _).alloc (Nat.le_refl _) _).alloc (by simp) _).trans (hb.mono (by simp; omega))).setCell (by simp) _).setCell (by simp) _⟩

set_option maxRecDepth 100000 in
theorem awake_any (w : World) : Calls Try.prog 7 #[] w fun e w' => e = .returned (.bool true) ∧ Below w.heap.size w w' := by
  have h1 := meet_yes 1 5 4 9 (by decide)
  have h2 := grow_yes 10 20 1000001 2 (by decide) (by decide)
  have h3 := slack_yes 1000001 2 (by decide)
  have h4 := has_any 1000008 1000024 1000008
  have h5 := width_any 1000008 1000024 (by decide)
  have h6 := right_yes 1000008 1000024 (by decide)
  have s0 : slackZ 1000001 2 = 3 := by decide
  have s1 : lim (10 + 1000001 - 3) = 1000008 := by decide
  have s2 : lim (20 + 1000001 + 3) = 1000024 := by decide
  have s3 : hasB 1000008 1000024 1000008 = true := by decide
  have s4 : max (1 : Int) 4 = 4 := by decide
  have s5 : min (5 : Int) 9 = 5 := by decide
  have s6 : (1000024 : Int) - 1000008 = 16 := by decide
  simp only [s0, s1, s2, s3, s4, s5, s6] at h1 h2 h3 h4 h5 h6
  clear s0 s1 s2 s3 s4 s5 s6
  unfold sp at *
  have H1 := Lib.hid h1
  have H2 := Lib.hid h2
  have H3 := Lib.hid h3
  have H4 := Lib.hid h4
  have H5 := Lib.hid h5
  have H6 := Lib.hid h6
  clear h1 h2 h3 h4 h5 h6
  go_enter Try.func7, Try.ntmps7
  go_wp2_with fail
  refine (H1.out _).mono ?_
  rintro _ w1 ⟨rfl, hb1⟩
  go_wp2_with fail
  refine (H2.out _).mono ?_
  rintro _ w2 ⟨rfl, hb2⟩
  have hz1 : w1.heap.size < w2.heap.size := by have := hb2.size; simp at this; omega
  obtain ⟨hc2, hf2⟩ := bcell hb2
  go_wp2_with (go_at_call 14; refine (H3.out _).mono ?_; rintro _ w3 ⟨rfl, rfl⟩)
  obtain ⟨W, hW⟩ : ∃ W, W = w2.alloc (.cells #[.int .i64 1000008, .int .i64 1000024] 23) := ⟨_, rfl⟩
  have hB : Below w.heap.size w W := by rw [hW]; exact (((hb1.alloc hb1.size _).trans (hb2.mono (by have := hb1.size; simp; omega))).alloc (by have := hb1.size; omega) _)
  have d0 : W.cell? ⟨w2.heap.size, 0, none⟩ = some (.int .i64 1000008) := by rw [hW]; go_simp
  have d1 : W.cell? ⟨w2.heap.size, 1, none⟩ = some (.int .i64 1000024) := by rw [hW]; go_simp
  have l2 : w2.heap.size < W.heap.size := by rw [hW]; simp
  rw [← hW]
  clear hW hc2 hf2 hb2 hb1
  generalize w2.heap.size = g2 at *
  clear hz1
  refine (H4.out _).mono ?_
  rintro _ w4 ⟨rfl, hb4⟩
  have hB4 := hB.trans (hb4.mono hB.size)
  have d04 := (hb4.cell (p := ⟨g2, 0, none⟩) l2).trans d0
  have d14 := (hb4.cell (p := ⟨g2, 1, none⟩) l2).trans d1
  have l4 := Nat.lt_of_lt_of_le l2 hb4.size
  clear hB hb4 d0 d1 l2
  go_wp2_with fail
  refine (H5.out _).mono ?_
  rintro _ w5 ⟨rfl, hb5⟩
  have hB5 := hB4.trans (hb5.mono hB4.size)
  have d05 := (hb5.cell (p := ⟨g2, 0, none⟩) l4).trans d04
  have d15 := (hb5.cell (p := ⟨g2, 1, none⟩) l4).trans d14
  clear hB4 hb5 d04 d14 l4
  go_wp2_with fail
  refine (H6.out _).mono ?_
  rintro _ w6 ⟨rfl, hb6⟩
  have hB6 := hB5.trans (hb6.mono hB5.size)
  clear hB5 hb6 d05 d15
  go_wp2
  go_ret
  exact ⟨rfl, hB6⟩
end Go.Proofs.Ytggdbmpbceijdaa.Span
