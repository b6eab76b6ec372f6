/-
  What the document's functions of layer 8 do, but for Set.
-/
import Derived.Test.YtmkmmpmhbahmeaaClockPlain
import Derived.Test.YtmkmmpmhbahmeaaSpanRefGrow
import Derived.Test.YtmkmmpmhbahmeaaSpanRefRight
import Derived.Deep.RegionWith
namespace Go.Proofs.Ytmkmmpmhbahmeaa.Clock
open Go Go.RowKit Go.Proofs.Ytmkmmpmhbahmeaa.Aid Go.Proofs.Ytmkmmpmhbahmeaa.Span Go.Proofs.Ytmkmmpmhbahmeaa.Sweep

theorem reading_any (n : Int) (w : World) : Calls Try.prog 20 #[.int .i64 n] w fun x w' => x = .returned (.bool (readB n)) ∧ w = w' := by
  by_cases h0 : 0 ≤ n <;> by_cases h1 : n ≤ 1152921504606846976
  all_goals
    go_enter Try.func20, Try.ntmps20
    go_wp2
    go_ret
    exact ⟨retB (by unfold readB; simp [*]), rfl⟩
set_option maxRecDepth 100000 in
theorem refMayC_any (p : Int) (on : Bool) (t lo hi : Int) (w : World) : Calls Try.prog 12 #[ck p on t lo hi] w fun x w' => x = .returned (.bool (mayC p on t lo hi)) ∧ Below w.heap.size w w' := by
  have r1 := reading_any t
  have r2 := refRight_any lo hi
  have hm : mayC p on t lo hi = (decide (0 ≤ p) && (decide (p ≤ 100000) && (!on || (readB t && rightB lo hi)))) := by
    unfold mayC ppmB
    rw [Bool.decide_and, Bool.and_assoc]
  have HM := Lib.hid hm
  clear hm
  generalize readB t = u at *
  generalize rightB lo hi = v at *
  unfold sp at r2
  unfold ck
  have R1 := Lib.hid r1
  have R2 := Lib.hid r2
  clear r1 r2
  have hb : Below w.heap.size w (w.alloc (.cells #[.int .i64 p, .bool on, .int .i64 t, .int .i64 lo, .int .i64 hi] 34)) := (Below.refl _ _).alloc (Nat.le_refl _) _
  by_cases h0 : 0 ≤ p <;> by_cases h1 : p ≤ 100000 <;> rcases on with _ | _ <;> rcases u with _ | _
  all_goals first
    | (exfalso; omega)
    | (go_enter Try.func12, Try.ntmps12
       go_wp2_with (first
         | (go_at_call 20; refine (R1.out _).mono ?_; rintro _ u1 ⟨rfl, rfl⟩)
         | (go_at_call 17; refine (R2.out _).mono ?_; rintro _ u2 ⟨rfl, hb2⟩; have hb := hb.trans (hb2.mono hb.size)))
       go_ret
       exact ⟨retB (by rw [HM.out]; simp [*] <;> (intro h; omega)), hb⟩)

set_option maxRecDepth 100000 in
theorem refSample_no (lo hi asked got p : Int) (h : sampleB lo hi asked got p = false) (w : World) : Calls Try.prog 7 #[sp lo hi, .int .i64 asked, .int .i64 got, .int .i64 p] w fun x w' => x = .returned (.tuple #[sp 0 0, .int .i64 1]) ∧ Below w.heap.size w w' := by
  have r0 := refRight_any lo hi
  have r1 := reading_any asked
  have r2 := reading_any got
  unfold sampleB ppmB at h
  generalize rightB lo hi = u at *
  generalize readB asked = v at *
  generalize readB got = x at *
  unfold sp at *
  have R0 := Lib.hid r0
  have R1 := Lib.hid r1
  have R2 := Lib.hid r2
  clear r0 r1 r2
  have hb : Below w.heap.size w ((w.alloc (.cells #[.int .i64 lo, .int .i64 hi] 23)).alloc (.cells #[.int .i64 0, .int .i64 0] 23)) := ((Below.refl _ _).alloc (Nat.le_refl _) _).alloc (by simp) _
  rcases u with _ | _
  · clear h
    go_enter Try.func7, Try.ntmps7
    go_wp2_with (first
      | (go_at_call_of 20 asked; refine (R1.out _).mono ?_; rintro _ u1 ⟨rfl, rfl⟩)
      | (go_at_call_of 20 got; refine (R2.out _).mono ?_; rintro _ u1 ⟨rfl, rfl⟩)
      | (go_at_call 17; refine (R0.out _).mono ?_; rintro _ u2 ⟨rfl, hb2⟩; obtain ⟨hc, hf⟩ := bcell hb2; have hz := hb2.size; rw [World.size_alloc, World.size_alloc] at hz; have hz1 : w.heap.size + 1 < u2.heap.size := by omega))
    exact bodyPost_ret (v := .tuple #[.agg #[.int .i64 0, .int .i64 0], .int .i64 1]) (by simp [results, Try.results7, go_sem, hc]) rfl ⟨rfl, ((hb.trans (hb2.mono hb.size)).setCell (by simp) _).setCell (by simp) _⟩
  rcases v with _ | _
  · clear h
    go_enter Try.func7, Try.ntmps7
    go_wp2_with (first
      | (go_at_call_of 20 asked; refine (R1.out _).mono ?_; rintro _ u1 ⟨rfl, rfl⟩)
      | (go_at_call_of 20 got; refine (R2.out _).mono ?_; rintro _ u1 ⟨rfl, rfl⟩)
      | (go_at_call 17; refine (R0.out _).mono ?_; rintro _ u2 ⟨rfl, hb2⟩; obtain ⟨hc, hf⟩ := bcell hb2; have hz := hb2.size; rw [World.size_alloc, World.size_alloc] at hz; have hz1 : w.heap.size + 1 < u2.heap.size := by omega))
    exact bodyPost_ret (v := .tuple #[.agg #[.int .i64 0, .int .i64 0], .int .i64 1]) (by simp [results, Try.results7, go_sem, hc]) rfl ⟨rfl, ((hb.trans (hb2.mono hb.size)).setCell (by simp) _).setCell (by simp) _⟩
  rcases x with _ | _
  · clear h
    go_enter Try.func7, Try.ntmps7
    go_wp2_with (first
      | (go_at_call_of 20 asked; refine (R1.out _).mono ?_; rintro _ u1 ⟨rfl, rfl⟩)
      | (go_at_call_of 20 got; refine (R2.out _).mono ?_; rintro _ u1 ⟨rfl, rfl⟩)
      | (go_at_call 17; refine (R0.out _).mono ?_; rintro _ u2 ⟨rfl, hb2⟩; obtain ⟨hc, hf⟩ := bcell hb2; have hz := hb2.size; rw [World.size_alloc, World.size_alloc] at hz; have hz1 : w.heap.size + 1 < u2.heap.size := by omega))
    exact bodyPost_ret (v := .tuple #[.agg #[.int .i64 0, .int .i64 0], .int .i64 1]) (by simp [results, Try.results7, go_sem, hc]) rfl ⟨rfl, ((hb.trans (hb2.mono hb.size)).setCell (by simp) _).setCell (by simp) _⟩
  by_cases h1 : got < asked
  · clear h
    go_enter Try.func7, Try.ntmps7
    go_wp2_with (first
      | (go_at_call_of 20 asked; refine (R1.out _).mono ?_; rintro _ u1 ⟨rfl, rfl⟩)
      | (go_at_call_of 20 got; refine (R2.out _).mono ?_; rintro _ u1 ⟨rfl, rfl⟩)
      | (go_at_call 17; refine (R0.out _).mono ?_; rintro _ u2 ⟨rfl, hb2⟩; obtain ⟨hc, hf⟩ := bcell hb2; have hz := hb2.size; rw [World.size_alloc, World.size_alloc] at hz; have hz1 : w.heap.size + 1 < u2.heap.size := by omega))
    exact bodyPost_ret (v := .tuple #[.agg #[.int .i64 0, .int .i64 0], .int .i64 1]) (by simp [results, Try.results7, go_sem, hc]) rfl ⟨rfl, ((hb.trans (hb2.mono hb.size)).setCell (by simp) _).setCell (by simp) _⟩
  by_cases h2 : p < 0
  · clear h
    go_enter Try.func7, Try.ntmps7
    go_wp2_with (first
      | (go_at_call_of 20 asked; refine (R1.out _).mono ?_; rintro _ u1 ⟨rfl, rfl⟩)
      | (go_at_call_of 20 got; refine (R2.out _).mono ?_; rintro _ u1 ⟨rfl, rfl⟩)
      | (go_at_call 17; refine (R0.out _).mono ?_; rintro _ u2 ⟨rfl, hb2⟩; obtain ⟨hc, hf⟩ := bcell hb2; have hz := hb2.size; rw [World.size_alloc, World.size_alloc] at hz; have hz1 : w.heap.size + 1 < u2.heap.size := by omega))
    exact bodyPost_ret (v := .tuple #[.agg #[.int .i64 0, .int .i64 0], .int .i64 1]) (by simp [results, Try.results7, go_sem, hc]) rfl ⟨rfl, ((hb.trans (hb2.mono hb.size)).setCell (by simp) _).setCell (by simp) _⟩
  by_cases h3 : 100000 < p
  · clear h
    go_enter Try.func7, Try.ntmps7
    go_wp2_with (first
      | (go_at_call_of 20 asked; refine (R1.out _).mono ?_; rintro _ u1 ⟨rfl, rfl⟩)
      | (go_at_call_of 20 got; refine (R2.out _).mono ?_; rintro _ u1 ⟨rfl, rfl⟩)
      | (go_at_call 17; refine (R0.out _).mono ?_; rintro _ u2 ⟨rfl, hb2⟩; obtain ⟨hc, hf⟩ := bcell hb2; have hz := hb2.size; rw [World.size_alloc, World.size_alloc] at hz; have hz1 : w.heap.size + 1 < u2.heap.size := by omega))
    exact bodyPost_ret (v := .tuple #[.agg #[.int .i64 0, .int .i64 0], .int .i64 1]) (by simp [results, Try.results7, go_sem, hc]) rfl ⟨rfl, ((hb.trans (hb2.mono hb.size)).setCell (by simp) _).setCell (by simp) _⟩
  exfalso; revert h; simp; omega

theorem refGrow_at (a b t p : Int) (hr : rightB a b = true) (w : World) : Calls Try.prog 21 #[.agg #[.int .i64 a, .int .i64 b], .int .i64 t, .int .i64 p] w fun e w' => e = .returned (.agg #[.int .i64 (growLo a t p), .int .i64 (growHi b t p)]) ∧ Below w.heap.size w w' := by
  unfold growLo growHi
  cases h : mayB t p
  · exact refGrow_no a b t p h w
  · exact refGrow_yes a b t p h hr w
set_option maxRecDepth 100000 in
theorem refSample_yes (lo hi asked got p : Int) (h : sampleB lo hi asked got p = true) (w : World) : Calls Try.prog 7 #[sp lo hi, .int .i64 asked, .int .i64 got, .int .i64 p] w fun x w' => x = .returned (.tuple #[sp lo (growHi hi (got - asked) p), .int .i64 0]) ∧ Below w.heap.size w w' := by
  obtain ⟨h1, h2, h3, h4, h5⟩ := sample_at h
  have r0 := refRight_any lo hi
  have r1 := reading_any asked
  have r2 := reading_any got
  have r3 := refGrow_at lo hi (got - asked) p h1
  rw [h1] at r0
  rw [show readB asked = true by unfold readB; rw [decide_eq_true_iff]; omega] at r1
  rw [show readB got = true by unfold readB; rw [decide_eq_true_iff]; omega] at r2
  unfold ppmB at h5
  rw [decide_eq_true_iff] at h5
  obtain ⟨h6, h7⟩ := h5
  generalize growLo lo (got - asked) p = y0 at *
  generalize growHi hi (got - asked) p = y1 at *
  unfold sp at *
  have R0 := Lib.hid r0
  have R1 := Lib.hid r1
  have R2 := Lib.hid r2
  have R3 := Lib.hid r3
  clear r0 r1 r2 r3 h h1
  have n1 : ¬ got < asked := by omega
  have hb : Below w.heap.size w ((w.alloc (.cells #[.int .i64 lo, .int .i64 hi] 23)).alloc (.cells #[.int .i64 0, .int .i64 0] 23)) := ((Below.refl _ _).alloc (Nat.le_refl _) _).alloc (by simp) _
  go_enter Try.func7, Try.ntmps7
  go_wp2_with fail
  refine (R0.out _).mono ?_
  rintro _ u2 ⟨rfl, hb2⟩
  obtain ⟨hc, hf⟩ := bcell hb2
  have hz := hb2.size
  rw [World.size_alloc, World.size_alloc] at hz
  have hz1 : w.heap.size + 1 < u2.heap.size := by omega
  have hz0 : w.heap.size < u2.heap.size := by omega
  go_wp2_with fail
  refine (R1.out _).mono ?_
  rintro _ u3 ⟨rfl, rfl⟩
  go_wp2_with fail
  refine (R2.out _).mono ?_
  rintro _ u4 ⟨rfl, rfl⟩
  go_wp2_with fail
  refine (R3.out _).mono ?_
  rintro _ u3 ⟨rfl, hb3⟩
  obtain ⟨hc3, hf3⟩ := bcell hb3
  have hz3 := hb3.size
  have hz4 : w.heap.size + 1 < u3.heap.size := by omega
  have hz5 : w.heap.size < u3.heap.size := by omega
  go_wp2
  exact bodyPost_ret (v := .tuple #[.agg #[.int .i64 lo, .int .i64 y1], .int .i64 0]) (by simp [results, Try.results7, go_sem, hc, hc3, hz1, hz4]) rfl ⟨rfl, ((((hb.trans (hb2.mono hb.size)).trans (hb3.mono (by omega))).setCell (by simp) _).setCell (by simp) _).alloc (by simp; omega) _⟩
theorem refSample_any (lo hi asked got p : Int) (w : World) : Calls Try.prog 7 #[sp lo hi, .int .i64 asked, .int .i64 got, .int .i64 p] w fun x w' => x = .returned (.tuple #[sp (sampleLo lo hi asked got p) (sampleHi lo hi asked got p), .int .i64 (sampleC lo hi asked got p)]) ∧ Below w.heap.size w w' := by
  unfold sampleLo sampleHi sampleC
  cases h : sampleB lo hi asked got p
  · exact refSample_no lo hi asked got p h w
  · exact refSample_yes lo hi asked got p h w

set_option maxRecDepth 100000 in
theorem refNew_any (p : Int) (w : World) : Calls Try.prog 9 #[.int .i64 p] w fun x w' => x = .returned (.tuple #[ck (newP p) false 0 0 0, .int .i64 (newC p)]) ∧ Below w.heap.size w w' := by
  have hb : Below w.heap.size w (w.alloc (.cells #[.int .i64 0, .bool false, .int .i64 0, .int .i64 0, .int .i64 0] 34)) := (Below.refl _ _).alloc (Nat.le_refl _) _
  by_cases h0 : p < 0
  · have e1 : newP p = 0 ∧ newC p = 1 := by unfold newP newC ppmB; rw [decide_eq_false (by omega)]; exact ⟨rfl, rfl⟩
    rw [e1.1, e1.2]
    clear e1
    go_enter Try.func9, Try.ntmps9
    go_wp2
    exact bodyPost_ret (v := .tuple #[ck 0 false 0 0 0, .int .i64 1]) (by simp [ck, results, Try.results9, go_sem]) rfl ⟨rfl, hb⟩
  · by_cases h1 : 100000 < p
    · have e1 : newP p = 0 ∧ newC p = 1 := by unfold newP newC ppmB; rw [decide_eq_false (by omega)]; exact ⟨rfl, rfl⟩
      rw [e1.1, e1.2]
      clear e1
      go_enter Try.func9, Try.ntmps9
      go_wp2
      exact bodyPost_ret (v := .tuple #[ck 0 false 0 0 0, .int .i64 1]) (by simp [ck, results, Try.results9, go_sem]) rfl ⟨rfl, hb⟩
    · have e1 : newP p = p ∧ newC p = 0 := by unfold newP newC ppmB; rw [decide_eq_true (by omega)]; exact ⟨rfl, rfl⟩
      rw [e1.1, e1.2]
      clear e1
      go_enter Try.func9, Try.ntmps9
      go_wp2
      exact bodyPost_ret (v := .tuple #[ck p false 0 0 0, .int .i64 0]) (by simp [ck, results, Try.results9, go_sem]) rfl ⟨rfl, (Below.refl _ _).alloc (Nat.le_refl _) _⟩
end Go.Proofs.Ytmkmmpmhbahmeaa.Clock
