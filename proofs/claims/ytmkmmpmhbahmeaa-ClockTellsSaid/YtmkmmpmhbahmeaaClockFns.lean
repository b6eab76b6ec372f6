/-
  What clock.New, clock.Off and clock.Now do.
-/
import Derived.Test.YtmkmmpmhbahmeaaClockRange
import Derived.Test.YtmkmmpmhbahmeaaSpanGrow
namespace Go.Proofs.Ytmkmmpmhbahmeaa.Clock
open Go Go.RowKit Go.Proofs.Ytmkmmpmhbahmeaa.Aid Go.Proofs.Ytmkmmpmhbahmeaa.Span Go.Proofs.Ytmkmmpmhbahmeaa.Sweep

set_option maxRecDepth 100000 in
theorem newC_any (p : Int) (w : World) : Calls Try.prog 8 #[.int .i64 p] w fun x w' => x = .returned (.tuple #[ck (newP p) false 0 0 0, .int .i64 (newC p)]) ∧ Below w.heap.size w w' := by
  have r0 := inRange_any p false 0 0 0
  rw [show (ppmB p && readB 0 && rightB 0 0) = ppmB p by rw [show readB 0 = true by decide, show rightB 0 0 = true by decide]; simp] at r0
  unfold newP newC
  generalize ppmB p = u at *
  unfold ck at *
  have R0 := Lib.hid r0
  clear r0
  have M := ((Mem.nil w).five (.int .i64 0) (.bool false) (.int .i64 0) (.int .i64 0) (.int .i64 0) 25 w.heap.size rfl).five (.int .i64 p) (.bool false) (.int .i64 0) (.int .i64 0) (.int .i64 0) 25 (w.heap.size + 1) (by simp)
  rcases u with _ | _
  · go_enter Try.func8, Try.ntmps8
    go_wp2_with fail
    refine (R0.out _).mono ?_
    rintro _ u2 ⟨rfl, hb2⟩
    replace M := M.step hb2
    have c0 := M.at_ 0 rfl
    have c1 := M.at_ 1 rfl
    have c2 := M.at_ 2 rfl
    have c3 := M.at_ 3 rfl
    have c4 := M.at_ 4 rfl
    have d0 := M.at_ 5 rfl
    have d1 := M.at_ 6 rfl
    have d2 := M.at_ 7 rfl
    have d3 := M.at_ 8 rfl
    have d4 := M.at_ 9 rfl
    have hz1 := M.lt 0 rfl
    have hz0 := M.lt 5 rfl
    have hb3 := M.below
    obtain ⟨-, hf⟩ := bcell hb2
    clear M hb2 R0
    go_wp2
    exact bodyPost_ret (v := .tuple #[.agg #[.int .i64 0, .bool false, .int .i64 0, .int .i64 0, .int .i64 0], .int .i64 1]) (by simp [results, Try.results8, go_sem, d0, d1, d2, d3, d4]) rfl ⟨rfl, (((((hb3.setCell (by simp) _).setCell (by simp) _).setCell (by simp) _).setCell (by simp) _).setCell (by simp) _)⟩
  · go_enter Try.func8, Try.ntmps8
    go_wp2_with fail
    refine (R0.out _).mono ?_
    rintro _ u2 ⟨rfl, hb2⟩
    replace M := M.step hb2
    have c0 := M.at_ 0 rfl
    have c1 := M.at_ 1 rfl
    have c2 := M.at_ 2 rfl
    have c3 := M.at_ 3 rfl
    have c4 := M.at_ 4 rfl
    have d0 := M.at_ 5 rfl
    have d1 := M.at_ 6 rfl
    have d2 := M.at_ 7 rfl
    have d3 := M.at_ 8 rfl
    have d4 := M.at_ 9 rfl
    have hz1 := M.lt 0 rfl
    have hz0 := M.lt 5 rfl
    have hb3 := M.below
    obtain ⟨-, hf⟩ := bcell hb2
    clear M hb2 R0
    go_wp2
    exact bodyPost_ret (v := .tuple #[.agg #[.int .i64 p, .bool false, .int .i64 0, .int .i64 0, .int .i64 0], .int .i64 0]) (by simp [results, Try.results8, go_sem, d0, d1, d2, d3, d4]) rfl ⟨rfl, (((((hb3.setCell (by simp) _).setCell (by simp) _).setCell (by simp) _).setCell (by simp) _).setCell (by simp) _)⟩
set_option maxRecDepth 100000 in
theorem offC_any (p : Int) (on : Bool) (t lo hi : Int) (w : World) : Calls Try.prog 15 #[ck p on t lo hi] w fun x w' => x = .returned (ck p false 0 0 0) ∧ Below w.heap.size w w' := by
  unfold ck
  go_enter Try.func15, Try.ntmps15
  go_wp2_with fail
  exact bodyPost_ret (v := .agg #[.int .i64 p, .bool false, .int .i64 0, .int .i64 0, .int .i64 0]) (by simp [results, Try.results15, go_sem]) rfl ⟨rfl, ((Below.refl _ _).alloc (Nat.le_refl _) _).alloc (by simp) _⟩
theorem now_eq : ∀ (a on b c d e : Bool), (on && (a && b && c) && d && e) = (a && (!on || (b && c)) && on && d && e) := by decide
set_option maxRecDepth 100000 in
set_option maxHeartbeats 1000000 in
theorem nowC_no (p : Int) (on : Bool) (t lo hi n : Int) (h : nowB p on t lo hi n = false) (w : World) : Calls Try.prog 10 #[ck p on t lo hi, .int .i64 n] w fun x w' => x = .returned (.tuple #[sp 0 0, .int .i64 11]) ∧ Below w.heap.size w w' := by
  have r0 := inRange_any p on t lo hi
  have r1 := isReading_any n
  have hh : (on && (ppmB p && readB t && rightB lo hi) && readB n && decide (t ≤ n)) = false := (now_eq (ppmB p) on (readB t) (rightB lo hi) (readB n) (decide (t ≤ n))).trans h
  clear h
  generalize (ppmB p && readB t && rightB lo hi) = u at *
  generalize readB n = v at *
  unfold ck at *
  unfold sp
  have R0 := Lib.hid r0
  have R1 := Lib.hid r1
  clear r0 r1
  have hb := (((Below.refl _ _).alloc (Nat.le_refl _) _).alloc (by simp) _ : Below w.heap.size w ((w.alloc (.cells #[.int .i64 p, .bool on, .int .i64 t, .int .i64 lo, .int .i64 hi] 25)).alloc (.cells #[.int .i64 0, .int .i64 0] 23)))
  rcases on with _ | _
  · clear hh
    go_enter Try.func10, Try.ntmps10
    go_wp2_with fail
    exact bodyPost_ret (v := .tuple #[.agg #[.int .i64 0, .int .i64 0], .int .i64 11]) (by simp [results, Try.results10, go_sem]) rfl ⟨rfl, hb⟩
  rcases u with _ | _
  · clear hh
    go_enter Try.func10, Try.ntmps10
    go_wp2_with (first
      | (go_at_call 23; refine (R1.out _).mono ?_; rintro _ u1 ⟨rfl, rfl⟩)
      | (go_at_call 22; refine (R0.out _).mono ?_; rintro _ u2 ⟨rfl, hb2⟩; obtain ⟨hc, hf⟩ := bcell hb2; have hz := hb2.size; rw [World.size_alloc, World.size_alloc] at hz; have hz1 : w.heap.size + 1 < u2.heap.size := (by omega); have hz0 : w.heap.size < u2.heap.size := (by omega)))
    exact bodyPost_ret (v := .tuple #[.agg #[.int .i64 0, .int .i64 0], .int .i64 11]) (by simp [results, Try.results10, go_sem, hc]) rfl ⟨rfl, ((hb.trans (hb2.mono hb.size)).setCell (by simp) _).setCell (by simp) _⟩
  rcases v with _ | _
  · clear hh
    go_enter Try.func10, Try.ntmps10
    go_wp2_with (first
      | (go_at_call 23; refine (R1.out _).mono ?_; rintro _ u1 ⟨rfl, rfl⟩)
      | (go_at_call 22; refine (R0.out _).mono ?_; rintro _ u2 ⟨rfl, hb2⟩; obtain ⟨hc, hf⟩ := bcell hb2; have hz := hb2.size; rw [World.size_alloc, World.size_alloc] at hz; have hz1 : w.heap.size + 1 < u2.heap.size := (by omega); have hz0 : w.heap.size < u2.heap.size := (by omega)))
    exact bodyPost_ret (v := .tuple #[.agg #[.int .i64 0, .int .i64 0], .int .i64 11]) (by simp [results, Try.results10, go_sem, hc]) rfl ⟨rfl, ((hb.trans (hb2.mono hb.size)).setCell (by simp) _).setCell (by simp) _⟩
  by_cases h1 : n < t
  · clear hh
    go_enter Try.func10, Try.ntmps10
    go_wp2_with (first
      | (go_at_call 23; refine (R1.out _).mono ?_; rintro _ u1 ⟨rfl, rfl⟩)
      | (go_at_call 22; refine (R0.out _).mono ?_; rintro _ u2 ⟨rfl, hb2⟩; obtain ⟨hc, hf⟩ := bcell hb2; have hz := hb2.size; rw [World.size_alloc, World.size_alloc] at hz; have hz1 : w.heap.size + 1 < u2.heap.size := (by omega); have hz0 : w.heap.size < u2.heap.size := (by omega)))
    exact bodyPost_ret (v := .tuple #[.agg #[.int .i64 0, .int .i64 0], .int .i64 11]) (by simp [results, Try.results10, go_sem, hc]) rfl ⟨rfl, ((hb.trans (hb2.mono hb.size)).setCell (by simp) _).setCell (by simp) _⟩
  exfalso; revert hh; simp; omega
set_option maxRecDepth 100000 in
set_option maxHeartbeats 1000000 in
theorem nowC_yes (p : Int) (on : Bool) (t lo hi n : Int) (h : nowB p on t lo hi n = true) (w : World) : Calls Try.prog 10 #[ck p on t lo hi, .int .i64 n] w fun x w' => x = .returned (.tuple #[sp (growLo lo (n - t) p) (growHi hi (n - t) p), .int .i64 0]) ∧ Below w.heap.size w w' := by
  obtain ⟨h1, rfl, h3, h4, h5, h6⟩ := now_at h
  have r0 := inRange_any p true t lo hi
  have r1 := isReading_any n
  have r3 := grow_any lo hi (n - t) p h3
  rw [show (ppmB p && readB t && rightB lo hi) = true by unfold readB; rw [h1, h3, decide_eq_true (by omega)]; rfl] at r0
  rw [show readB n = true by unfold readB; rw [decide_eq_true_iff]; omega] at r1
  generalize growLo lo (n - t) p = y0 at *
  generalize growHi hi (n - t) p = y1 at *
  unfold ck at *
  unfold sp at *
  have R0 := Lib.hid r0
  have R1 := Lib.hid r1
  have R3 := Lib.hid r3
  clear r0 r1 r3 h h1 h3
  have n1 : ¬ n < t := by omega
  have hb := (((Below.refl _ _).alloc (Nat.le_refl _) _).alloc (by simp) _ : Below w.heap.size w ((w.alloc (.cells #[.int .i64 p, .bool true, .int .i64 t, .int .i64 lo, .int .i64 hi] 25)).alloc (.cells #[.int .i64 0, .int .i64 0] 23)))
  go_enter Try.func10, Try.ntmps10
  go_wp2_with fail
  refine (R0.out _).mono ?_
  rintro _ u2 ⟨rfl, hb2⟩
  obtain ⟨hc, hf⟩ := bcell hb2
  have hz := hb2.size
  rw [World.size_alloc, World.size_alloc] at hz
  have hz1 : w.heap.size + 1 < u2.heap.size := by omega
  have hz0 : w.heap.size < u2.heap.size := by omega
  go_wp2_with fail
  refine (R1.out _).mono ?_
  rintro _ u3 ⟨rfl, rfl⟩
  go_wp2_with fail
  refine (R3.out _).mono ?_
  rintro _ u3 ⟨rfl, hb3⟩
  obtain ⟨hc3, hf3⟩ := bcell hb3
  have hz3 := hb3.size
  have hz4 : w.heap.size + 1 < u3.heap.size := by omega
  have hz5 : w.heap.size < u3.heap.size := by omega
  go_wp2
  exact bodyPost_ret (v := .tuple #[.agg #[.int .i64 y0, .int .i64 y1], .int .i64 0]) (by simp [results, Try.results10, go_sem, hc, hc3, hz1]) rfl ⟨rfl, (((hb.trans (hb2.mono hb.size)).trans (hb3.mono (by omega))).setCell (by simp) _).setCell (by simp) _⟩
theorem nowC_any (p : Int) (on : Bool) (t lo hi n : Int) (w : World) : Calls Try.prog 10 #[ck p on t lo hi, .int .i64 n] w fun x w' => x = .returned (.tuple #[sp (nowLo p on t lo hi n) (nowHi p on t lo hi n), .int .i64 (nowC p on t lo hi n)]) ∧ Below w.heap.size w w' := by
  unfold nowLo nowHi nowC
  cases h : nowB p on t lo hi n
  · exact nowC_no p on t lo hi n h w
  · exact nowC_yes p on t lo hi n h w
end Go.Proofs.Ytmkmmpmhbahmeaa.Clock
