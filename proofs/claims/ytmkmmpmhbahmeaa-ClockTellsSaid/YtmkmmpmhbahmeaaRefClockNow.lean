/-
  What the document's Now and Set do.
-/
import Derived.Test.YtmkmmpmhbahmeaaRefClock
import Derived.Test.YtmkmmpmhbahmeaaRefFuseOk
namespace Go.Proofs.Ytmkmmpmhbahmeaa.Clock
open Go Go.RowKit Go.Proofs.Ytmkmmpmhbahmeaa.Aid Go.Proofs.Ytmkmmpmhbahmeaa.Span Go.Proofs.Ytmkmmpmhbahmeaa.Sweep

theorem alloc2 (w : World) (C : Array Value) (t t' : TypeId) (a b : Value) : Below w.heap.size w ((w.alloc (.cells C t)).alloc (.cells #[a, b] t')) := ((Below.refl _ _).alloc (Nat.le_refl _) _).alloc (by simp) _
set_option maxRecDepth 100000 in
theorem refNow_no (p : Int) (on : Bool) (t lo hi n : Int) (h : nowB p on t lo hi n = false) (w : World) : Calls Try.prog 11 #[ck p on t lo hi, .int .i64 n] w fun x w' => x = .returned (.tuple #[sp 0 0, .int .i64 11]) ∧ Below w.heap.size w w' := by
  have r0 := refMayC_any p on t lo hi
  have r1 := reading_any n
  unfold nowB at h
  generalize mayC p on t lo hi = u at *
  generalize readB n = v at *
  unfold ck at *
  unfold sp
  have R0 := Lib.hid r0
  have R1 := Lib.hid r1
  clear r0 r1
  have hb := alloc2 w #[.int .i64 p, .bool on, .int .i64 t, .int .i64 lo, .int .i64 hi] 34 23 (.int .i64 0) (.int .i64 0)
  rcases u with _ | _
  · clear h
    go_enter Try.func11, Try.ntmps11
    go_wp2_with (first
      | (go_at_call 20; refine (R1.out _).mono ?_; rintro _ u1 ⟨rfl, rfl⟩)
      | (go_at_call 12; refine (R0.out _).mono ?_; rintro _ u2 ⟨rfl, hb2⟩; obtain ⟨hc, hf⟩ := bcell hb2; have hz := hb2.size; rw [World.size_alloc, World.size_alloc] at hz; have hz1 : w.heap.size + 1 < u2.heap.size := (by omega); have hz0 : w.heap.size < u2.heap.size := (by omega)))
    exact bodyPost_ret (v := .tuple #[.agg #[.int .i64 0, .int .i64 0], .int .i64 11]) (by simp [results, Try.results11, go_sem, hc]) rfl ⟨rfl, ((hb.trans (hb2.mono hb.size)).setCell (by simp) _).setCell (by simp) _⟩
  rcases on with _ | _
  · clear h
    go_enter Try.func11, Try.ntmps11
    go_wp2_with (first
      | (go_at_call 20; refine (R1.out _).mono ?_; rintro _ u1 ⟨rfl, rfl⟩)
      | (go_at_call 12; refine (R0.out _).mono ?_; rintro _ u2 ⟨rfl, hb2⟩; obtain ⟨hc, hf⟩ := bcell hb2; have hz := hb2.size; rw [World.size_alloc, World.size_alloc] at hz; have hz1 : w.heap.size + 1 < u2.heap.size := (by omega); have hz0 : w.heap.size < u2.heap.size := (by omega)))
    exact bodyPost_ret (v := .tuple #[.agg #[.int .i64 0, .int .i64 0], .int .i64 11]) (by simp [results, Try.results11, go_sem, hc]) rfl ⟨rfl, ((hb.trans (hb2.mono hb.size)).setCell (by simp) _).setCell (by simp) _⟩
  rcases v with _ | _
  · clear h
    go_enter Try.func11, Try.ntmps11
    go_wp2_with (first
      | (go_at_call 20; refine (R1.out _).mono ?_; rintro _ u1 ⟨rfl, rfl⟩)
      | (go_at_call 12; refine (R0.out _).mono ?_; rintro _ u2 ⟨rfl, hb2⟩; obtain ⟨hc, hf⟩ := bcell hb2; have hz := hb2.size; rw [World.size_alloc, World.size_alloc] at hz; have hz1 : w.heap.size + 1 < u2.heap.size := (by omega); have hz0 : w.heap.size < u2.heap.size := (by omega)))
    exact bodyPost_ret (v := .tuple #[.agg #[.int .i64 0, .int .i64 0], .int .i64 11]) (by simp [results, Try.results11, go_sem, hc]) rfl ⟨rfl, ((hb.trans (hb2.mono hb.size)).setCell (by simp) _).setCell (by simp) _⟩
  by_cases h1 : n < t
  · clear h
    go_enter Try.func11, Try.ntmps11
    go_wp2_with (first
      | (go_at_call 20; refine (R1.out _).mono ?_; rintro _ u1 ⟨rfl, rfl⟩)
      | (go_at_call 12; refine (R0.out _).mono ?_; rintro _ u2 ⟨rfl, hb2⟩; obtain ⟨hc, hf⟩ := bcell hb2; have hz := hb2.size; rw [World.size_alloc, World.size_alloc] at hz; have hz1 : w.heap.size + 1 < u2.heap.size := (by omega); have hz0 : w.heap.size < u2.heap.size := (by omega)))
    exact bodyPost_ret (v := .tuple #[.agg #[.int .i64 0, .int .i64 0], .int .i64 11]) (by simp [results, Try.results11, go_sem, hc]) rfl ⟨rfl, ((hb.trans (hb2.mono hb.size)).setCell (by simp) _).setCell (by simp) _⟩
  exfalso; revert h; simp; omega

set_option maxRecDepth 100000 in
theorem refNow_yes (p : Int) (on : Bool) (t lo hi n : Int) (h : nowB p on t lo hi n = true) (w : World) : Calls Try.prog 11 #[ck p on t lo hi, .int .i64 n] w fun x w' => x = .returned (.tuple #[sp (growLo lo (n - t) p) (growHi hi (n - t) p), .int .i64 0]) ∧ Below w.heap.size w w' := by
  obtain ⟨h1, rfl, h3, h4, h5, h6⟩ := now_at h
  have r0 := refMayC_any p true t lo hi
  have r1 := reading_any n
  have r3 := refGrow_at lo hi (n - t) p h3
  rw [show mayC p true t lo hi = true by unfold mayC readB; rw [h1, h3, decide_eq_true (by omega)]; rfl] at r0
  rw [show readB n = true by unfold readB; rw [decide_eq_true_iff]; omega] at r1
  generalize growLo lo (n - t) p = y0 at *
  generalize growHi hi (n - t) p = y1 at *
  unfold ck at *
  unfold sp
  have R0 := Lib.hid r0
  have R1 := Lib.hid r1
  have R3 := Lib.hid r3
  clear r0 r1 r3 h h1 h3
  have n1 : ¬ n < t := by omega
  have hb := alloc2 w #[.int .i64 p, .bool true, .int .i64 t, .int .i64 lo, .int .i64 hi] 34 23 (.int .i64 0) (.int .i64 0)
  go_enter Try.func11, Try.ntmps11
  go_wp2_with fail
  refine (R0.out _).mono ?_
  rintro _ u2 ⟨rfl, hb2⟩
  obtain ⟨hc, hf⟩ := bcell hb2
  have hz := hb2.size
  rw [World.size_alloc, World.size_alloc] at hz
  have hz1 : w.heap.size + 1 < u2.heap.size := by omega
  have hz0 : w.heap.size < u2.heap.size := by omega
  go_wp2_with fail
  refine (R1.out _).mono ?_
  rintro _ u3 ⟨rfl, rfl⟩
  go_wp2_with fail
  refine (R3.out _).mono ?_
  rintro _ u3 ⟨rfl, hb3⟩
  obtain ⟨hc3, hf3⟩ := bcell hb3
  have hz3 := hb3.size
  have hz4 : w.heap.size + 1 < u3.heap.size := by omega
  have hz5 : w.heap.size < u3.heap.size := by omega
  go_wp2
  exact bodyPost_ret (v := .tuple #[.agg #[.int .i64 y0, .int .i64 y1], .int .i64 0]) (by simp [results, Try.results11, go_sem, hc, hc3, hz1]) rfl ⟨rfl, (((hb.trans (hb2.mono hb.size)).trans (hb3.mono (by omega))).setCell (by simp) _).setCell (by simp) _⟩
theorem refNow_any (p : Int) (on : Bool) (t lo hi n : Int) (w : World) : Calls Try.prog 11 #[ck p on t lo hi, .int .i64 n] w fun x w' => x = .returned (.tuple #[sp (nowLo p on t lo hi n) (nowHi p on t lo hi n), .int .i64 (nowC p on t lo hi n)]) ∧ Below w.heap.size w w' := by
  unfold nowLo nowHi nowC
  cases h : nowB p on t lo hi n
  · exact refNow_no p on t lo hi n h w
  · exact refNow_yes p on t lo hi n h w

set_option maxRecDepth 100000 in
theorem refSet_any (p : Int) (on : Bool) (t lo hi n : Int) (e : Nat → Int × Int) (N : Nat) (hN : N ≤ 100) (L : Int) (v : Value) (w : World) (hv : SpansAt w w.heap.size N e v) :
    Calls Try.prog 14 #[ck p on t lo hi, .int .i64 n, v, .int .i64 L] w fun x w' => x = .returned (.tuple #[setV p n e N L, .int .i64 (setC n e N L)]) ∧ Below w.heap.size w w' := by
  have hb : Below w.heap.size w ((w.alloc (.cells #[.int .i64 p, .bool on, .int .i64 t, .int .i64 lo, .int .i64 hi] 34)).alloc (.cells #[.int .i64 0, .bool false, .int .i64 0, .int .i64 0, .int .i64 0] 34)) := ((Below.refl _ _).alloc (Nat.le_refl _) _).alloc (by simp) _
  have r0 := reading_any n
  have r1 := refFuse_any e N hN L v _ ((hv.below hb).mono hb.size)
  obtain ⟨A, c, rfl, _⟩ := hv
  cases hr : readB n
  · have e1 : setC n e N L = 1 := by unfold setC; rw [hr]; rfl
    have e2 : setV p n e N L = ck 0 false 0 0 0 := by unfold setV; rw [e1]; rfl
    rw [e1, e2]
    rw [hr] at r0
    unfold ck at *
    have R0 := Lib.hid r0
    clear r0 r1 e1 e2 hr
    go_enter Try.func14, Try.ntmps14
    go_wp2_with fail
    refine (R0.out _).mono ?_
    rintro _ u1 ⟨rfl, rfl⟩
    go_wp2
    exact bodyPost_ret (v := .tuple #[ck 0 false 0 0 0, .int .i64 1]) (by simp [ck, results, Try.results14, go_sem]) rfl ⟨rfl, hb⟩
  · have e1 : setC n e N L = (fuseR e N L).2.2 := by unfold setC; rw [hr]; rfl
    have e2 : setV p n e N L = if (fuseR e N L).2.2 = 0 then ck p true n (fuseR e N L).1 (fuseR e N L).2.1 else ck 0 false 0 0 0 := by unfold setV; rw [e1]
    rw [e1, e2]
    rw [hr] at r0
    clear e1 e2 hr
    generalize (fuseR e N L).1 = a0 at *
    generalize (fuseR e N L).2.1 = a1 at *
    generalize (fuseR e N L).2.2 = a2 at *
    by_cases h0 : a2 = 0
    · subst h0
      rw [if_pos rfl]
      unfold ck sp at *
      have R0 := Lib.hid r0
      have R1 := Lib.hid r1
      clear r0 r1
      go_enter Try.func14, Try.ntmps14
      go_wp2_with fail
      refine (R0.out _).mono ?_
      rintro _ u1 ⟨rfl, rfl⟩
      go_wp2_with fail
      refine (R1.out).mono ?_
      rintro _ u2 ⟨rfl, hb2⟩
      obtain ⟨hc, hf⟩ := bcell hb2
      have hz := hb2.size
      rw [World.size_alloc, World.size_alloc] at hz
      have hz1 : w.heap.size + 1 < u2.heap.size := by omega
      have hz0 : w.heap.size < u2.heap.size := by omega
      go_wp2
      exact bodyPost_ret (v := .tuple #[.agg #[.int .i64 p, .bool true, .int .i64 n, .int .i64 a0, .int .i64 a1], .int .i64 0]) (by simp [results, Try.results14, go_sem, hc, hz1]) rfl ⟨rfl, (((((((hb.trans (hb2.mono hb.size)).setCell (by simp) _).setCell (by simp) _).setCell (by simp) _).setCell (by simp) _).setCell (by simp) _).alloc (by simp; omega) _)⟩
    · rw [if_neg h0]
      unfold ck sp at *
      have h0' : ((a2 : Int) == 0) = false := by simp; omega
      have R0 := Lib.hid r0
      have R1 := Lib.hid r1
      clear r0 r1
      go_enter Try.func14, Try.ntmps14
      go_wp2_with fail
      refine (R0.out _).mono ?_
      rintro _ u1 ⟨rfl, rfl⟩
      go_wp2_with fail
      refine (R1.out).mono ?_
      rintro _ u2 ⟨rfl, hb2⟩
      obtain ⟨hc, hf⟩ := bcell hb2
      have hz := hb2.size
      rw [World.size_alloc, World.size_alloc] at hz
      have hz1 : w.heap.size + 1 < u2.heap.size := by omega
      have hz0 : w.heap.size < u2.heap.size := by omega
      go_wp2
      exact bodyPost_ret (v := .tuple #[.agg #[.int .i64 0, .bool false, .int .i64 0, .int .i64 0, .int .i64 0], .int .i64 a2]) (by simp [results, Try.results14, go_sem, hc, hz1]) rfl ⟨rfl, (((((((hb.trans (hb2.mono hb.size)).setCell (by simp) _).setCell (by simp) _).setCell (by simp) _).setCell (by simp) _).setCell (by simp) _).alloc (by simp; omega) _)⟩
end Go.Proofs.Ytmkmmpmhbahmeaa.Clock
