/-
  What clock.Sample and clock.Set do; the program's five functions of package clock, as the bundle that the laws ask for.
-/
import Derived.Test.YtmkmmpmhbahmeaaClockFns
import Derived.Test.YtmkmmpmhbahmeaaClockHas
import Derived.Test.YtmkmmpmhbahmeaaSweepFuse
namespace Go.Proofs.Ytmkmmpmhbahmeaa.Clock
open Go Go.RowKit Go.Proofs.Ytmkmmpmhbahmeaa.Aid Go.Proofs.Ytmkmmpmhbahmeaa.Span Go.Proofs.Ytmkmmpmhbahmeaa.Sweep

theorem sample_now : ∀ (a b c d e : Bool), (a && (!true || (b && c)) && true && d && e) = (c && b && d && e && a) := by decide
theorem sample_at_now (lo hi asked got p : Int) : nowB p true asked lo hi got = sampleB lo hi asked got p :=
  sample_now (ppmB p) (readB asked) (rightB lo hi) (readB got) (decide (asked ≤ got))
set_option maxRecDepth 100000 in
set_option maxHeartbeats 1000000 in
theorem sampleC_any (lo hi asked got p : Int) (w : World) : Calls Try.prog 6 #[sp lo hi, .int .i64 asked, .int .i64 got, .int .i64 p] w fun x w' => x = .returned (.tuple #[sp (sampleLo lo hi asked got p) (sampleHi lo hi asked got p), .int .i64 (sampleC lo hi asked got p)]) ∧ Below w.heap.size w w' := by
  have r0 := nowC_any p true asked lo hi got
  have e0 : nowC p true asked lo hi got = if sampleB lo hi asked got p then 0 else 11 := by unfold nowC; rw [sample_at_now]
  have e1 : nowHi p true asked lo hi got = sampleHi lo hi asked got p := by unfold nowHi sampleHi; rw [sample_at_now]
  rw [e0, e1] at r0
  clear e0 e1
  unfold sampleLo sampleC
  generalize nowLo p true asked lo hi got = y0 at *
  have hh : sampleB lo hi asked got p = false → sampleHi lo hi asked got p = 0 := fun h => by unfold sampleHi; rw [h]; rfl
  generalize sampleHi lo hi asked got p = y1 at *
  generalize sampleB lo hi asked got p = u at *
  unfold sp ck at *
  have R0 := Lib.hid r0
  clear r0
  have M := ((Mem.nil w).two (.int .i64 lo) (.int .i64 hi) 23 w.heap.size rfl).two (.int .i64 0) (.int .i64 0) 23 (w.heap.size + 1) (by simp)
  rcases u with _ | _
  · obtain rfl := hh rfl
    go_enter Try.func6, Try.ntmps6
    go_wp2_with fail
    refine (R0.out _).mono ?_
    rintro _ u2 ⟨rfl, hb2⟩
    replace M := M.step hb2
    have c0 := M.at_ 2 rfl
    have d0 := M.at_ 0 rfl
    have d1 := M.at_ 1 rfl
    have hz0 := M.lt 2 rfl
    have hz1 := M.lt 0 rfl
    have hb3 := M.below
    obtain ⟨-, hf⟩ := bcell hb2
    clear M hb2 R0
    go_wp2
    exact bodyPost_ret (v := .tuple #[.agg #[.int .i64 0, .int .i64 0], .int .i64 1]) (by simp [results, Try.results6, go_sem, d0, d1, hz1]) rfl ⟨rfl, ((hb3.setCell (by simp) _).setCell (by simp) _).alloc (by simp; omega) _⟩
  · go_enter Try.func6, Try.ntmps6
    go_wp2_with fail
    refine (R0.out _).mono ?_
    rintro _ u2 ⟨rfl, hb2⟩
    replace M := M.step hb2
    have c0 := M.at_ 2 rfl
    have d0 := M.at_ 0 rfl
    have d1 := M.at_ 1 rfl
    have hz0 := M.lt 2 rfl
    have hz1 := M.lt 0 rfl
    have hb3 := M.below
    obtain ⟨-, hf⟩ := bcell hb2
    clear M hb2 R0
    go_wp2
    exact bodyPost_ret (v := .tuple #[.agg #[.int .i64 lo, .int .i64 y1], .int .i64 0]) (by simp [results, Try.results6, go_sem, d0, d1, hz1]) rfl ⟨rfl, ((hb3.setCell (by simp) _).setCell (by simp) _).alloc (by simp; omega) _⟩
set_option maxRecDepth 100000 in
set_option maxHeartbeats 1000000 in
theorem setC_any (p : Int) (on : Bool) (t lo hi n : Int) (e : Nat → Int × Int) (N : Nat) (hN : N ≤ 100) (L : Int) (v : Value) (w : World) (hv : SpansAt w w.heap.size N e v) :
    Calls Try.prog 13 #[ck p on t lo hi, .int .i64 n, v, .int .i64 L] w fun x w' => x = .returned (.tuple #[setV p n e N L, .int .i64 (setC n e N L)]) ∧ Below w.heap.size w w' := by
  have hb : Below w.heap.size w ((w.alloc (.cells #[.int .i64 p, .bool on, .int .i64 t, .int .i64 lo, .int .i64 hi] 25)).alloc (.cells #[.int .i64 0, .bool false, .int .i64 0, .int .i64 0, .int .i64 0] 25)) := ((Below.refl _ _).alloc (Nat.le_refl _) _).alloc (by simp) _
  have r0 := isReading_any n
  have r1 := fuse_any e N hN L v _ ((hv.below hb).mono hb.size)
  obtain ⟨A, c, rfl, _⟩ := hv
  cases hr : readB n
  · have e1 : setC n e N L = 1 := by unfold setC; rw [hr]; rfl
    have e2 : setV p n e N L = ck 0 false 0 0 0 := by unfold setV; rw [e1]; rfl
    rw [e1, e2]
    rw [hr] at r0
    unfold ck at *
    have R0 := Lib.hid r0
    clear r0 r1 e1 e2 hr
    go_enter Try.func13, Try.ntmps13
    go_wp2_with fail
    refine (R0.out _).mono ?_
    rintro _ u1 ⟨rfl, rfl⟩
    go_wp2
    exact bodyPost_ret (v := .tuple #[ck 0 false 0 0 0, .int .i64 1]) (by simp [ck, results, Try.results13, go_sem]) rfl ⟨rfl, hb⟩
  · have e1 : setC n e N L = (fuseR e N L).2.2 := by unfold setC; rw [hr]; rfl
    have e2 : setV p n e N L = if (fuseR e N L).2.2 = 0 then ck p true n (fuseR e N L).1 (fuseR e N L).2.1 else ck 0 false 0 0 0 := by unfold setV; rw [e1]
    rw [e1, e2]
    rw [hr] at r0
    clear e1 e2 hr
    generalize (fuseR e N L).1 = a0 at *
    generalize (fuseR e N L).2.1 = a1 at *
    generalize (fuseR e N L).2.2 = a2 at *
    by_cases h0 : a2 = 0
    · subst h0
      rw [if_pos rfl]
      unfold ck sp at *
      have R0 := Lib.hid r0
      have R1 := Lib.hid r1
      clear r0 r1
      go_enter Try.func13, Try.ntmps13
      go_wp2_with fail
      refine (R0.out _).mono ?_
      rintro _ u1 ⟨rfl, rfl⟩
      go_wp2_with fail
      refine (R1.out).mono ?_
      rintro _ u2 ⟨rfl, hb2⟩
      obtain ⟨hc, hf⟩ := bcell hb2
      have hz := hb2.size
      rw [World.size_alloc, World.size_alloc] at hz
      have hz1 : w.heap.size + 1 < u2.heap.size := by omega
      have hz0 : w.heap.size < u2.heap.size := by omega
      go_wp2
      exact bodyPost_ret (v := .tuple #[.agg #[.int .i64 p, .bool true, .int .i64 n, .int .i64 a0, .int .i64 a1], .int .i64 0]) (by simp [results, Try.results13, go_sem, hc, hz1]) rfl ⟨rfl, (((((((hb.trans (hb2.mono hb.size)).setCell (by simp) _).setCell (by simp) _).setCell (by simp) _).setCell (by simp) _).setCell (by simp) _).alloc (by simp; omega) _)⟩
    · rw [if_neg h0]
      unfold ck sp at *
      have h0' : ((a2 : Int) == 0) = false := by simp; omega
      have R0 := Lib.hid r0
      have R1 := Lib.hid r1
      clear r0 r1
      go_enter Try.func13, Try.ntmps13
      go_wp2_with fail
      refine (R0.out _).mono ?_
      rintro _ u1 ⟨rfl, rfl⟩
      go_wp2_with fail
      refine (R1.out).mono ?_
      rintro _ u2 ⟨rfl, hb2⟩
      obtain ⟨hc, hf⟩ := bcell hb2
      have hz := hb2.size
      rw [World.size_alloc, World.size_alloc] at hz
      have hz1 : w.heap.size + 1 < u2.heap.size := by omega
      have hz0 : w.heap.size < u2.heap.size := by omega
      go_wp2
      exact bodyPost_ret (v := .tuple #[.agg #[.int .i64 0, .bool false, .int .i64 0, .int .i64 0, .int .i64 0], .int .i64 a2]) (by simp [results, Try.results13, go_sem, hc, hz1]) rfl ⟨rfl, (((((((hb.trans (hb2.mono hb.size)).setCell (by simp) _).setCell (by simp) _).setCell (by simp) _).setCell (by simp) _).setCell (by simp) _).alloc (by simp; omega) _)⟩
theorem clockOwn : ClockHas :=
  ⟨sampleC_any, newC_any, nowC_any, fun p on t lo hi n e N hN L v w _ hv => setC_any p on t lo hi n e N hN L v w hv, offC_any⟩
end Go.Proofs.Ytmkmmpmhbahmeaa.Clock
