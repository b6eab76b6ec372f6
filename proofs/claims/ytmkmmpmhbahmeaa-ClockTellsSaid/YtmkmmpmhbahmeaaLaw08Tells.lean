/-
  The walk of bartizanlaw08.ClockTells: for any clock, spans and five numbers it returns true, and writes nothing that was there.
-/
import Derived.Test.YtmkmmpmhbahmeaaLaw08Awake
import Derived.Test.YtmkmmpmhbahmeaaRefClockNow
namespace Go.Proofs.Ytmkmmpmhbahmeaa.Clock
open Go Go.RowKit Go.Proofs.Ytmkmmpmhbahmeaa.Aid Go.Proofs.Ytmkmmpmhbahmeaa.Span Go.Proofs.Ytmkmmpmhbahmeaa.Sweep

theorem mem55 (w : World) (p : Int) (on : Bool) (t lo hi n0 n1 n2 n3 n4 : Int) : Mem w [(w.heap.size + 1, 0, .int .i64 n0), (w.heap.size + 1, 1, .int .i64 n1), (w.heap.size + 1, 2, .int .i64 n2), (w.heap.size + 1, 3, .int .i64 n3), (w.heap.size + 1, 4, .int .i64 n4), (w.heap.size, 0, .int .i64 p), (w.heap.size, 1, .bool on), (w.heap.size, 2, .int .i64 t), (w.heap.size, 3, .int .i64 lo), (w.heap.size, 4, .int .i64 hi)]
    ((w.alloc (.cells #[.int .i64 p, .bool on, .int .i64 t, .int .i64 lo, .int .i64 hi] 25)).alloc (.cells #[.int .i64 n0, .int .i64 n1, .int .i64 n2, .int .i64 n3, .int .i64 n4] 27)) :=
  ((Mem.nil w).five (.int .i64 p) (.bool on) (.int .i64 t) (.int .i64 lo) (.int .i64 hi) 25 w.heap.size rfl).five (.int .i64 n0) (.int .i64 n1) (.int .i64 n2) (.int .i64 n3) (.int .i64 n4) 27 (w.heap.size + 1) (by simp)
set_option maxRecDepth 100000 in
set_option maxHeartbeats 4000000 in
theorem tells_out (C : ClockHas) (p : Int) (on : Bool) (t lo hi : Int) (N : Nat) (A : Option Addr) (c : Nat) (n0 n1 n2 n3 n4 : Int) (w : World) (h : 70 < (N : Int) ∨ n3 < -200000 ∨ 200000 < n3 ∨ n4 < -100 ∨ 100 < n4) : Calls Try.prog 3 #[ck p on t lo hi, .slice A N c, .agg #[.int .i64 n0, .int .i64 n1, .int .i64 n2, .int .i64 n3, .int .i64 n4]] w fun x w' => x = .returned (.bool true) ∧ Below w.heap.size w w' := by
  have M := mem55 w p on t lo hi n0 n1 n2 n3 n4
  unfold ck
  by_cases q0 : 70 < (N : Int)
  · clear h
    go_enter Try.func3, Try.ntmps3
    go_wp2_with fail
    refine (awake_any C _).mono ?_
    rintro _ u0 ⟨rfl, hb⟩
    replace M := M.step hb
    clear hb
    have y3 := M.at_ 3 rfl
    have y4 := M.at_ 4 rfl
    go_wp2
    go_ret
    exact ⟨rfl, M.below⟩
  by_cases q1 : n3 < -200000
  · clear h
    go_enter Try.func3, Try.ntmps3
    go_wp2_with fail
    refine (awake_any C _).mono ?_
    rintro _ u0 ⟨rfl, hb⟩
    replace M := M.step hb
    clear hb
    have y3 := M.at_ 3 rfl
    have y4 := M.at_ 4 rfl
    go_wp2
    go_ret
    exact ⟨rfl, M.below⟩
  by_cases q2 : 200000 < n3
  · clear h
    go_enter Try.func3, Try.ntmps3
    go_wp2_with fail
    refine (awake_any C _).mono ?_
    rintro _ u0 ⟨rfl, hb⟩
    replace M := M.step hb
    clear hb
    have y3 := M.at_ 3 rfl
    have y4 := M.at_ 4 rfl
    go_wp2
    go_ret
    exact ⟨rfl, M.below⟩
  by_cases q3 : n4 < -100
  · clear h
    go_enter Try.func3, Try.ntmps3
    go_wp2_with fail
    refine (awake_any C _).mono ?_
    rintro _ u0 ⟨rfl, hb⟩
    replace M := M.step hb
    clear hb
    have y3 := M.at_ 3 rfl
    have y4 := M.at_ 4 rfl
    go_wp2
    go_ret
    exact ⟨rfl, M.below⟩
  by_cases q4 : 100 < n4
  · clear h
    go_enter Try.func3, Try.ntmps3
    go_wp2_with fail
    refine (awake_any C _).mono ?_
    rintro _ u0 ⟨rfl, hb⟩
    replace M := M.step hb
    clear hb
    have y3 := M.at_ 3 rfl
    have y4 := M.at_ 4 rfl
    go_wp2
    go_ret
    exact ⟨rfl, M.below⟩
  exact absurd h (by omega)

set_option maxRecDepth 100000 in
set_option maxHeartbeats 8000000 in
theorem tells_in (C : ClockHas) (p : Int) (on : Bool) (t lo hi : Int) (e : Nat → Int × Int) (N : Nat) (A : Option Addr) (c : Nat) (n0 n1 n2 n3 n4 : Int) (w : World) (hN : N ≤ 70) (q1 : ¬ n3 < -200000) (q2 : ¬ 200000 < n3) (q3 : ¬ n4 < -100) (q4 : ¬ 100 < n4) (hv : SpansAt w w.heap.size N e (.slice A N c)) : Calls Try.prog 3 #[ck p on t lo hi, .slice A N c, .agg #[.int .i64 n0, .int .i64 n1, .int .i64 n2, .int .i64 n3, .int .i64 n4]] w fun x w' => x = .returned (.bool true) ∧ Below w.heap.size w w' := by
  have M := mem55 w p on t lo hi n0 n1 n2 n3 n4
  have q0 : ¬ 70 < (N : Int) := by omega
  have f1 := C.sample lo hi n0 n1 n3
  have f2 := refSample_any lo hi n0 n1 n3
  have f3 := C.new n3
  have f4 := refNew_any n3
  have f5 := C.now p on t lo hi n2
  have f6 := refNow_any p on t lo hi n2
  have f7 := refMayC_any p on t lo hi
  have f8 := fun W hW hS => C.set p on t lo hi n2 e N (by omega) n4 (.slice A N c) W hW hS
  have f9 := fun W hS => refSet_any p on t lo hi n2 e N (by omega) n4 (.slice A N c) W hS
  have f10 := C.off p on t lo hi
  obtain ⟨sq, so, st, sa, sb, hV⟩ := setV_form p n2 e N n4
  rw [hV] at f8 f9
  generalize setC n2 e N n4 = sc at *
  generalize sampleLo lo hi n0 n1 n3 = a0 at *
  generalize sampleHi lo hi n0 n1 n3 = a1 at *
  generalize sampleC lo hi n0 n1 n3 = a2 at *
  generalize newP n3 = b0 at *
  generalize newC n3 = b1 at *
  generalize nowLo p on t lo hi n2 = c0 at *
  generalize nowHi p on t lo hi n2 = c1 at *
  generalize nowC p on t lo hi n2 = c2 at *
  generalize mayC p on t lo hi = u at *
  unfold ck sp at *
  clear hV
  have F1 := Lib.hid f1
  have F2 := Lib.hid f2
  have F3 := Lib.hid f3
  have F4 := Lib.hid f4
  have F5 := Lib.hid f5
  have F6 := Lib.hid f6
  have F7 := Lib.hid f7
  have F8 := Lib.hid f8
  have F9 := Lib.hid f9
  have F10 := Lib.hid f10
  have HV := Lib.hid hv
  clear f1 f2 f3 f4 f5 f6 f7 f8 f9 f10 hv
  go_enter Try.func3, Try.ntmps3
  go_wp2_with fail
  refine (awake_any C _).mono ?_
  rintro _ u1 ⟨rfl, hb⟩
  replace M := M.step hb
  clear hb
  have x0 := M.at_ 0 rfl
  have x1 := M.at_ 1 rfl
  have x2 := M.at_ 2 rfl
  have x3 := M.at_ 3 rfl
  have x4 := M.at_ 4 rfl
  have x5 := M.at_ 5 rfl
  have x6 := M.at_ 6 rfl
  have x7 := M.at_ 7 rfl
  have x8 := M.at_ 8 rfl
  have x9 := M.at_ 9 rfl
  go_wp2_with fail
  refine (F1.out _).mono ?_
  rintro _ u2 ⟨rfl, hb⟩
  replace M := (M.step hb).two (.int .i64 a0) (.int .i64 a1) 23 u2.heap.size rfl
  clear hb x0 x1 x2 x3 x4 x5 x6 x7 x8 x9
  have x0 := M.at_ 0 rfl
  have x1 := M.at_ 1 rfl
  have x2 := M.at_ 2 rfl
  have x3 := M.at_ 3 rfl
  have x4 := M.at_ 4 rfl
  have x5 := M.at_ 5 rfl
  have x6 := M.at_ 6 rfl
  have x7 := M.at_ 7 rfl
  have x8 := M.at_ 8 rfl
  have x9 := M.at_ 9 rfl
  have x10 := M.at_ 10 rfl
  have x11 := M.at_ 11 rfl
  go_wp2_with fail
  refine (F2.out _).mono ?_
  rintro _ u3 ⟨rfl, hb⟩
  replace M := (M.step hb).two (.int .i64 a0) (.int .i64 a1) 23 u3.heap.size rfl
  clear hb x0 x1 x2 x3 x4 x5 x6 x7 x8 x9 x10 x11
  have x0 := M.at_ 0 rfl
  have x1 := M.at_ 1 rfl
  have x2 := M.at_ 2 rfl
  have x3 := M.at_ 3 rfl
  have x4 := M.at_ 4 rfl
  have x5 := M.at_ 5 rfl
  have x6 := M.at_ 6 rfl
  have x7 := M.at_ 7 rfl
  have x8 := M.at_ 8 rfl
  have x9 := M.at_ 9 rfl
  have x10 := M.at_ 10 rfl
  have x11 := M.at_ 11 rfl
  have x12 := M.at_ 12 rfl
  have x13 := M.at_ 13 rfl
  go_wp2_with fail
  refine (F3.out _).mono ?_
  rintro _ u4 ⟨rfl, hb⟩
  replace M := (M.step hb).five (.int .i64 b0) (.bool false) (.int .i64 0) (.int .i64 0) (.int .i64 0) 25 u4.heap.size rfl
  clear hb x0 x1 x2 x3 x4 x5 x6 x7 x8 x9 x10 x11 x12 x13
  have x0 := M.at_ 0 rfl
  have x1 := M.at_ 1 rfl
  have x2 := M.at_ 2 rfl
  have x3 := M.at_ 3 rfl
  have x4 := M.at_ 4 rfl
  have x5 := M.at_ 5 rfl
  have x6 := M.at_ 6 rfl
  have x7 := M.at_ 7 rfl
  have x8 := M.at_ 8 rfl
  have x9 := M.at_ 9 rfl
  have x10 := M.at_ 10 rfl
  have x11 := M.at_ 11 rfl
  have x12 := M.at_ 12 rfl
  have x13 := M.at_ 13 rfl
  have x14 := M.at_ 14 rfl
  have x15 := M.at_ 15 rfl
  have x16 := M.at_ 16 rfl
  have x17 := M.at_ 17 rfl
  have x18 := M.at_ 18 rfl
  go_wp2_with fail
  refine (F4.out _).mono ?_
  rintro _ u5 ⟨rfl, hb⟩
  replace M := (M.step hb).five (.int .i64 b0) (.bool false) (.int .i64 0) (.int .i64 0) (.int .i64 0) 34 u5.heap.size rfl
  clear hb x0 x1 x2 x3 x4 x5 x6 x7 x8 x9 x10 x11 x12 x13 x14 x15 x16 x17 x18
  have x0 := M.at_ 0 rfl
  have x1 := M.at_ 1 rfl
  have x2 := M.at_ 2 rfl
  have x3 := M.at_ 3 rfl
  have x4 := M.at_ 4 rfl
  have x5 := M.at_ 5 rfl
  have x6 := M.at_ 6 rfl
  have x7 := M.at_ 7 rfl
  have x8 := M.at_ 8 rfl
  have x9 := M.at_ 9 rfl
  have x10 := M.at_ 10 rfl
  have x11 := M.at_ 11 rfl
  have x12 := M.at_ 12 rfl
  have x13 := M.at_ 13 rfl
  have x14 := M.at_ 14 rfl
  have x15 := M.at_ 15 rfl
  have x16 := M.at_ 16 rfl
  have x17 := M.at_ 17 rfl
  have x18 := M.at_ 18 rfl
  have x19 := M.at_ 19 rfl
  have x20 := M.at_ 20 rfl
  have x21 := M.at_ 21 rfl
  have x22 := M.at_ 22 rfl
  have x23 := M.at_ 23 rfl
  go_wp2_with fail
  refine (F5.out _).mono ?_
  rintro _ u6 ⟨rfl, hb⟩
  replace M := (M.step hb).two (.int .i64 c0) (.int .i64 c1) 23 u6.heap.size rfl
  clear hb x0 x1 x2 x3 x4 x5 x6 x7 x8 x9 x10 x11 x12 x13 x14 x15 x16 x17 x18 x19 x20 x21 x22 x23
  have x0 := M.at_ 0 rfl
  have x1 := M.at_ 1 rfl
  have x2 := M.at_ 2 rfl
  have x3 := M.at_ 3 rfl
  have x4 := M.at_ 4 rfl
  have x5 := M.at_ 5 rfl
  have x6 := M.at_ 6 rfl
  have x7 := M.at_ 7 rfl
  have x8 := M.at_ 8 rfl
  have x9 := M.at_ 9 rfl
  have x10 := M.at_ 10 rfl
  have x11 := M.at_ 11 rfl
  have x12 := M.at_ 12 rfl
  have x13 := M.at_ 13 rfl
  have x14 := M.at_ 14 rfl
  have x15 := M.at_ 15 rfl
  have x16 := M.at_ 16 rfl
  have x17 := M.at_ 17 rfl
  have x18 := M.at_ 18 rfl
  have x19 := M.at_ 19 rfl
  have x20 := M.at_ 20 rfl
  have x21 := M.at_ 21 rfl
  have x22 := M.at_ 22 rfl
  have x23 := M.at_ 23 rfl
  have x24 := M.at_ 24 rfl
  have x25 := M.at_ 25 rfl
  go_wp2_with fail
  refine (F6.out _).mono ?_
  rintro _ u7 ⟨rfl, hb⟩
  replace M := (M.step hb).two (.int .i64 c0) (.int .i64 c1) 23 u7.heap.size rfl
  clear hb x0 x1 x2 x3 x4 x5 x6 x7 x8 x9 x10 x11 x12 x13 x14 x15 x16 x17 x18 x19 x20 x21 x22 x23 x24 x25
  have x0 := M.at_ 0 rfl
  have x1 := M.at_ 1 rfl
  have x2 := M.at_ 2 rfl
  have x3 := M.at_ 3 rfl
  have x4 := M.at_ 4 rfl
  have x5 := M.at_ 5 rfl
  have x6 := M.at_ 6 rfl
  have x7 := M.at_ 7 rfl
  have x8 := M.at_ 8 rfl
  have x9 := M.at_ 9 rfl
  have x10 := M.at_ 10 rfl
  have x11 := M.at_ 11 rfl
  have x12 := M.at_ 12 rfl
  have x13 := M.at_ 13 rfl
  have x14 := M.at_ 14 rfl
  have x15 := M.at_ 15 rfl
  have x16 := M.at_ 16 rfl
  have x17 := M.at_ 17 rfl
  have x18 := M.at_ 18 rfl
  have x19 := M.at_ 19 rfl
  have x20 := M.at_ 20 rfl
  have x21 := M.at_ 21 rfl
  have x22 := M.at_ 22 rfl
  have x23 := M.at_ 23 rfl
  have x24 := M.at_ 24 rfl
  have x25 := M.at_ 25 rfl
  have x26 := M.at_ 26 rfl
  have x27 := M.at_ 27 rfl
  go_wp2_with fail
  refine (F7.out _).mono ?_
  rintro _ u8 ⟨rfl, hb⟩
  replace M := M.step hb
  clear hb x0 x1 x2 x3 x4 x5 x6 x7 x8 x9 x10 x11 x12 x13 x14 x15 x16 x17 x18 x19 x20 x21 x22 x23 x24 x25 x26 x27
  have x0 := M.at_ 0 rfl
  have x1 := M.at_ 1 rfl
  have x2 := M.at_ 2 rfl
  have x3 := M.at_ 3 rfl
  have x4 := M.at_ 4 rfl
  have x5 := M.at_ 5 rfl
  have x6 := M.at_ 6 rfl
  have x7 := M.at_ 7 rfl
  have x8 := M.at_ 8 rfl
  have x9 := M.at_ 9 rfl
  have x10 := M.at_ 10 rfl
  have x11 := M.at_ 11 rfl
  have x12 := M.at_ 12 rfl
  have x13 := M.at_ 13 rfl
  have x14 := M.at_ 14 rfl
  have x15 := M.at_ 15 rfl
  have x16 := M.at_ 16 rfl
  have x17 := M.at_ 17 rfl
  have x18 := M.at_ 18 rfl
  have x19 := M.at_ 19 rfl
  have x20 := M.at_ 20 rfl
  have x21 := M.at_ 21 rfl
  have x22 := M.at_ 22 rfl
  have x23 := M.at_ 23 rfl
  have x24 := M.at_ 24 rfl
  have x25 := M.at_ 25 rfl
  have x26 := M.at_ 26 rfl
  have x27 := M.at_ 27 rfl
  rcases u with _ | _
  · clear x0 x1 x2 x3 x4 x5 x6 x7 x8 x9 x10 x11 x12 x13 x14 x15 x16 x17 x18 x19 x20 x21 x22 x23 x24 x25 x26 x27
    go_wp2
    go_ret
    exact ⟨rfl, M.below⟩
  have S := fun W (h : Mem w [] W) => (HV.out.below h.below).mono h.below.size
  have drop : ∀ (l : List (Nat × Nat × Value)) (W : World), Mem w l W → Mem w [] W := fun l W h => ⟨h.1, by simp⟩
  have SS := Lib.hid (fun l W h => S W (drop l W h))
  clear S drop HV
  go_wp2_with fail
  refine (F8.out _ (by simp) (SS.out _ _ M)).mono ?_
  rintro _ u9 ⟨rfl, hb⟩
  replace M := (M.step hb).five (.int .i64 sq) (.bool so) (.int .i64 st) (.int .i64 sa) (.int .i64 sb) 25 u9.heap.size rfl
  clear hb x0 x1 x2 x3 x4 x5 x6 x7 x8 x9 x10 x11 x12 x13 x14 x15 x16 x17 x18 x19 x20 x21 x22 x23 x24 x25 x26 x27
  have x0 := M.at_ 0 rfl
  have x1 := M.at_ 1 rfl
  have x2 := M.at_ 2 rfl
  have x3 := M.at_ 3 rfl
  have x4 := M.at_ 4 rfl
  have x5 := M.at_ 5 rfl
  have x6 := M.at_ 6 rfl
  have x7 := M.at_ 7 rfl
  have x8 := M.at_ 8 rfl
  have x9 := M.at_ 9 rfl
  have x10 := M.at_ 10 rfl
  have x11 := M.at_ 11 rfl
  have x12 := M.at_ 12 rfl
  have x13 := M.at_ 13 rfl
  have x14 := M.at_ 14 rfl
  have x15 := M.at_ 15 rfl
  have x16 := M.at_ 16 rfl
  have x17 := M.at_ 17 rfl
  have x18 := M.at_ 18 rfl
  have x19 := M.at_ 19 rfl
  have x20 := M.at_ 20 rfl
  have x21 := M.at_ 21 rfl
  have x22 := M.at_ 22 rfl
  have x23 := M.at_ 23 rfl
  have x24 := M.at_ 24 rfl
  have x25 := M.at_ 25 rfl
  have x26 := M.at_ 26 rfl
  have x27 := M.at_ 27 rfl
  have x28 := M.at_ 28 rfl
  have x29 := M.at_ 29 rfl
  have x30 := M.at_ 30 rfl
  have x31 := M.at_ 31 rfl
  have x32 := M.at_ 32 rfl
  go_wp2_with fail
  refine (F9.out _ (SS.out _ _ M)).mono ?_
  rintro _ u10 ⟨rfl, hb⟩
  replace M := (M.step hb).five (.int .i64 sq) (.bool so) (.int .i64 st) (.int .i64 sa) (.int .i64 sb) 34 u10.heap.size rfl
  clear hb x0 x1 x2 x3 x4 x5 x6 x7 x8 x9 x10 x11 x12 x13 x14 x15 x16 x17 x18 x19 x20 x21 x22 x23 x24 x25 x26 x27 x28 x29 x30 x31 x32
  have x0 := M.at_ 0 rfl
  have x1 := M.at_ 1 rfl
  have x2 := M.at_ 2 rfl
  have x3 := M.at_ 3 rfl
  have x4 := M.at_ 4 rfl
  have x5 := M.at_ 5 rfl
  have x6 := M.at_ 6 rfl
  have x7 := M.at_ 7 rfl
  have x8 := M.at_ 8 rfl
  have x9 := M.at_ 9 rfl
  have x10 := M.at_ 10 rfl
  have x11 := M.at_ 11 rfl
  have x12 := M.at_ 12 rfl
  have x13 := M.at_ 13 rfl
  have x14 := M.at_ 14 rfl
  have x15 := M.at_ 15 rfl
  have x16 := M.at_ 16 rfl
  have x17 := M.at_ 17 rfl
  have x18 := M.at_ 18 rfl
  have x19 := M.at_ 19 rfl
  have x20 := M.at_ 20 rfl
  have x21 := M.at_ 21 rfl
  have x22 := M.at_ 22 rfl
  have x23 := M.at_ 23 rfl
  have x24 := M.at_ 24 rfl
  have x25 := M.at_ 25 rfl
  have x26 := M.at_ 26 rfl
  have x27 := M.at_ 27 rfl
  have x28 := M.at_ 28 rfl
  have x29 := M.at_ 29 rfl
  have x30 := M.at_ 30 rfl
  have x31 := M.at_ 31 rfl
  have x32 := M.at_ 32 rfl
  have x33 := M.at_ 33 rfl
  have x34 := M.at_ 34 rfl
  have x35 := M.at_ 35 rfl
  have x36 := M.at_ 36 rfl
  have x37 := M.at_ 37 rfl
  clear F1 F2 F3 F4 F5 F6 F7 F8 F9 SS x0 x1 x2 x3 x4 x5 x6 x7 x8 x9 x10 x11 x12 x13 x14 x15 x16 x17 x18 x19 x20 x21 x22 x23 x24 x25 x26 x27 x28 x29 x30 x31 x32 x33 x34 x35 x36 x37
  go_wp2
  generalize u10.alloc (.cells #[.int .i64 sq, .bool so, .int .i64 st, .int .i64 sa, .int .i64 sb] 34) = U at *
  have x0 := M.at_ 0 rfl
  have x1 := M.at_ 1 rfl
  have x2 := M.at_ 2 rfl
  have x3 := M.at_ 3 rfl
  have x4 := M.at_ 4 rfl
  have x5 := M.at_ 5 rfl
  have x6 := M.at_ 6 rfl
  have x7 := M.at_ 7 rfl
  have x8 := M.at_ 8 rfl
  have x9 := M.at_ 9 rfl
  have x33 := M.at_ 33 rfl
  have x34 := M.at_ 34 rfl
  have x35 := M.at_ 35 rfl
  have x36 := M.at_ 36 rfl
  have x37 := M.at_ 37 rfl
  have l0 := M.lt 0 rfl
  have l5 := M.lt 5 rfl
  have l33 := M.lt 33 rfl
  have hB := M.below
  have FC := after_cell U
  clear M
  refine region_after (by kernel_rfl) (by kernel_rfl) ?_
  repeat (go_big_quiet_step ((go_at_call 15; exact after_call F10.out)))
  refine wpQuiet_nil ?_
  rintro _ ⟨x, rfl⟩
  have hb1 := hB.trans ((after_below U x).mono hB.size)
  clear FC F10 hB l0 l5 l33 x0 x1 x2 x3 x4 x5 x6 x7 x8 x9 x33 x34 x35 x36 x37
  generalize after U x = uz at *
  go_wp2
  go_ret
  exact ⟨rfl, hb1⟩
theorem tells_any (C : ClockHas) (p : Int) (on : Bool) (t lo hi : Int) (e : Nat → Int × Int) (N : Nat) (A : Option Addr) (c : Nat) (n0 n1 n2 n3 n4 : Int) (w : World) (hv : SpansAt w w.heap.size N e (.slice A N c)) : Calls Try.prog 3 #[ck p on t lo hi, .slice A N c, .agg #[.int .i64 n0, .int .i64 n1, .int .i64 n2, .int .i64 n3, .int .i64 n4]] w fun x w' => x = .returned (.bool true) ∧ Below w.heap.size w w' := by
  by_cases h : 70 < (N : Int) ∨ n3 < -200000 ∨ 200000 < n3 ∨ n4 < -100 ∨ 100 < n4
  · exact tells_out C p on t lo hi N A c n0 n1 n2 n3 n4 w h
  · exact tells_in C p on t lo hi e N A c n0 n1 n2 n3 n4 w (by omega) (by omega) (by omega) (by omega) (by omega) hv
end Go.Proofs.Ytmkmmpmhbahmeaa.Clock
