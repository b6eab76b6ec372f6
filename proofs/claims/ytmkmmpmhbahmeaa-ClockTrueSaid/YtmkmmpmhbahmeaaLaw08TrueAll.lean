/-
  The walk of bartizanlaw08.ClockTrue where one of the numbers is out of its range; both together.
-/
import Derived.Test.YtmkmmpmhbahmeaaLaw08True
namespace Go.Proofs.Ytmkmmpmhbahmeaa.Clock
open Go Go.RowKit Go.Proofs.Ytmkmmpmhbahmeaa.Aid Go.Proofs.Ytmkmmpmhbahmeaa.Span Go.Proofs.Ytmkmmpmhbahmeaa.Sweep

set_option maxRecDepth 100000 in
set_option maxHeartbeats 8000000 in
theorem true_out (C : ClockHas) (N : Nat) (A : Option Addr) (c : Nat) (n0 n1 n2 n3 n4 : Int) (w : World)
    (h : N = 0 ∨ 12 < (N : Int) ∨ n0 < 0 ∨ 1099511627776 < n0 ∨ n1 < 0 ∨ 1099511627776 < n1 ∨ n2 < 0 ∨ 100000 < n2 ∨ n3 < 0 ∨ 1099511627776 < n3) :
    Calls Try.prog 4 #[.slice A N c, .agg #[.int .i64 n0, .int .i64 n1, .int .i64 n2, .int .i64 n3, .int .i64 n4]] w fun x w' => x = .returned (.bool true) ∧ Below w.heap.size w w' := by
  have M := (Mem.nil w).five (.int .i64 n0) (.int .i64 n1) (.int .i64 n2) (.int .i64 n3) (.int .i64 n4) 27 w.heap.size rfl
  by_cases q0 : N = 0
  · subst q0
    clear h
    go_enter Try.func4, Try.ntmps4
    go_wp2_with fail
    refine (awake_any C _).mono ?_
    rintro _ wa ⟨rfl, hb⟩
    replace M := M.step hb
    clear hb
    have x0 := M.at_ 0 rfl
    have x1 := M.at_ 1 rfl
    have x2 := M.at_ 2 rfl
    have x3 := M.at_ 3 rfl
    go_wp2
    go_ret
    exact ⟨rfl, M.below⟩
  have z1 : ((N : Int) == 0) = false := by simp; omega
  by_cases q1 : 12 < (N : Int)
  · clear h
    go_enter Try.func4, Try.ntmps4
    go_wp2_with fail
    refine (awake_any C _).mono ?_
    rintro _ wa ⟨rfl, hb⟩
    replace M := M.step hb
    clear hb
    have x0 := M.at_ 0 rfl
    have x1 := M.at_ 1 rfl
    have x2 := M.at_ 2 rfl
    have x3 := M.at_ 3 rfl
    go_wp2
    go_ret
    exact ⟨rfl, M.below⟩
  by_cases q2 : n0 < 0
  · clear h
    go_enter Try.func4, Try.ntmps4
    go_wp2_with fail
    refine (awake_any C _).mono ?_
    rintro _ wa ⟨rfl, hb⟩
    replace M := M.step hb
    clear hb
    have x0 := M.at_ 0 rfl
    have x1 := M.at_ 1 rfl
    have x2 := M.at_ 2 rfl
    have x3 := M.at_ 3 rfl
    go_wp2
    go_ret
    exact ⟨rfl, M.below⟩
  by_cases q3 : 1099511627776 < n0
  · clear h
    go_enter Try.func4, Try.ntmps4
    go_wp2_with fail
    refine (awake_any C _).mono ?_
    rintro _ wa ⟨rfl, hb⟩
    replace M := M.step hb
    clear hb
    have x0 := M.at_ 0 rfl
    have x1 := M.at_ 1 rfl
    have x2 := M.at_ 2 rfl
    have x3 := M.at_ 3 rfl
    go_wp2
    go_ret
    exact ⟨rfl, M.below⟩
  by_cases q4 : n1 < 0
  · clear h
    go_enter Try.func4, Try.ntmps4
    go_wp2_with fail
    refine (awake_any C _).mono ?_
    rintro _ wa ⟨rfl, hb⟩
    replace M := M.step hb
    clear hb
    have x0 := M.at_ 0 rfl
    have x1 := M.at_ 1 rfl
    have x2 := M.at_ 2 rfl
    have x3 := M.at_ 3 rfl
    go_wp2
    go_ret
    exact ⟨rfl, M.below⟩
  by_cases q5 : 1099511627776 < n1
  · clear h
    go_enter Try.func4, Try.ntmps4
    go_wp2_with fail
    refine (awake_any C _).mono ?_
    rintro _ wa ⟨rfl, hb⟩
    replace M := M.step hb
    clear hb
    have x0 := M.at_ 0 rfl
    have x1 := M.at_ 1 rfl
    have x2 := M.at_ 2 rfl
    have x3 := M.at_ 3 rfl
    go_wp2
    go_ret
    exact ⟨rfl, M.below⟩
  by_cases q6 : n2 < 0
  · clear h
    go_enter Try.func4, Try.ntmps4
    go_wp2_with fail
    refine (awake_any C _).mono ?_
    rintro _ wa ⟨rfl, hb⟩
    replace M := M.step hb
    clear hb
    have x0 := M.at_ 0 rfl
    have x1 := M.at_ 1 rfl
    have x2 := M.at_ 2 rfl
    have x3 := M.at_ 3 rfl
    go_wp2
    go_ret
    exact ⟨rfl, M.below⟩
  by_cases q7 : 100000 < n2
  · clear h
    go_enter Try.func4, Try.ntmps4
    go_wp2_with fail
    refine (awake_any C _).mono ?_
    rintro _ wa ⟨rfl, hb⟩
    replace M := M.step hb
    clear hb
    have x0 := M.at_ 0 rfl
    have x1 := M.at_ 1 rfl
    have x2 := M.at_ 2 rfl
    have x3 := M.at_ 3 rfl
    go_wp2
    go_ret
    exact ⟨rfl, M.below⟩
  by_cases q8 : n3 < 0
  · clear h
    go_enter Try.func4, Try.ntmps4
    go_wp2_with fail
    refine (awake_any C _).mono ?_
    rintro _ wa ⟨rfl, hb⟩
    replace M := M.step hb
    clear hb
    have x0 := M.at_ 0 rfl
    have x1 := M.at_ 1 rfl
    have x2 := M.at_ 2 rfl
    have x3 := M.at_ 3 rfl
    go_wp2
    go_ret
    exact ⟨rfl, M.below⟩
  by_cases q9 : 1099511627776 < n3
  · clear h
    go_enter Try.func4, Try.ntmps4
    go_wp2_with fail
    refine (awake_any C _).mono ?_
    rintro _ wa ⟨rfl, hb⟩
    replace M := M.step hb
    clear hb
    have x0 := M.at_ 0 rfl
    have x1 := M.at_ 1 rfl
    have x2 := M.at_ 2 rfl
    have x3 := M.at_ 3 rfl
    go_wp2
    go_ret
    exact ⟨rfl, M.below⟩
  exact absurd h (by omega)
theorem true_any (C : ClockHas) (X : Nat → Srv) (N : Nat) (A : Option Addr) (c : Nat) (n0 n1 n2 n3 n4 : Int) (w : World) (hv : SrvsAt w w.heap.size N X (.slice A N c)) :
    Calls Try.prog 4 #[.slice A N c, .agg #[.int .i64 n0, .int .i64 n1, .int .i64 n2, .int .i64 n3, .int .i64 n4]] w fun x w' => x = .returned (.bool true) ∧ Below w.heap.size w w' := by
  by_cases h : N = 0 ∨ 12 < (N : Int) ∨ n0 < 0 ∨ 1099511627776 < n0 ∨ n1 < 0 ∨ 1099511627776 < n1 ∨ n2 < 0 ∨ 100000 < n2 ∨ n3 < 0 ∨ 1099511627776 < n3
  · exact true_out C N A c n0 n1 n2 n3 n4 w h
  · exact true_in C X N A c n0 n1 n2 n3 n4 w (by omega) (by omega) (by omega) (by omega) (by omega) (by omega) (by omega) (by omega) (by omega) (by omega) hv
end Go.Proofs.Ytmkmmpmhbahmeaa.Clock
