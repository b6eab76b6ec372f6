/-
  The walk of bartizanlaw07.SweepMore: for any spans and liars it returns true, and writes nothing that was there.
-/
import Derived.Test.YtlkifbcgcmgpcaaLaw07Awake
namespace Go.Proofs.Ytlkifbcgcmgpcaa.Sweep
open Go Go.RowKit Go.Proofs.Ytlkifbcgcmgpcaa.Aid Go.Proofs.Ytlkifbcgcmgpcaa.Span

theorem fused_code {e : Nat → Int × Int} {n : Nat} {L lo hi c : Int} (h : FuseSpec e n L lo hi c) : c = 0 ∨ (lo = 0 ∧ hi = 0 ∧ (c = 1 ∨ c = 11)) := by
  rcases h with ⟨_, a, b, d⟩ | ⟨_, _, a, b, d⟩ | ⟨_, _, _, _, d⟩
  · exact .inr ⟨a, b, .inl d⟩
  · exact .inr ⟨a, b, .inr d⟩
  · exact .inl d

set_option maxRecDepth 100000 in
set_option maxHeartbeats 2000000 in
theorem more_long (C : SweepHas) (N : Nat) (hN : 70 < N) (L : Int) (A : Option Addr) (c : Nat) (w : World) :
    Calls Try.prog 5 #[.slice A N c, .int .i64 L] w fun x w' => x = .returned (.bool true) ∧ Below w.heap.size w w' := by
  have hN' : (70 : Int) < (N : Int) := by omega
  go_enter Try.func5, Try.ntmps5
  go_wp2_with fail
  refine (awake_any C _).mono ?_
  rintro _ u0 ⟨rfl, hb⟩
  go_wp2
  go_ret
  exact ⟨rfl, hb⟩
set_option maxRecDepth 100000 in
set_option maxHeartbeats 2000000 in
theorem more_err (C : SweepHas) (e : Nat → Int × Int) (N : Nat) (hN : N ≤ 70) (L : Int) (A : Option Addr) (c : Nat) (w : World) (hv : SpansAt w w.heap.size N e (.slice A N c)) (hc : (fuseR e N L).2.2 ≠ 0) :
    Calls Try.prog 5 #[.slice A N c, .int .i64 L] w fun x w' => x = .returned (.bool true) ∧ Below w.heap.size w w' := by
  have M : Held7 w N e (.slice A N c) [] w := ⟨hv, Mem.nil w⟩
  clear hv
  have hN' : ¬ (70 : Int) < (N : Int) := by omega
  have f1 := fun W hW => C.fuse e N (by omega) L (.slice A N c) W hW
  have hs := fused_code (fuseR_spec e N L)
  generalize (fuseR e N L).1 = a0 at *
  generalize (fuseR e N L).2.1 = a1 at *
  generalize (fuseR e N L).2.2 = a2 at *
  rcases hs with rfl | ⟨rfl, rfl, rfl | rfl⟩
  · exact absurd rfl hc
  all_goals
    unfold sp at *
    have F1 := Lib.hid f1
    clear f1 hc
    go_enter Try.func5, Try.ntmps5
    go_wp2_with fail
    refine (awake_any C _).mono ?_
    rintro _ u0 ⟨rfl, hb⟩
    replace M := M.step hb
    clear hb
    go_wp2_with fail
    refine (F1.out _ M.1).mono ?_
    rintro _ u1 ⟨rfl, hb⟩
    replace M := (M.step hb).two (.int .i64 0) (.int .i64 0) 25 u1.heap.size rfl
    clear hb
    have x0 := M.2.at_ 0 rfl
    have x1 := M.2.at_ 1 rfl
    go_wp2
    go_ret
    exact ⟨rfl, M.2.below⟩
set_option maxRecDepth 100000 in
set_option maxHeartbeats 4000000 in
theorem more_ok (C : SweepHas) (e : Nat → Int × Int) (N : Nat) (hN : N ≤ 70) (L : Int) (A : Option Addr) (c : Nat) (w : World) (hv : SpansAt w w.heap.size N e (.slice A N c)) (hc : (fuseR e N L).2.2 = 0) :
    Calls Try.prog 5 #[.slice A N c, .int .i64 L] w fun x w' => x = .returned (.bool true) ∧ Below w.heap.size w w' := by
  have M : Held7 w N e (.slice A N c) [] w := ⟨hv, Mem.nil w⟩
  clear hv
  have hN' : ¬ (70 : Int) < (N : Int) := by omega
  obtain ⟨hm, p1, p2, p3, p4, p5, p6, p7⟩ := more_facts (fuseR_spec e N L) (fuseR_spec e N (L + 1)) hc
  obtain ⟨r1, r2, r3, r4⟩ := fused_range (fuseR_spec e N L)
  have hL0 : 0 ≤ L := hm.2.1
  have hL1 : L < (N : Int) := hm.2.2
  have f1 := fun W hW => C.fuse e N (by omega) L (.slice A N c) W hW
  have f2 := fun W hW => C.fuse e N (by omega) (L + 1) (.slice A N c) W hW
  have v1 := fun W hW => C.votes e N (by omega) (fuseR e N L).1 (.slice A N c) W hW
  have v2 := fun W hW => C.votes e N (by omega) (fuseR e N L).2.1 (.slice A N c) W hW
  have v3 := fun W hW => C.votes e N (by omega) ((fuseR e N L).1 - 1) (.slice A N c) W hW
  have v4 := fun W hW => C.votes e N (by omega) ((fuseR e N L).2.1 + 1) (.slice A N c) W hW
  rw [hc] at f1
  unfold enough at p1 p2 p3 p4
  generalize (fuseR e N L).1 = a0 at *
  generalize (fuseR e N L).2.1 = a1 at *
  generalize (fuseR e N (L + 1)).1 = b0 at *
  generalize (fuseR e N (L + 1)).2.1 = b1 at *
  generalize (fuseR e N (L + 1)).2.2 = b2 at *
  generalize (votes e a0 N : Int) = w1 at *
  generalize (votes e a1 N : Int) = w2 at *
  generalize (votes e (a0 - 1) N : Int) = w3 at *
  generalize (votes e (a1 + 1) N : Int) = w4 at *
  have k1 : ¬ w1 < (N : Int) - L := by omega
  have k2 : ¬ w2 < (N : Int) - L := by omega
  have k3 : ¬ (N : Int) - L ≤ w3 := by omega
  have k4 : ¬ (N : Int) - L ≤ w4 := by omega
  have k5 : ¬ a1 < a0 := by omega
  unfold sp at *
  have F1 := Lib.hid f1
  have F2 := Lib.hid f2
  have V1 := Lib.hid v1
  have V2 := Lib.hid v2
  have V3 := Lib.hid v3
  have V4 := Lib.hid v4
  have PP : ((N : Int) ≤ L + 1 ∧ b2 = 1) ∨ (L + 1 < (N : Int) ∧ b2 = 0 ∧ b0 ≤ a0 ∧ a1 ≤ b1) := by
    by_cases hl : (N : Int) ≤ L + 1
    · exact .inl ⟨hl, p6 hl⟩
    · exact .inr ⟨by omega, p7 (by omega)⟩
  clear f1 f2 v1 v2 v3 v4 p1 p2 p3 p4 p6 p7 hc hm
  rcases PP with ⟨hl, rfl⟩ | ⟨hl, rfl, k6, k7⟩
  all_goals
    go_enter Try.func5, Try.ntmps5
    go_wp2_with fail
    refine (awake_any C _).mono ?_
    rintro _ u0 ⟨rfl, hb⟩
    replace M := M.step hb
    clear hb
    go_wp2_with fail
    refine (F1.out _ M.1).mono ?_
    rintro _ u1 ⟨rfl, hb⟩
    replace M := (M.step hb).two (.int .i64 a0) (.int .i64 a1) 25 u1.heap.size rfl
    clear hb
    go_wp2_with fail
    refine (V1.out _ M.1).mono ?_
    rintro _ u2 ⟨rfl, hb⟩
    replace M := M.step hb
    clear hb
    have x0 := M.2.at_ 0 rfl
    have x1 := M.2.at_ 1 rfl
    go_wp2_with fail
    refine (V2.out _ M.1).mono ?_
    rintro _ u3 ⟨rfl, hb⟩
    replace M := M.step hb
    clear hb x0 x1
    have x0 := M.2.at_ 0 rfl
    have x1 := M.2.at_ 1 rfl
    go_wp2_with fail
    refine (V3.out _ M.1).mono ?_
    rintro _ u4 ⟨rfl, hb⟩
    replace M := M.step hb
    clear hb x0 x1
    have x0 := M.2.at_ 0 rfl
    have x1 := M.2.at_ 1 rfl
    go_wp2_with fail
    refine (V4.out _ M.1).mono ?_
    rintro _ u5 ⟨rfl, hb⟩
    replace M := M.step hb
    clear hb x0 x1
    have x0 := M.2.at_ 0 rfl
    have x1 := M.2.at_ 1 rfl
    go_wp2_with fail
    refine (F2.out _ M.1).mono ?_
    rintro _ u6 ⟨rfl, hb⟩
    replace M := (M.step hb).two (.int .i64 b0) (.int .i64 b1) 25 u6.heap.size rfl
    clear hb x0 x1
    have x0 := M.2.at_ 0 rfl
    have x1 := M.2.at_ 1 rfl
    have x2 := M.2.at_ 2 rfl
    have x3 := M.2.at_ 3 rfl
    go_wp2
    go_ret
    exact ⟨rfl, M.2.below⟩
theorem more_any (C : SweepHas) (e : Nat → Int × Int) (N : Nat) (L : Int) (A : Option Addr) (c : Nat) (w : World) (hv : SpansAt w w.heap.size N e (.slice A N c)) :
    Calls Try.prog 5 #[.slice A N c, .int .i64 L] w fun x w' => x = .returned (.bool true) ∧ Below w.heap.size w w' := by
  by_cases hN : N ≤ 70
  · by_cases hc : (fuseR e N L).2.2 = 0
    · exact more_ok C e N hN L A c w hv hc
    · exact more_err C e N hN L A c w hv hc
  · exact more_long C N (by omega) L A c w
end Go.Proofs.Ytlkifbcgcmgpcaa.Sweep
