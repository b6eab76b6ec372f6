/-
  The walk of bartizanlaw07.SweepTells: for any spans, liars and time it returns true, and writes nothing that was there.
-/
import Derived.Test.YtlkifbcgcmgpcaaLaw07Awake
import Derived.Test.YtlkifbcgcmgpcaaRefFuseOk
import Derived.Test.YtlkifbcgcmgpcaaRefMost
namespace Go.Proofs.Ytlkifbcgcmgpcaa.Sweep
open Go Go.RowKit Go.Proofs.Ytlkifbcgcmgpcaa.Aid Go.Proofs.Ytlkifbcgcmgpcaa.Span

set_option maxRecDepth 100000 in
set_option maxHeartbeats 2000000 in
theorem tells_any (C : SweepHas) (e : Nat → Int × Int) (N : Nat) (L t : Int) (A : Option Addr) (c : Nat) (w : World) (hv : SpansAt w w.heap.size N e (.slice A N c)) :
    Calls Try.prog 3 #[.slice A N c, .int .i64 L, .int .i64 t] w fun x w' => x = .returned (.bool true) ∧ Below w.heap.size w w' := by
  have M : Held7 w N e (.slice A N c) [] w := ⟨hv, Mem.nil w⟩
  clear hv
  by_cases hN : N ≤ 70
  · have hN' : ¬ (70 : Int) < (N : Int) := by omega
    have f1 := fun W hW => C.fuse e N (by omega) L (.slice A N c) W hW
    have f2 := fun W hW => refFuse_any e N (by omega) L (.slice A N c) W hW
    have f3 := fun W hW => C.most e N (by omega) (.slice A N c) W hW
    have f4 := fun W hW => refMost_any e N (by omega) (.slice A N c) W hW
    have f5 := fun W hW => C.votes e N (by omega) t (.slice A N c) W hW
    have f6 := fun W hW => refVotes_any e N (by omega) t (.slice A N c) W hW
    generalize (fuseR e N L).1 = a0 at *
    generalize (fuseR e N L).2.1 = a1 at *
    generalize (fuseR e N L).2.2 = a2 at *
    generalize (mostR e N).1 = m0 at *
    generalize (mostR e N).2.1 = m1 at *
    generalize (mostR e N).2.2 = m2 at *
    generalize (votes e t N : Int) = vt at *
    unfold sp at *
    have F1 := Lib.hid f1
    have F2 := Lib.hid f2
    have F3 := Lib.hid f3
    have F4 := Lib.hid f4
    have F5 := Lib.hid f5
    have F6 := Lib.hid f6
    clear f1 f2 f3 f4 f5 f6
    go_enter Try.func3, Try.ntmps3
    go_wp2_with fail
    refine (awake_any C _).mono ?_
    rintro _ u0 ⟨rfl, hb⟩
    replace M := M.step hb
    clear hb
    go_wp2_with fail
    refine (F1.out _ M.1).mono ?_
    rintro _ u1 ⟨rfl, hb⟩
    replace M := (M.step hb).two (.int .i64 a0) (.int .i64 a1) 25 u1.heap.size rfl
    clear hb
    go_wp2_with fail
    refine (F2.out _ M.1).mono ?_
    rintro _ u2 ⟨rfl, hb⟩
    replace M := (M.step hb).two (.int .i64 a0) (.int .i64 a1) 25 u2.heap.size rfl
    clear hb
    go_wp2_with fail
    refine (F3.out _ M.1).mono ?_
    rintro _ u3 ⟨rfl, hb⟩
    replace M := M.step hb
    clear hb
    go_wp2_with fail
    refine (F4.out _ M.1).mono ?_
    rintro _ u4 ⟨rfl, hb⟩
    replace M := M.step hb
    clear hb
    have x0 := M.2.at_ 0 rfl
    have x1 := M.2.at_ 1 rfl
    have x2 := M.2.at_ 2 rfl
    have x3 := M.2.at_ 3 rfl
    go_wp2_with fail
    refine (F5.out _ M.1).mono ?_
    rintro _ u5 ⟨rfl, hb⟩
    replace M := M.step hb
    clear hb x0 x1 x2 x3
    go_wp2_with fail
    refine (F6.out _ M.1).mono ?_
    rintro _ u6 ⟨rfl, hb⟩
    replace M := M.step hb
    clear hb
    go_wp2
    go_ret
    exact ⟨rfl, M.2.below⟩
  · have hN' : (70 : Int) < (N : Int) := by omega
    go_enter Try.func3, Try.ntmps3
    go_wp2_with fail
    refine (awake_any C _).mono ?_
    rintro _ u0 ⟨rfl, hb⟩
    go_wp2
    go_ret
    exact ⟨rfl, hb⟩
end Go.Proofs.Ytlkifbcgcmgpcaa.Sweep
