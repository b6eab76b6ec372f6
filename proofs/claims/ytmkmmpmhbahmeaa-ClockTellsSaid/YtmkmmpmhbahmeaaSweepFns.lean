/-
  What the closure of sweep.Fuse does.
-/
import Derived.Test.YtmkmmpmhbahmeaaSweepVotes
import Derived.Test.YtmkmmpmhbahmeaaAfter
namespace Go.Proofs.Ytmkmmpmhbahmeaa.Sweep
open Go Go.RowKit Go.Proofs.Ytmkmmpmhbahmeaa.Aid Go.Proofs.Ytmkmmpmhbahmeaa.Span

set_option maxRecDepth 100000 in
theorem fuseFn_any (e : Nat → Int × Int) (N : Nat) (hN : N ≤ 100) (need t : Int) (A : Option Addr) (c g2 g6 : Nat) (W : World) (hv : SpansAt W W.heap.size N e (.slice A N c)) (h2 : W.cell? ⟨g2, 0, none⟩ = some (.slice A N c)) (h6 : W.cell? ⟨g6, 0, none⟩ = some (.int .i64 need)) (l2 : g2 < W.heap.size) (l6 : g6 < W.heap.size) :
    Calls Try.prog 36 #[.int .i64 t, .pointer (some ⟨g2, 0, none⟩), .pointer (some ⟨g6, 0, none⟩)] W fun x w' => x = .returned (.bool (decide (need ≤ (votes e t N : Int)))) ∧ Below W.heap.size W w' := by
  have HT := Lib.hid (fun x => votes_any e N hN t _ _ ((hv.below (after_below W x)).mono (after_below W x).size))
  have F1 := after_cell W
  clear hv
  generalize (votes e t N : Int) = vt at *
  go_enter Try.func36, Try.ntmps36
  go_wp2
  refine region_after (by kernel_rfl) (by kernel_rfl) ?_
  repeat (go_big_quiet_step ((go_at_call 37; exact after_call_at (HT.out _))))
  refine wpQuiet_nil ?_
  rintro _ ⟨x, rfl⟩
  have hb := after_below W x
  clear F1 HT
  generalize after W x = w1 at *
  go_wp2
  go_ret
  exact ⟨rfl, hb⟩
end Go.Proofs.Ytmkmmpmhbahmeaa.Sweep
