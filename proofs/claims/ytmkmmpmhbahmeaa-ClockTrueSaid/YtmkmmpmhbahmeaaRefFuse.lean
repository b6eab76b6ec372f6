/-
  What the document's Fuse does.
-/
import Derived.Test.YtmkmmpmhbahmeaaRefVotes
import Derived.Test.YtmkmmpmhbahmeaaRefMay
import Derived.Test.YtmkmmpmhbahmeaaAfter
import Derived.StillTailTactics
namespace Go.Proofs.Ytmkmmpmhbahmeaa.Sweep
open Go Go.RowKit Go.Proofs.Ytmkmmpmhbahmeaa.Aid Go.Proofs.Ytmkmmpmhbahmeaa.Span

def spf (a b : Int) (i : Nat) : Value := .int .i64 (if i = 0 then a else b)
set_option maxRecDepth 100000 in
theorem refFuse_arg (e : Nat → Int × Int) (N : Nat) (hN : N ≤ 100) (L : Int) (h : ¬ may e N L) (v : Value) (w : World) (hv : SpansAt w w.heap.size N e v) :
    Calls Try.prog 25 #[v, .int .i64 L] w fun x w' => x = .returned (.tuple #[sp 0 0, .int .i64 1]) ∧ Below w.heap.size w w' := by
  have h0 : Below w.heap.size w (w.alloc (.cells #[.int .i64 0, .int .i64 0] 23)) := (Below.refl _ _).alloc (Nat.le_refl _) _
  have hv' := (hv.below h0).mono h0.size
  have hm := refMay7_any e N hN v _ hv'
  obtain ⟨A, c, rfl, _⟩ := hv
  have HM := Lib.hid hm
  clear hm hv'
  have hc := h
  unfold may at hc
  generalize validB e N = u at *
  by_cases h1 : L < 0 <;> by_cases h2 : (N : Int) ≤ L <;> rcases u with _ | _
  all_goals first
    | (exfalso; exact hc ⟨rfl, by omega, by omega⟩)
    | (exfalso; omega)
    | (clear hc h
       go_enter Try.func25, Try.ntmps25
       go_wp2_with fail
       refine (HM.out).mono ?_
       rintro _ w1 ⟨rfl, hb⟩
       obtain ⟨hc, hf⟩ := bcell hb
       have hz := hb.size
       rw [World.size_alloc] at hz
       have hz1 : w.heap.size < w1.heap.size := by omega
       go_wp2
       exact bodyPost_ret (v := .tuple #[sp 0 0, .int .i64 1]) (by simp [sp, results, Try.results25, go_sem, hc]) rfl ⟨rfl, ((h0.trans (hb.mono h0.size)).setCell (by simp) _).setCell (by simp) _⟩)
end Go.Proofs.Ytmkmmpmhbahmeaa.Sweep
