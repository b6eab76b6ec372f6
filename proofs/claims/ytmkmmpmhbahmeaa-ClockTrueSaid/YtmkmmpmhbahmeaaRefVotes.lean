/-
  What the document's Votes does.
-/
import Derived.Test.YtmkmmpmhbahmeaaSpansAt
import Derived.Test.YtmkmmpmhbahmeaaSweepPlain
import Derived.Test.YtmkmmpmhbahmeaaSpanRefHas
namespace Go.Proofs.Ytmkmmpmhbahmeaa.Sweep
open Go Go.RowKit Go.Proofs.Ytmkmmpmhbahmeaa.Aid Go.Proofs.Ytmkmmpmhbahmeaa.Span

set_option maxRecDepth 100000 in
theorem refVotes_any (e : Nat → Int × Int) (N : Nat) (hN : N ≤ 100) (t : Int) (v : Value) (w : World) (hv : SpansAt w w.heap.size N e v) :
    Calls Try.prog 39 #[v, .int .i64 t] w fun x w' => x = .returned (.int .i64 (votes e t N : Int)) ∧ Below w.heap.size w w' := by
  obtain ⟨A, c, rfl, hv⟩ := hv
  have HV := Lib.hid hv
  clear hv
  go_enter Try.func39, Try.ntmps39
  go_wp2
  go_loopw [5, 6] (fun m i wr => ∃ k : Nat, k ≤ N ∧ i = .int .i64 (k : Int) ∧ m = .int .i64 (votes e t k : Int) ∧ Hid (Below w.heap.size w wr)) (fun _ i _ => N - (intOf i).toNat)
  case atStart => exact ⟨0, by omega, rfl, rfl, Below.refl _ _⟩
  case round =>
    obtain ⟨k, hk, rfl, rfl, hb⟩ := hrel
    by_cases hlt : k < N
    · obtain ⟨b, o, rfl, hB, hc⟩ := HV.out (by omega)
      have c0 := (hb.out.cell (p := ⟨b, o + k * 2, none⟩) hB).trans (hc k hlt).1
      have c1 := (hb.out.cell (p := ⟨b, o + k * 2 + 1, none⟩) hB).trans (hc k hlt).2
      have q0 : (0 : Int) ≤ (k : Int) := by omega
      have q1 : (k : Int) < (N : Int) := by omega
      clear hc
      have q2 : (votes e t k : Int) ≤ (k : Int) := by have := votes_le e t k; omega
      have q3 : (0 : Int) ≤ (votes e t k : Int) := by omega
      have hb1 : Hid (Below w.heap.size w (wr.alloc (.cells #[.int .i64 (e k).1, .int .i64 (e k).2] 23))) := hb.out.alloc hb.out.size _
      clear HV
      go_wp2
      all_goals first
        | exact ⟨⟨k + 1, by omega, vI (by omega), vI (votes_no e t k (by omega)).symm, hb1⟩, by simp [intOf]; omega⟩
        | exact ⟨⟨k + 1, by omega, vI (by omega), vI (votes_yes e t k (by omega) (by omega)).symm, hb1⟩, by simp [intOf]; omega⟩
    · obtain rfl : k = N := by omega
      have hbo := hb.out
      clear HV hb
      go_wp2
      go_ret
      exact ⟨rfl, hbo⟩
end Go.Proofs.Ytmkmmpmhbahmeaa.Sweep
