/-
  A slice of spans in memory, by an index function.
-/
import Derived.Test.YtmkmmpmhbahmeaaAid
import Derived.Test.YtmkmmpmhbahmeaaSpanPlain
namespace Go.Proofs.Ytmkmmpmhbahmeaa.Sweep
open Go Go.RowKit Go.Proofs.Ytmkmmpmhbahmeaa.Aid Go.Proofs.Ytmkmmpmhbahmeaa.Span

/-- The slice v holds n spans, e's; they lie below block B. -/
def SpansAt (W : World) (B n : Nat) (e : Nat → Int × Int) (v : Value) : Prop :=
  ∃ (A : Option Addr) (c : Nat), v = .slice A n c ∧ (1 ≤ n → ∃ b o, A = some ⟨b, o, none⟩ ∧ b < B ∧ ∀ i, i < n → W.cell? ⟨b, o + i * 2, none⟩ = some (.int .i64 (e i).1) ∧ W.cell? ⟨b, o + i * 2 + 1, none⟩ = some (.int .i64 (e i).2))
theorem SpansAt.below {W W' : World} {B n : Nat} {e : Nat → Int × Int} {v : Value} (h : SpansAt W B n e v) (hb : Below B W W') : SpansAt W' B n e v := by
  obtain ⟨A, c, rfl, h⟩ := h
  refine ⟨A, c, rfl, fun h1 => ?_⟩
  obtain ⟨b, o, rfl, hB, hc⟩ := h h1
  exact ⟨b, o, rfl, hB, fun i hi => ⟨(hb.cell (p := ⟨b, o + i * 2, none⟩) hB).trans (hc i hi).1, (hb.cell (p := ⟨b, o + i * 2 + 1, none⟩) hB).trans (hc i hi).2⟩⟩
theorem SpansAt.congr {W : World} {B n : Nat} {e f : Nat → Int × Int} {v : Value} (h : SpansAt W B n e v) (he : ∀ i, i < n → e i = f i) : SpansAt W B n f v := by
  obtain ⟨A, c, rfl, h⟩ := h
  refine ⟨A, c, rfl, fun h1 => ?_⟩
  obtain ⟨b, o, rfl, hB, hc⟩ := h h1
  exact ⟨b, o, rfl, hB, fun i hi => by rw [← he i hi]; exact hc i hi⟩
theorem SpansAt.mono {W : World} {B B' n : Nat} {e : Nat → Int × Int} {v : Value} (h : SpansAt W B n e v) (hB : B ≤ B') : SpansAt W B' n e v := by
  obtain ⟨A, c, rfl, h⟩ := h
  refine ⟨A, c, rfl, fun h1 => ?_⟩
  obtain ⟨b, o, rfl, h2, hc⟩ := h h1
  exact ⟨b, o, rfl, by omega, hc⟩
theorem vI {a b : Int} (h : a = b) : Value.int .i64 a = .int .i64 b := by rw [h]
end Go.Proofs.Ytmkmmpmhbahmeaa.Sweep
