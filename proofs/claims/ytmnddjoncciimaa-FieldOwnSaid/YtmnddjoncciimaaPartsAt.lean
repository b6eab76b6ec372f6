/-
  A list of slices of bytes: behind calls; one part's place.
-/
import Derived.Test.YtmnddjoncciimaaFieldPlain
import Derived.Test.YtmnddjoncciimaaMake
namespace Go.Proofs.Ytmnddjoncciimaa.Field
open Go Go.RowKit Go.Proofs.Ytmnddjoncciimaa.Aid Go.Proofs.Ytmnddjoncciimaa.Law01

theorem PartsOf.below {w w' : World} {len : Nat} {m : Nat → Nat} {e : Nat → Nat → BitVec 8} {v : Value} (h : PartsOf w len m e v) (hb : Below w.heap.size w w') : PartsOf w' len m e v := by
  obtain ⟨A, c, rfl, hr⟩ := h
  refine ⟨A, c, rfl, fun h0 => ?_⟩
  obtain ⟨sb, so, hA, hc⟩ := hr h0
  refine ⟨sb, so, hA, fun i hi => ?_⟩
  obtain ⟨u, hu, hs⟩ := hc i hi
  exact ⟨u, (hb.cell (p := ⟨sb, so + i, none⟩) (block_lt_of_cell hu)).trans hu, slice_any (slice_below hs hb) (Nat.le_refl _)⟩
theorem PartsOf.congr {w : World} {len : Nat} {m m' : Nat → Nat} {e e' : Nat → Nat → BitVec 8} {v : Value} (h : PartsOf w len m e v) (hm : ∀ i, i < len → m i = m' i ∧ ∀ j, j < m i → e i j = e' i j) : PartsOf w len m' e' v := by
  obtain ⟨A, c, rfl, hr⟩ := h
  refine ⟨A, c, rfl, fun h0 => ?_⟩
  obtain ⟨sb, so, hA, hc⟩ := hr h0
  refine ⟨sb, so, hA, fun i hi => ?_⟩
  obtain ⟨u, hu, hs⟩ := hc i hi
  refine ⟨u, hu, ?_⟩
  rw [← (hm i hi).1]
  exact hs.congr (hm i hi).2
/-- One part's place. -/
theorem PartsOf.at_ {w : World} {len : Nat} {m : Nat → Nat} {e : Nat → Nat → BitVec 8} {A : Option Addr} {c : Nat} (h : PartsOf w len m e (.slice A len c)) (i : Nat) (hi : i < len) :
    ∃ sb so A' c', A = some ⟨sb, so, none⟩ ∧ w.cell? ⟨sb, so + i, none⟩ = some (.slice A' (m i) c') ∧ SliceOf w w.heap.size (m i) (e i) (.slice A' (m i) c') := by
  obtain ⟨A1, c1, he, hr⟩ := h
  simp only [Value.slice.injEq, true_and] at he
  obtain ⟨rfl, rfl⟩ := he
  obtain ⟨sb, so, hA, hc⟩ := hr (by omega)
  obtain ⟨u, hu, hs⟩ := hc i hi
  obtain ⟨A', c', rfl, hx⟩ := hs
  exact ⟨sb, so, A', c', hA, hu, A', c', rfl, hx⟩
theorem SliceOf.at_ {w : World} {g n : Nat} {e : Nat → BitVec 8} {A : Option Addr} {c : Nat} (h : SliceOf w g n e (.slice A n c)) (hn : 0 < n) :
    ∃ sb so, A = some ⟨sb, so, none⟩ ∧ ∀ j, j < n → w.cell? ⟨sb, so + j, none⟩ = some (.int .u8 ((e j).toNat : Int)) := by
  obtain ⟨A1, c1, he, _, hr⟩ := h
  simp only [Value.slice.injEq, true_and] at he
  obtain ⟨rfl, rfl⟩ := he
  obtain ⟨sb, so, hA, _, hc⟩ := hr hn
  exact ⟨sb, so, hA, hc⟩
end Go.Proofs.Ytmnddjoncciimaa.Field
