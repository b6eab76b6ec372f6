/-
  Bytes that lie apart from a footprint; in blocks of some kind.
-/
import Derived.Test.YtpnkcacmmjmehaaDoorStorePlain
import Derived.Test.YtpnkcacmmjmehaaDoorKept
namespace Go.Proofs.YtpnkcacmmjmehaaDoor.Store
open Go Go.RowKit Go.Proofs.YtpnkcacmmjmehaaDoor.Aid Go.Proofs.YtpnkcacmmjmehaaDoor.Cache

/-- Bytes that lie in no block of a footprint. -/
def Apart (W : World) (F : Nat → Prop) (n : Nat) (e : Nat → BitVec 8) (v : Value) : Prop :=
  ∃ A c, v = .slice A n c ∧ n ≤ c ∧ (0 < n → ∃ sb so, A = some ⟨sb, so, none⟩ ∧ ¬ F sb ∧ ∀ j, j < n → W.cell? ⟨sb, so + j, none⟩ = some (.int .u8 ((e j).toNat : Int)))
theorem Apart.leaves {W W' : World} {F : Nat → Prop} {n : Nat} {e : Nat → BitVec 8} {v : Value} (h : Apart W F n e v) (hl : Cache.Leaves F W W') : Apart W' F n e v := by
  obtain ⟨A, c, hv, hc, hr⟩ := h
  refine ⟨A, c, hv, hc, fun h0 => ?_⟩
  obtain ⟨sb, so, hA, hF, hj⟩ := hr h0
  exact ⟨sb, so, hA, hF, fun j hjn => hl.cell (hj j hjn) hF⟩
theorem Apart.slice {W : World} {F : Nat → Prop} {n : Nat} {e : Nat → BitVec 8} {v : Value} (h : Apart W F n e v) : SliceOf W W.heap.size n e v := by
  obtain ⟨A, c, hv, hc, hr⟩ := h
  refine ⟨A, c, hv, hc, fun h0 => ?_⟩
  obtain ⟨sb, so, hA, hF, hj⟩ := hr h0
  exact ⟨sb, so, hA, Nat.ne_of_lt (block_lt_of_cell (hj 0 h0)), hj⟩
theorem Apart.less {W : World} {F F' : Nat → Prop} {n : Nat} {e : Nat → BitVec 8} {v : Value} (h : Apart W F n e v) (hF : ∀ b, b < W.heap.size → ¬ F b → ¬ F' b) : Apart W F' n e v := by
  obtain ⟨A, c, hv, hc, hr⟩ := h
  refine ⟨A, c, hv, hc, fun h0 => ?_⟩
  obtain ⟨sb, so, hA, hn, hj⟩ := hr h0
  exact ⟨sb, so, hA, hF sb (block_lt_of_cell (hj 0 h0)) hn, hj⟩
/-- Bytes that lie in blocks where P holds. -/
def BytesIn (W : World) (P : Nat → Prop) (n : Nat) (e : Nat → BitVec 8) (v : Value) : Prop :=
  ∃ A c, v = .slice A n c ∧ n ≤ c ∧ (0 < n → ∃ sb so, A = some ⟨sb, so, none⟩ ∧ P sb ∧ ∀ j, j < n → W.cell? ⟨sb, so + j, none⟩ = some (.int .u8 ((e j).toNat : Int)))
theorem BytesIn.apart {W : World} {P F : Nat → Prop} {n : Nat} {e : Nat → BitVec 8} {v : Value} (h : BytesIn W P n e v) (hF : ∀ b, P b → ¬ F b) : Apart W F n e v := by
  obtain ⟨A, c, hv, hc, hr⟩ := h
  refine ⟨A, c, hv, hc, fun h0 => ?_⟩
  obtain ⟨sb, so, hA, hP, hj⟩ := hr h0
  exact ⟨sb, so, hA, hF sb hP, hj⟩
theorem BytesIn.less {W : World} {P P' : Nat → Prop} {n : Nat} {e : Nat → BitVec 8} {v : Value} (h : BytesIn W P n e v) (hF : ∀ b, b < W.heap.size → P b → P' b) : BytesIn W P' n e v := by
  obtain ⟨A, c, hv, hc, hr⟩ := h
  refine ⟨A, c, hv, hc, fun h0 => ?_⟩
  obtain ⟨sb, so, hA, hP, hj⟩ := hr h0
  exact ⟨sb, so, hA, hF sb (block_lt_of_cell (hj 0 h0)) hP, hj⟩
theorem BytesIn.keep {W W' : World} {P : Nat → Prop} {n : Nat} {e : Nat → BitVec 8} {v : Value} (h : BytesIn W P n e v) (hk : ∀ b, b < W.heap.size → P b → W'.heap[b]? = W.heap[b]?) : BytesIn W' P n e v := by
  obtain ⟨A, c, hv, hc, hr⟩ := h
  refine ⟨A, c, hv, hc, fun h0 => ?_⟩
  obtain ⟨sb, so, hA, hP, hj⟩ := hr h0
  refine ⟨sb, so, hA, hP, fun j hjn => ?_⟩
  rw [← hj j hjn]
  unfold World.cell?
  rw [hk sb (block_lt_of_cell (hj 0 h0)) hP]
theorem BytesIn.below {W W' : World} {P : Nat → Prop} {n : Nat} {e : Nat → BitVec 8} {v : Value} (h : BytesIn W P n e v) (hb : Below W.heap.size W W') : BytesIn W' P n e v := h.keep (fun b hb' _ => hb.block b hb')
theorem BytesIn.slice {W : World} {P : Nat → Prop} {n : Nat} {e : Nat → BitVec 8} {v : Value} (h : BytesIn W P n e v) : SliceOf W W.heap.size n e v := by
  obtain ⟨A, c, hv, hc, hr⟩ := h
  refine ⟨A, c, hv, hc, fun h0 => ?_⟩
  obtain ⟨sb, so, hA, hP, hj⟩ := hr h0
  exact ⟨sb, so, hA, Nat.ne_of_lt (block_lt_of_cell (hj 0 h0)), hj⟩
/-- Bytes that were there when the law began. -/
theorem bytes_old {w0 W : World} {n : Nat} {e : Nat → BitVec 8} {v : Value} (h : SliceOf w0 w0.heap.size n e v) (hb : Below w0.heap.size w0 W) : BytesIn W (fun b => b < w0.heap.size) n e v := by
  obtain ⟨A, c, hv, hc, hr⟩ := h
  refine ⟨A, c, hv, hc, fun h0 => ?_⟩
  obtain ⟨sb, so, hA, _, hj⟩ := hr h0
  have hlt := block_lt_of_cell (hj 0 h0)
  exact ⟨sb, so, hA, hlt, fun j hjn => (hb.cell (p := ⟨sb, so + j, none⟩) hlt).trans (hj j hjn)⟩
/-- Bytes that a store may be handed: old ones, or in a kept block. -/
def okB (w0 : World) (K : Nat → Prop) (b : Nat) : Prop := b < w0.heap.size ∨ K b
end Go.Proofs.YtpnkcacmmjmehaaDoor.Store
