/-
  Letters in the buffer of a channel: where they lie, what a send and a receive leave.
-/
import Derived.Test.YtefghgoeppfpfaaNetPlain
import Derived.Test.YtefghgoeppfpfaaKept
import Derived.Test.YtefghgoeppfpfaaOwn
import Derived.Test.YtefghgoeppfpfaaProg
import Derived.Conc.LoneSelect
import Derived.Conc.LoneSelectN
namespace Go.Proofs.Ytefghgoeppfpfaa.Net
open Go Go.RowKit Go.Conc Go.Proofs.Ytefghgoeppfpfaa.Aid Go.Proofs.Ytefghgoeppfpfaa.Cache

def bufOf (ps : List (Lt × Value)) : Array Value := (ps.map (fun p => ltV p.1 p.2)).toArray
/-- An open channel in block cb holds the letters ps, each one's bytes in a block of its own. -/
structure ChanIn (W : World) (cb m s r : Nat) (ps : List (Lt × Value)) : Prop where
  ch : W.heap[cb]? = some (.chan m (bufOf ps) false s r false)
  own : ∀ p ∈ ps, Own W 0 p.1.n p.1.e p.2 ∧ p.1.n ≤ 2000
  apart : ps.Pairwise (fun p q => ∀ b, p.2.ownBlock = some b → q.2.ownBlock ≠ some b)
  off : ∀ p ∈ ps, p.2.ownBlock ≠ some cb
  len : ps.length ≤ m
def chanF (cb : Nat) (ps : List (Lt × Value)) (b : Nat) : Prop := b = cb ∨ ∃ p ∈ ps, p.2.ownBlock = some b
theorem bufOf_size (ps : List (Lt × Value)) : (bufOf ps).size = ps.length := by simp [bufOf]
theorem bufOf_push (ps : List (Lt × Value)) (x : Lt) (bv : Value) : (bufOf ps).push (ltV x bv) = bufOf (ps ++ [(x, bv)]) := by simp [bufOf]
theorem bufOf_tail (p : Lt × Value) (ps : List (Lt × Value)) : (bufOf (p :: ps)).extract 1 (bufOf (p :: ps)).size = bufOf ps := by
  simp [bufOf]
  exact List.take_of_length_le (by simp)
theorem bufOf_head (p : Lt × Value) (ps : List (Lt × Value)) : (bufOf (p :: ps)).getD 0 undef = ltV p.1 p.2 := by simp [bufOf]
section
variable {W W' : World} {cb m s r : Nat} {ps : List (Lt × Value)}
theorem ChanIn.lt (h : ChanIn W cb m s r ps) : ∀ b, chanF cb ps b → b < W.heap.size := by
  rintro b (rfl | ⟨p, hp, hb⟩)
  · exact (Array.getElem?_eq_some_iff.1 h.ch).1
  · exact ((h.own p hp).1.lt hb).2
theorem ChanIn.keep (h : ChanIn W cb m s r ps) (hk : ∀ b, chanF cb ps b → W'.heap[b]? = W.heap[b]?) : ChanIn W' cb m s r ps :=
  ⟨(hk cb (.inl rfl)).trans h.ch, fun p hp => ⟨(h.own p hp).1.keep (fun b hb => hk b (.inr ⟨p, hp, hb⟩)), (h.own p hp).2⟩, h.apart, h.off, h.len⟩
theorem heap_setChan_other (W : World) (c cap : Nat) (buf : Array Value) (cl : Bool) (s r : Nat) (tm : Bool) (b : Nat) (h : b ≠ c) : (W.setChan c cap buf cl s r tm).heap[b]? = W.heap[b]? := by
  simp [World.setChan, Array.getElem?_setIfInBounds_ne (Ne.symm h)]
theorem ChanIn.send (h : ChanIn W cb m s r ps) (x : Lt) (bv : Value) (ho : Own W 0 x.n x.e bv) (hx : x.n ≤ 2000) (hb : ∀ b, bv.ownBlock = some b → ¬ chanF cb ps b) (hl : ps.length < m) :
    ChanIn (W.setChan cb m ((bufOf ps).push (ltV x bv)) false (s + 1) r false) cb m (s + 1) r (ps ++ [(x, bv)]) := by
  have hlt := h.lt cb (.inl rfl)
  have oth : ∀ b, b ≠ cb → (W.setChan cb m ((bufOf ps).push (ltV x bv)) false (s + 1) r false).heap[b]? = W.heap[b]? := fun b hb => heap_setChan_other _ _ _ _ _ _ _ _ b hb
  refine ⟨by rw [heap_setChan _ _ _ _ _ _ _ _ hlt, bufOf_push], fun p hp => ?_, ?_, fun p hp => ?_, by simp; omega⟩
  · rcases List.mem_append.1 hp with hp | hp
    · exact ⟨(h.own p hp).1.keep (fun b hbb => oth b (fun e => h.off p hp (e ▸ hbb))), (h.own p hp).2⟩
    · obtain rfl := List.mem_singleton.1 hp
      exact ⟨ho.keep (fun b hbb => oth b (fun e => hb b hbb (.inl e))), hx⟩
  · refine List.pairwise_append.2 ⟨h.apart, List.pairwise_singleton _ _, fun p hp q hq b hpb hqb => ?_⟩
    obtain rfl := List.mem_singleton.1 hq
    exact hb b hqb (.inr ⟨p, hp, hpb⟩)
  · rcases List.mem_append.1 hp with hp | hp
    · exact h.off p hp
    · obtain rfl := List.mem_singleton.1 hp
      exact fun e => hb cb e (.inl rfl)
theorem ChanIn.recv {p : Lt × Value} (h : ChanIn W cb m s r (p :: ps)) :
    ChanIn (W.setChan cb m ((bufOf (p :: ps)).extract 1 (bufOf (p :: ps)).size) false s (r + 1) false) cb m s (r + 1) ps ∧ Own (W.setChan cb m ((bufOf (p :: ps)).extract 1 (bufOf (p :: ps)).size) false s (r + 1) false) 0 p.1.n p.1.e p.2 ∧ ∀ b, p.2.ownBlock = some b → ¬ chanF cb ps b := by
  have hlt := h.lt cb (.inl rfl)
  have oth : ∀ b, b ≠ cb → (W.setChan cb m ((bufOf (p :: ps)).extract 1 (bufOf (p :: ps)).size) false s (r + 1) false).heap[b]? = W.heap[b]? := fun b hb => heap_setChan_other _ _ _ _ _ _ _ _ b hb
  have hap := List.pairwise_cons.1 h.apart
  refine ⟨⟨by rw [heap_setChan _ _ _ _ _ _ _ _ hlt, bufOf_tail], fun q hq => ?_, hap.2, fun q hq => h.off q (List.mem_cons_of_mem _ hq), by have := h.len; simp at this; omega⟩, ?_, fun b hb hf => ?_⟩
  · exact ⟨(h.own q (List.mem_cons_of_mem _ hq)).1.keep (fun b hbb => oth b (fun e => h.off q (List.mem_cons_of_mem _ hq) (e ▸ hbb))), (h.own q (List.mem_cons_of_mem _ hq)).2⟩
  · exact (h.own p (List.mem_cons_self ..)).1.keep (fun b hbb => oth b (fun e => h.off p (List.mem_cons_self ..) (e ▸ hbb)))
  · rcases hf with rfl | ⟨q, hq, hqb⟩
    · exact h.off p (List.mem_cons_self ..) hb
    · exact hap.1 q hq b hb hqb
theorem leaves_setChan {w W : World} {F : Nat → Prop} (h : Cache.Leaves F w W) (hc : F cb) (cap : Nat) (buf : Array Value) (cl : Bool) (s r : Nat) (tm : Bool) : Cache.Leaves F w (W.setChan cb cap buf cl s r tm) :=
  ⟨h.os, h.tape, h.output, by rw [size_setChan]; exact h.size, fun k hk hn => (heap_setChan_other _ _ _ _ _ _ _ _ k (fun e => hn (e ▸ hc))).trans (h.block k hk hn)⟩
end
end Go.Proofs.Ytefghgoeppfpfaa.Net
