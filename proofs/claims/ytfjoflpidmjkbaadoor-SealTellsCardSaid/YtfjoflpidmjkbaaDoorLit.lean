/-
  The code that the laws of layer 2 ask first: RFC 4231's second.
  Bytes of a literal, and two parts, in new blocks.
-/
import Derived.Test.YtfjoflpidmjkbaaDoorMacExpand
import Derived.Test.YtfjoflpidmjkbaaDoorMacEqual
namespace Go.Proofs.YtfjoflpidmjkbaaDoor.Mac
open Go Go.Proofs.YtfjoflpidmjkbaaDoor.Aid Go.Proofs.YtfjoflpidmjkbaaDoor.Sha Go.Proofs.YtfjoflpidmjkbaaDoor.Law01

def bytesL (l : List (BitVec 8)) (i : Nat) : BitVec 8 := l.getD i 0
def jefe : List (BitVec 8) := [74, 101, 102, 101]
def want : List (BitVec 8) := [119, 104, 97, 116, 32, 100, 111, 32, 121, 97, 32, 119, 97, 110, 116, 32]
def nothing : List (BitVec 8) := [102, 111, 114, 32, 110, 111, 116, 104, 105, 110, 103, 63]
def innerL : List (BitVec 8) := [162, 228, 133, 134, 61, 39, 249, 216, 100, 172, 141, 128, 36, 50, 161, 237, 71, 125, 140, 76, 111, 52, 157, 22, 212, 231, 233, 23, 198, 41, 202, 215]
theorem inner_at : ∀ j, j < 32 → inner (padKey (bytesL jefe) 4) (bytesL (want ++ nothing)) 28 j = bytesL innerL j := by decide +kernel
theorem known_code : code (bytesL jefe) 4 (bytesL (want ++ nothing)) 28 = digest (bytesL ((List.range 64).map (fun j => padKey (bytesL jefe) 4 j ^^^ 92) ++ innerL)) 96 := by
  unfold code codeP
  refine digest_congr _ _ _ (fun j hj => ?_)
  by_cases h : j < 64
  · rw [cat_lt _ _ _ _ h]
    unfold bytesL xorBy
    rw [List.getD_eq_getElem?_getD, List.getElem?_append_left (by simpa using h)]
    simp [h]
  · rw [cat_ge _ _ _ _ (by omega), inner_at (j - 64) (by omega)]
    unfold bytesL
    rw [List.getD_eq_getElem?_getD, List.getD_eq_getElem?_getD, List.getElem?_append_right (by simp; omega)]
    simp
theorem known_0 : code (bytesL jefe) 4 (bytesL (want ++ nothing)) 28 0 = 0x5b := by rw [known_code]; decide +kernel
theorem known_1 : code (bytesL jefe) 4 (bytesL (want ++ nothing)) 28 1 = 0xdc := by rw [known_code]; decide +kernel
theorem known_31 : code (bytesL jefe) 4 (bytesL (want ++ nothing)) 28 31 = 0x43 := by rw [known_code]; decide +kernel
end Go.Proofs.YtfjoflpidmjkbaaDoor.Mac

namespace Go.Proofs.YtfjoflpidmjkbaaDoor.Law02
open Go Go.RowKit Go.Proofs.YtfjoflpidmjkbaaDoor.Aid Go.Proofs.YtfjoflpidmjkbaaDoor.Sha Go.Proofs.YtfjoflpidmjkbaaDoor.Law01 Go.Proofs.YtfjoflpidmjkbaaDoor.Mac

/-- A literal's bytes in a new block. -/
theorem slice_lit (w : World) (C : Array Value) (fr : Nat × Nat) (l : List (BitVec 8)) (n g : Nat) (hg : g ≠ w.heap.size) (hC : C = (l.map fun x => Value.int .u8 (x.toNat : Int)).toArray) (hn : l.length = n) :
    SliceOf (w.alloc (.cells C 5 fr)) g n (bytesL l) (.slice (some ⟨w.heap.size, 0, none⟩) n n) := by
  have hc : ∀ j, (w.alloc (.cells C 5 fr)).cell? ⟨w.heap.size, j, none⟩ = C[j]? := fun j => cell_of_row _ _ j _ _ _ (heap_alloc_new w _)
  refine ⟨_, _, rfl, Nat.le_refl _, fun _ => ⟨w.heap.size, 0, rfl, fun e => hg e.symm, fun j hj => ?_⟩⟩
  rw [Nat.zero_add, hc, hC]
  unfold bytesL
  have : j < l.length := by omega
  simp [this]
theorem parts_two (w : World) (m : Nat → Nat) (e : Nat → Nat → BitVec 8) (v0 v1 : Value) (h0 : SliceOf w w.heap.size (m 0) (e 0) v0) (h1 : SliceOf w w.heap.size (m 1) (e 1) v1) :
    PartsOf (w.alloc (.cells #[v0, v1] 25)) 2 m e (.slice (some ⟨w.heap.size, 0, none⟩) 2 2) := by
  have hb : Below w.heap.size w (w.alloc (.cells #[v0, v1] 25)) := (Below.refl _ _).alloc (by simp) _
  have hc : ∀ j, (w.alloc (.cells #[v0, v1] 25)).cell? ⟨w.heap.size, j, none⟩ = (#[v0, v1] : Array Value)[j]? := fun j => cell_of_row _ _ j _ _ _ (heap_alloc_new w _)
  refine ⟨_, 2, rfl, fun _ => ⟨w.heap.size, 0, rfl, fun i hi => ?_⟩⟩
  rw [Nat.zero_add]
  match i, hi with
  | 0, _ => exact ⟨v0, by rw [hc]; rfl, slice_any (slice_below h0 hb) (Nat.le_refl _)⟩
  | 1, _ => exact ⟨v1, by rw [hc]; rfl, slice_any (slice_below h1 hb) (Nat.le_refl _)⟩
theorem alloc_below (w : World) (o : Obj) : Below w.heap.size w (w.alloc o) := (Below.refl _ _).alloc (by simp) _
end Go.Proofs.YtfjoflpidmjkbaaDoor.Law02
