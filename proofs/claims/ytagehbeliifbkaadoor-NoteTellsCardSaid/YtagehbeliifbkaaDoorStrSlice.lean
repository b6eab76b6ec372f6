/-
  '[]byte(s)' of any text: its bytes in a new block; the text that the bytes of a text are.
-/
import Derived.Test.YtagehbeliifbkaaDoorOwn
import Derived.Test.YtagehbeliifbkaaDoorStrBytes
import Derived.Lib.ConvBytes
import Derived.OwnWalk
namespace Go.Proofs.YtagehbeliifbkaaDoor.Aid
open Go Go.RowKit

def strB (s : ByteArray) (j : Nat) : BitVec 8 := BitVec.ofNat 8 (s.data.toList.getD j 0).toNat
theorem strB_cell (s : ByteArray) (j : Nat) : Value.int .u8 ((s.data.toList.getD j 0).toNat : Int) = Value.int .u8 ((strB s j).toNat : Int) := by
  unfold strB
  rw [BitVec.toNat_ofNat, Nat.mod_eq_of_lt (UInt8.toNat_lt _)]
theorem strB_below (w : World) (s : ByteArray) : Below w.heap.size w (Lib.bytesWorld w 5 s) :=
  ⟨rfl, rfl, rfl, by rw [Lib.bytesWorld_size]; omega, fun k hk => Lib.bytesWorld_at_old w _ s k hk⟩
theorem grownCap_str (w : World) (s : ByteArray) (n : Nat) (hn : n = grownCap w s.size 0 5) : s.size ≤ n := by
  subst hn
  exact grownCap_ge w s.size 0 5
theorem strB_slice (w : World) (s : ByteArray) (g : Nat) (hg : g ≠ w.heap.size) : SliceOf (Lib.bytesWorld w 5 s) g s.size (strB s) (.slice (some ⟨w.heap.size, 0, none⟩) s.size (grownCap w s.size 0 5)) :=
  ⟨_, _, rfl, grownCap_str w s _ rfl, fun _ => ⟨w.heap.size, 0, rfl, fun e => hg e.symm, fun j hj => by rw [Nat.zero_add, Lib.bytesWorld_cell w _ s j hj, strB_cell]⟩⟩
theorem strB_strOf (E : Nat → BitVec 8) (n j : Nat) (h : j < n) : strB (strOf E n) j = E j := by
  unfold strB strOf
  simp [List.getD_eq_getElem?_getD, h]
theorem str_ext {s t : ByteArray} (h1 : s.size = t.size) (h2 : ∀ j, j < s.size → strB s j = strB t j) : s = t := by
  obtain ⟨a⟩ := s
  obtain ⟨b⟩ := t
  have hl : a.size = b.size := h1
  congr 1
  refine Array.ext hl (fun i hi hj => ?_)
  have h := h2 i hi
  unfold strB at h
  rw [List.getD_eq_getElem?_getD, List.getD_eq_getElem?_getD, List.getElem?_eq_getElem (by simpa using hi), List.getElem?_eq_getElem (by simpa using hj)] at h
  simp only [Option.getD_some, Array.getElem_toList] at h
  have h' := congrArg BitVec.toNat h
  rw [BitVec.toNat_ofNat, BitVec.toNat_ofNat, Nat.mod_eq_of_lt (UInt8.toNat_lt _), Nat.mod_eq_of_lt (UInt8.toNat_lt _)] at h'
  exact UInt8.toNat_inj.1 h'
end Go.Proofs.YtagehbeliifbkaaDoor.Aid
