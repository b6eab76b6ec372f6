/-
  'string(b)' of any slice of bytes.
-/
import Derived.Test.YtaakhldhmoaplaaDoorBd08
import Derived.Laws.IdiomStrings
import Derived.Lib.SlBytesConst
namespace Go.Proofs.YtaakhldhmoaplaaDoor.Aid
open Go Go.RowKit

/-- The text that these bytes are. -/
def strOf (E : Nat → BitVec 8) (n : Nat) : ByteArray := ⟨((List.range n).map fun j => UInt8.ofBitVec (E j)).toArray⟩
theorem size_strOf (E : Nat → BitVec 8) (n : Nat) : (strOf E n).size = n := by simp [strOf, ByteArray.size]
theorem str_run (A : Option Addr) (c n : Nat) (E : Nat → BitVec 8) (g : Nat) (w : World) (h : SliceOf w g n E (.slice A n c)) : (convert 28 9 (.slice A n c)).run Tryd.prog w = .ok (.string (strOf E n)) w := by
  obtain ⟨A', c', he, _, hr⟩ := h
  simp only [Value.slice.injEq, true_and] at he
  obtain ⟨rfl, rfl⟩ := he
  by_cases h0 : 0 < n
  · obtain ⟨sb, so, rfl, _, hc⟩ := hr h0
    have := run_convert_bytes_back (P := Tryd.prog) w 28 9 5 ⟨sb, so, none⟩ c ((List.range n).map fun j => UInt8.ofBitVec (E j)) Tryd.underlying28 Tryd.underlying5 Tryd.underlying9 (fun j hj => by
      have hj' : j < n := by simpa using hj
      rw [Addr.add_mid, hc j hj']
      simp)
    simpa [strOf] using this
  · obtain rfl : n = 0 := by omega
    cases A with
    | none =>
      rw [run_convert_bytes_string w 28 9 5 none 0 c Tryd.underlying28 Tryd.underlying5 Tryd.underlying9]
      simp [Conv.bytesToString, strOf]
      rfl
    | some x =>
      have := run_convert_bytes_back (P := Tryd.prog) w 28 9 5 x c [] Tryd.underlying28 Tryd.underlying5 Tryd.underlying9 (fun j hj => by simp at hj)
      simpa [strOf] using this
end Go.Proofs.YtaakhldhmoaplaaDoor.Aid
