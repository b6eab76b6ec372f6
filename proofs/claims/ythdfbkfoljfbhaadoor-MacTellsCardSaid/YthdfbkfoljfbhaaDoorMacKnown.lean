/-
  The code that the laws of layer 2 ask first: RFC 4231's second.
-/
import Derived.Test.YthdfbkfoljfbhaaDoorMacExpand
namespace Go.Proofs.YthdfbkfoljfbhaaDoor.Mac
open Go Go.Proofs.YthdfbkfoljfbhaaDoor.Aid Go.Proofs.YthdfbkfoljfbhaaDoor.Sha Go.Proofs.YthdfbkfoljfbhaaDoor.Law01

def bytesL (l : List (BitVec 8)) (i : Nat) : BitVec 8 := l.getD i 0
def jefe : List (BitVec 8) := [74, 101, 102, 101]
def want : List (BitVec 8) := [119, 104, 97, 116, 32, 100, 111, 32, 121, 97, 32, 119, 97, 110, 116, 32]
def nothing : List (BitVec 8) := [102, 111, 114, 32, 110, 111, 116, 104, 105, 110, 103, 63]
def innerL : List (BitVec 8) := [162, 228, 133, 134, 61, 39, 249, 216, 100, 172, 141, 128, 36, 50, 161, 237, 71, 125, 140, 76, 111, 52, 157, 22, 212, 231, 233, 23, 198, 41, 202, 215]
theorem inner_at : ∀ j, j < 32 → inner (padKey (bytesL jefe) 4) (bytesL (want ++ nothing)) 28 j = bytesL innerL j := by decide +kernel
theorem known_code : code (bytesL jefe) 4 (bytesL (want ++ nothing)) 28 = digest (bytesL ((List.range 64).map (fun j => padKey (bytesL jefe) 4 j ^^^ 92) ++ innerL)) 96 := by
  unfold code codeP
  refine digest_congr _ _ _ (fun j hj => ?_)
  by_cases h : j < 64
  · rw [cat_lt _ _ _ _ h]
    unfold bytesL xorBy
    rw [List.getD_eq_getElem?_getD, List.getElem?_append_left (by simpa using h)]
    simp [h]
  · rw [cat_ge _ _ _ _ (by omega), inner_at (j - 64) (by omega)]
    unfold bytesL
    rw [List.getD_eq_getElem?_getD, List.getD_eq_getElem?_getD, List.getElem?_append_right (by simp; omega)]
    simp
theorem known_0 : code (bytesL jefe) 4 (bytesL (want ++ nothing)) 28 0 = 0x5b := by rw [known_code]; decide +kernel
theorem known_1 : code (bytesL jefe) 4 (bytesL (want ++ nothing)) 28 1 = 0xdc := by rw [known_code]; decide +kernel
theorem known_31 : code (bytesL jefe) 4 (bytesL (want ++ nothing)) 28 31 = 0x43 := by rw [known_code]; decide +kernel
end Go.Proofs.YthdfbkfoljfbhaaDoor.Mac
