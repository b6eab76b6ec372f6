/-
  The block of zeros under the key of zeros, which the laws of layer 4 ask first, round by round; a counter at its end.
-/
import Derived.Test.YtcdgdoeegehjhaaCtrPlain
import Derived.Test.YtcdgdoeegehjhaaAesKnown
namespace Go.Proofs.Ytcdgdoeegehjhaa.Ctr
open Go Go.Proofs.Ytcdgdoeegehjhaa.Aes

def zk : Blk := fun _ => 0
def zrL : List (List (BitVec 8)) := [[0, 0, 0, 0, 0, 0, 0, 0, 0, 0, 0, 0, 0, 0, 0, 0],
  [98, 99, 99, 99, 98, 99, 99, 99, 98, 99, 99, 99, 98, 99, 99, 99],
  [155, 152, 152, 201, 249, 251, 251, 170, 155, 152, 152, 201, 249, 251, 251, 170],
  [144, 151, 52, 80, 105, 108, 207, 250, 242, 244, 87, 51, 11, 15, 172, 153],
  [238, 6, 218, 123, 135, 106, 21, 129, 117, 158, 66, 178, 126, 145, 238, 43],
  [127, 46, 43, 136, 248, 68, 62, 9, 141, 218, 124, 187, 243, 75, 146, 144],
  [236, 97, 75, 133, 20, 37, 117, 140, 153, 255, 9, 55, 106, 180, 155, 167],
  [33, 117, 23, 135, 53, 80, 98, 11, 172, 175, 107, 60, 198, 27, 240, 155],
  [14, 249, 3, 51, 59, 169, 97, 56, 151, 6, 10, 4, 81, 29, 250, 159],
  [177, 212, 216, 226, 138, 125, 185, 218, 29, 123, 179, 222, 76, 102, 73, 65],
  [180, 239, 91, 203, 62, 146, 226, 17, 35, 233, 81, 207, 111, 143, 24, 142]]
def zeL : List (List (BitVec 8)) := [[0, 0, 0, 0, 0, 0, 0, 0, 0, 0, 0, 0, 0, 0, 0, 0],
  [1, 0, 0, 0, 1, 0, 0, 0, 1, 0, 0, 0, 1, 0, 0, 0],
  [198, 228, 228, 139, 164, 135, 135, 232, 198, 228, 228, 139, 164, 135, 135, 232],
  [40, 45, 243, 196, 106, 243, 134, 37, 74, 78, 144, 167, 8, 144, 229, 70],
  [171, 210, 205, 254, 55, 90, 181, 73, 80, 160, 175, 192, 117, 154, 106, 95],
  [212, 111, 79, 108, 85, 184, 150, 51, 126, 5, 187, 61, 121, 121, 222, 35],
  [4, 242, 202, 151, 7, 120, 40, 69, 226, 47, 1, 150, 73, 197, 215, 16],
  [183, 170, 228, 197, 29, 37, 45, 79, 108, 146, 15, 129, 148, 229, 129, 80],
  [35, 231, 140, 60, 19, 33, 99, 219, 170, 192, 198, 87, 46, 3, 203, 149],
  [127, 254, 14, 149, 81, 165, 102, 53, 14, 52, 124, 71, 41, 41, 236, 203],
  [102, 233, 75, 212, 239, 138, 44, 59, 136, 76, 250, 89, 202, 52, 43, 46]]
def zrAt (n : Nat) : Blk := listB (zrL.getD n [])
def zeAt (n : Nat) : Blk := listB (zeL.getD n [])
theorem zr_ok : ∀ n, n < 10 → ∀ i, i < 16 → nextKey (zrAt n) (xpow 1 n) i = zrAt (n + 1) i := by decide +kernel
theorem ze_ok : ∀ n, n < 10 → ∀ i, i < 16 → addKey (if n + 1 < 10 then mixCols (subShift (zeAt n)) else subShift (zeAt n)) (zrAt (n + 1)) i = zeAt (n + 1) i := by decide +kernel
theorem zr_zero : ∀ i, i < 16 → zk i = zrAt 0 i := by decide +kernel
theorem zr_known : ∀ n, n ≤ 10 → Same16 (roundKey zk n) (zrAt n)
  | 0, _ => zr_zero
  | n + 1, h => fun i hi => by
    rw [← zr_ok n (by omega) i hi]
    exact nextKey_congr (zr_known n (by omega)) _ i hi
theorem ze0_ok : ∀ i, i < 16 → addKey zk (zrAt 0) i = zeAt 0 i := by decide +kernel
theorem ze_known : ∀ n, n ≤ 10 → Same16 (encTo zk zk n) (zeAt n)
  | 0, _ => fun i hi => by
    rw [← ze0_ok i hi]
    exact addKey_congr (fun _ _ => rfl) zr_zero i hi
  | n + 1, h => fun i hi => by
    rw [← ze_ok n (by omega) i hi]
    refine addKey_congr ?_ (zr_known (n + 1) h) i hi
    by_cases h10 : n + 1 < 10
    · rw [if_pos h10, if_pos h10]; exact mixCols_congr (subShift_congr (ze_known n (by omega)))
    · rw [if_neg h10, if_neg h10]; exact subShift_congr (ze_known n (by omega))
theorem zero_num : num zk = 0 := by decide +kernel
theorem next_zero (i : Nat) : nextB zk 0 i = 0 := by
  unfold nextB
  rw [zero_num]
  simp
theorem next_zk : nextB zk 0 = zk := funext next_zero
theorem zero_0 : flipB zk zk zk 0 = 102 := by
  unfold flipB stream
  rw [show 0 / 16 = 0 from rfl, show 0 % 16 = 0 from rfl, next_zk]
  show 0 ^^^ encTo zk zk 10 0 = _
  rw [ze_known 10 (Nat.le_refl _) 0 (by omega)]
  decide +kernel
theorem zero_1 : flipB zk zk zk 1 = 233 := by
  unfold flipB stream
  rw [show 1 / 16 = 0 from rfl, show 1 % 16 = 1 from rfl, next_zk]
  show 0 ^^^ encTo zk zk 10 1 = _
  rw [ze_known 10 (Nat.le_refl _) 1 (by omega)]
  decide +kernel
/-- A counter at its end. -/
theorem full_num : num (fun _ => 255) = 256 ^ 16 - 1 := by decide +kernel
theorem full_next : ∀ i, i < 16 → nextB (fun _ => 255) 1 i = 0 := by
  intro i hi
  unfold nextB
  rw [full_num, show 256 ^ 16 - 1 + 1 = 256 ^ (15 - i) * 256 ^ (i + 1) by rw [← Nat.pow_add, show 15 - i + (i + 1) = 16 by omega], Nat.mul_div_cancel_left _ (Nat.pow_pos (by omega)), Nat.pow_succ]
  apply BitVec.eq_of_toNat_eq
  simp
end Go.Proofs.Ytcdgdoeegehjhaa.Ctr
