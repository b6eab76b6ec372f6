/-
  The block that the laws of layer 3 ask first: FIPS 197's appendix C.1, round by round.
-/
import Derived.Test.YtcdgdoeegehjhaaAesPlain
namespace Go.Proofs.Ytcdgdoeegehjhaa.Aes
open Go

def listB (l : List (BitVec 8)) (i : Nat) : BitVec 8 := l.getD i 0
def key0 : List (BitVec 8) := [0, 1, 2, 3, 4, 5, 6, 7, 8, 9, 10, 11, 12, 13, 14, 15]
def block0 : List (BitVec 8) := [0, 17, 34, 51, 68, 85, 102, 119, 136, 153, 170, 187, 204, 221, 238, 255]
def rkL : List (List (BitVec 8)) := [[0, 1, 2, 3, 4, 5, 6, 7, 8, 9, 10, 11, 12, 13, 14, 15],
  [214, 170, 116, 253, 210, 175, 114, 250, 218, 166, 120, 241, 214, 171, 118, 254],
  [182, 146, 207, 11, 100, 61, 189, 241, 190, 155, 197, 0, 104, 48, 179, 254],
  [182, 255, 116, 78, 210, 194, 201, 191, 108, 89, 12, 191, 4, 105, 191, 65],
  [71, 247, 247, 188, 149, 53, 62, 3, 249, 108, 50, 188, 253, 5, 141, 253],
  [60, 170, 163, 232, 169, 159, 157, 235, 80, 243, 175, 87, 173, 246, 34, 170],
  [94, 57, 15, 125, 247, 166, 146, 150, 167, 85, 61, 193, 10, 163, 31, 107],
  [20, 249, 112, 26, 227, 95, 226, 140, 68, 10, 223, 77, 78, 169, 192, 38],
  [71, 67, 135, 53, 164, 28, 101, 185, 224, 22, 186, 244, 174, 191, 122, 210],
  [84, 153, 50, 209, 240, 133, 87, 104, 16, 147, 237, 156, 190, 44, 151, 78],
  [19, 17, 29, 127, 227, 148, 74, 23, 243, 7, 167, 139, 77, 43, 48, 197]]
def encL : List (List (BitVec 8)) := [[0, 16, 32, 48, 64, 80, 96, 112, 128, 144, 160, 176, 192, 208, 224, 240],
  [137, 216, 16, 232, 133, 90, 206, 104, 45, 24, 67, 216, 203, 18, 143, 228],
  [73, 21, 89, 143, 85, 229, 215, 160, 218, 202, 148, 250, 31, 10, 99, 247],
  [250, 99, 106, 40, 37, 179, 57, 201, 64, 102, 138, 49, 87, 36, 77, 23],
  [36, 114, 64, 35, 105, 102, 179, 250, 110, 210, 117, 50, 136, 66, 91, 108],
  [200, 22, 119, 188, 155, 122, 201, 59, 37, 2, 121, 146, 176, 38, 25, 150],
  [198, 47, 225, 9, 247, 94, 237, 195, 204, 121, 57, 93, 132, 249, 207, 93],
  [209, 135, 108, 15, 121, 196, 48, 10, 180, 85, 148, 173, 214, 111, 244, 31],
  [253, 227, 186, 210, 5, 229, 208, 215, 53, 71, 150, 78, 241, 254, 55, 241],
  [189, 110, 124, 61, 242, 181, 119, 158, 11, 97, 33, 110, 139, 16, 182, 137],
  [105, 196, 224, 216, 106, 123, 4, 48, 216, 205, 183, 128, 112, 180, 197, 90]]
def rkAt (n : Nat) : Blk := listB (rkL.getD n [])
def encAt (n : Nat) : Blk := listB (encL.getD n [])
theorem rk_ok : ∀ n, n < 10 → ∀ i, i < 16 → nextKey (rkAt n) (xpow 1 n) i = rkAt (n + 1) i := by decide +kernel
theorem enc_ok : ∀ n, n < 10 → ∀ i, i < 16 → addKey (if n + 1 < 10 then mixCols (subShift (encAt n)) else subShift (encAt n)) (rkAt (n + 1)) i = encAt (n + 1) i := by decide +kernel
theorem rk_known : ∀ n, n ≤ 10 → Same16 (roundKey (listB key0) n) (rkAt n)
  | 0, _ => by intro i hi; rfl
  | n + 1, h => fun i hi => by
    rw [← rk_ok n (by omega) i hi]
    exact nextKey_congr (rk_known n (by omega)) _ i hi
theorem enc0_ok : ∀ i, i < 16 → addKey (listB block0) (rkAt 0) i = encAt 0 i := by decide +kernel
theorem enc_known : ∀ n, n ≤ 10 → Same16 (encTo (listB key0) (listB block0) n) (encAt n)
  | 0, _ => fun i hi => by rw [← enc0_ok i hi]; rfl
  | n + 1, h => fun i hi => by
    rw [← enc_ok n (by omega) i hi]
    refine addKey_congr ?_ (rk_known (n + 1) h) i hi
    by_cases h10 : n + 1 < 10
    · rw [if_pos h10, if_pos h10]; exact mixCols_congr (subShift_congr (enc_known n (by omega)))
    · rw [if_neg h10, if_neg h10]; exact subShift_congr (enc_known n (by omega))
theorem known_0 : enc (listB key0) (listB block0) 0 = 0x69 := (enc_known 10 (Nat.le_refl _) 0 (by omega)).trans (by decide +kernel)
theorem known_15 : enc (listB key0) (listB block0) 15 = 0x5a := (enc_known 10 (Nat.le_refl _) 15 (by omega)).trans (by decide +kernel)
theorem known_key : roundKey (listB key0) 10 15 = 0xc5 := (rk_known 10 (Nat.le_refl _) 15 (by omega)).trans (by decide +kernel)
theorem known_box : box 0 = 99 := by decide +kernel
theorem known_times : times 2 128 = 27 := by decide +kernel
end Go.Proofs.Ytcdgdoeegehjhaa.Aes
