/-
  Counters and the key stream as plain functions: what the document's chapter on ctr says, and the laws of P4.2. No program is named here.
  The block of zeros under the key of zeros, which the laws of layer 4 ask first, round by round; a counter at its end.
-/
import Derived.Test.YtfjoflpidmjkbaaDoorAesPlain
namespace Go.Proofs.YtfjoflpidmjkbaaDoor.Ctr
open Go Go.Proofs.YtfjoflpidmjkbaaDoor.Aes

/-- The number of the last k bytes of a counter. -/
def valTo (at_ : Blk) : Nat → Nat
  | 0 => 0
  | k + 1 => valTo at_ k + (at_ (15 - k)).toNat * 256 ^ k
def num (at_ : Blk) : Nat := valTo at_ 16
/-- The counter by more. -/
def nextB (at_ : Blk) (by_ : Nat) (i : Nat) : BitVec 8 := BitVec.ofNat 8 ((num at_ + by_) / 256 ^ (15 - i))
/-- What is carried to byte 15 - k and beyond. -/
def acc (at_ : Blk) (by_ k : Nat) : Nat := (valTo at_ k + by_) / 256 ^ k

theorem valTo_lt (at_ : Blk) : ∀ k, valTo at_ k < 256 ^ k
  | 0 => by simp [valTo]
  | k + 1 => by
    have h1 := valTo_lt at_ k
    have h2 := (at_ (15 - k)).isLt
    show valTo at_ k + (at_ (15 - k)).toNat * 256 ^ k < 256 ^ (k + 1)
    have h3 : (at_ (15 - k)).toNat * 256 ^ k ≤ 255 * 256 ^ k := Nat.mul_le_mul_right _ (by omega)
    rw [Nat.pow_succ]
    omega
/-- The last k bytes, and the rest. -/
theorem valTo_split (at_ : Blk) (k : Nat) : ∀ d, ∃ q, valTo at_ (k + d) = valTo at_ k + 256 ^ k * q
  | 0 => ⟨0, by simp⟩
  | d + 1 => by
    obtain ⟨q, hq⟩ := valTo_split at_ k d
    refine ⟨q + (at_ (15 - (k + d))).toNat * 256 ^ d, ?_⟩
    show valTo at_ (k + d) + _ * 256 ^ (k + d) = _
    rw [hq, Nat.mul_add, Nat.pow_add, Nat.add_assoc]
    congr 2
    rw [Nat.mul_left_comm]
    rfl
theorem acc_zero (at_ : Blk) (by_ : Nat) : acc at_ by_ 0 = by_ := by simp [acc, valTo]
theorem acc_succ (at_ : Blk) (by_ k : Nat) : acc at_ by_ (k + 1) = (acc at_ by_ k + (at_ (15 - k)).toNat) / 256 := by
  unfold acc
  show (valTo at_ k + (at_ (15 - k)).toNat * 256 ^ k + by_) / 256 ^ (k + 1) = _
  rw [Nat.pow_succ, ← Nat.div_div_eq_div_mul, show valTo at_ k + (at_ (15 - k)).toNat * 256 ^ k + by_ = valTo at_ k + by_ + 256 ^ k * (at_ (15 - k)).toNat by rw [Nat.mul_comm (256 ^ k)]; omega,
    Nat.add_mul_div_left _ _ (Nat.pow_pos (by omega))]
theorem nextB_acc (at_ : Blk) (by_ k : Nat) (hk : k < 16) : nextB at_ by_ (15 - k) = BitVec.ofNat 8 (acc at_ by_ k + (at_ (15 - k)).toNat) := by
  unfold nextB
  rw [show 15 - (15 - k) = k by omega]
  obtain ⟨q, hq⟩ := valTo_split at_ (k + 1) (15 - k)
  rw [show k + 1 + (15 - k) = 16 by omega] at hq
  unfold num
  rw [hq, show valTo at_ (k + 1) + 256 ^ (k + 1) * q + by_ = valTo at_ k + by_ + 256 ^ k * ((at_ (15 - k)).toNat + 256 * q) by
    show valTo at_ k + (at_ (15 - k)).toNat * 256 ^ k + 256 ^ (k + 1) * q + by_ = _
    rw [Nat.mul_add, Nat.pow_succ, Nat.mul_assoc, Nat.mul_comm (256 ^ k) (at_ (15 - k)).toNat]; omega, Nat.add_mul_div_left _ _ (Nat.pow_pos (by omega))]
  apply BitVec.eq_of_toNat_eq
  simp only [BitVec.toNat_ofNat]
  unfold acc
  omega

theorem valTo_nextB (at_ : Blk) (by_ : Nat) : ∀ k, k ≤ 16 → valTo (nextB at_ by_) k = (num at_ + by_) % 256 ^ k
  | 0, _ => by simp [valTo, Nat.mod_one]
  | k + 1, hk => by
    show valTo (nextB at_ by_) k + (nextB at_ by_ (15 - k)).toNat * 256 ^ k = _
    rw [valTo_nextB at_ by_ k (by omega)]
    unfold nextB
    have h := @Nat.mod_mul (256 ^ k) 256 (num at_ + by_)
    rw [← Nat.pow_succ] at h
    rw [show 15 - (15 - k) = k by omega, BitVec.toNat_ofNat, h, Nat.mul_comm (256 ^ k)]
theorem num_nextB (at_ : Blk) (by_ : Nat) : num (nextB at_ by_) = (num at_ + by_) % 256 ^ 16 := valTo_nextB at_ by_ 16 (Nat.le_refl _)
/-- Counters add up. -/
theorem nextB_nextB (at_ : Blk) (m n i : Nat) : nextB (nextB at_ m) n i = nextB at_ (m + n) i := by
  show BitVec.ofNat 8 ((num (nextB at_ m) + n) / 256 ^ (15 - i)) = BitVec.ofNat 8 ((num at_ + (m + n)) / 256 ^ (15 - i))
  rw [num_nextB]
  apply BitVec.eq_of_toNat_eq
  simp only [BitVec.toNat_ofNat]
  have hd := Nat.div_add_mod (num at_ + m) (256 ^ 16)
  generalize (num at_ + m) / 256 ^ 16 = q at hd
  generalize (num at_ + m) % 256 ^ 16 = r at hd
  rw [show num at_ + (m + n) = r + n + 256 ^ 16 * q by omega]
  obtain ⟨d, hd15, he⟩ : ∃ d, d ≤ 15 ∧ 15 - i = d := ⟨15 - i, by omega, rfl⟩
  rw [he, show (256 : Nat) ^ 16 * q = 256 ^ d * (256 ^ (15 - d) * 256 * q) by rw [← Nat.pow_succ, ← Nat.mul_assoc, ← Nat.pow_add, show d + (15 - d).succ = 16 by omega], Nat.add_mul_div_left _ _ (Nat.pow_pos (by omega)),
    show 256 ^ (15 - d) * 256 * q = 256 * (256 ^ (15 - d) * q) by rw [Nat.mul_comm (256 ^ (15 - d)) 256, Nat.mul_assoc]]
  omega
theorem valTo_congr {x y : Blk} (h : Same16 x y) : ∀ k, k ≤ 16 → valTo x k = valTo y k
  | 0, _ => rfl
  | k + 1, hk => by
    show valTo x k + (x (15 - k)).toNat * _ = valTo y k + (y (15 - k)).toNat * _
    rw [valTo_congr h k (by omega), h (15 - k) (by omega)]
theorem nextB_congr {x y : Blk} (h : Same16 x y) (n i : Nat) : nextB x n i = nextB y n i := by
  unfold nextB num
  rw [valTo_congr h 16 (Nat.le_refl _)]

/-- Byte j of the key stream. -/
def stream (key at_ : Blk) (j : Nat) : BitVec 8 := enc key (nextB at_ (j / 16)) (j % 16)
def flipB (key at_ e : Nat → BitVec 8) (j : Nat) : BitVec 8 := e j ^^^ stream key at_ j
theorem flip_flip (key at_ e : Nat → BitVec 8) (j : Nat) : flipB key at_ (flipB key at_ e) j = e j := by
  unfold flipB
  rw [BitVec.xor_assoc, BitVec.xor_self, BitVec.xor_zero]
theorem stream_part (key at_ : Blk) (n j : Nat) : stream key (nextB at_ n) j = stream key at_ (16 * n + j) := by
  unfold stream
  rw [show (16 * n + j) / 16 = n + j / 16 by omega, show (16 * n + j) % 16 = j % 16 by omega]
  rw [show nextB (nextB at_ n) (j / 16) = nextB at_ (n + j / 16) from funext fun i => nextB_nextB at_ n (j / 16) i]
/-- A part from a block on, by its own counter. -/
theorem flip_part (key at_ e : Nat → BitVec 8) (n j : Nat) : flipB key (nextB at_ n) (fun i => e (16 * n + i)) j = flipB key at_ e (16 * n + j) := by
  unfold flipB
  rw [stream_part]
/-- What two flips part in is what the bytes part in. -/
theorem flip_turn (key at_ e f : Nat → BitVec 8) (j : Nat) : flipB key at_ e j ^^^ flipB key at_ f j = e j ^^^ f j := by
  unfold flipB
  have : e j ^^^ stream key at_ j ^^^ (f j ^^^ stream key at_ j) = e j ^^^ f j ^^^ (stream key at_ j ^^^ stream key at_ j) := by ac_rfl
  rw [this, BitVec.xor_self, BitVec.xor_zero]
end Go.Proofs.YtfjoflpidmjkbaaDoor.Ctr

namespace Go.Proofs.YtfjoflpidmjkbaaDoor.Ctr
open Go Go.Proofs.YtfjoflpidmjkbaaDoor.Aes

def zk : Blk := fun _ => 0
def zrL : List (List (BitVec 8)) := [[0, 0, 0, 0, 0, 0, 0, 0, 0, 0, 0, 0, 0, 0, 0, 0],
  [98, 99, 99, 99, 98, 99, 99, 99, 98, 99, 99, 99, 98, 99, 99, 99],
  [155, 152, 152, 201, 249, 251, 251, 170, 155, 152, 152, 201, 249, 251, 251, 170],
  [144, 151, 52, 80, 105, 108, 207, 250, 242, 244, 87, 51, 11, 15, 172, 153],
  [238, 6, 218, 123, 135, 106, 21, 129, 117, 158, 66, 178, 126, 145, 238, 43],
  [127, 46, 43, 136, 248, 68, 62, 9, 141, 218, 124, 187, 243, 75, 146, 144],
  [236, 97, 75, 133, 20, 37, 117, 140, 153, 255, 9, 55, 106, 180, 155, 167],
  [33, 117, 23, 135, 53, 80, 98, 11, 172, 175, 107, 60, 198, 27, 240, 155],
  [14, 249, 3, 51, 59, 169, 97, 56, 151, 6, 10, 4, 81, 29, 250, 159],
  [177, 212, 216, 226, 138, 125, 185, 218, 29, 123, 179, 222, 76, 102, 73, 65],
  [180, 239, 91, 203, 62, 146, 226, 17, 35, 233, 81, 207, 111, 143, 24, 142]]
def zeL : List (List (BitVec 8)) := [[0, 0, 0, 0, 0, 0, 0, 0, 0, 0, 0, 0, 0, 0, 0, 0],
  [1, 0, 0, 0, 1, 0, 0, 0, 1, 0, 0, 0, 1, 0, 0, 0],
  [198, 228, 228, 139, 164, 135, 135, 232, 198, 228, 228, 139, 164, 135, 135, 232],
  [40, 45, 243, 196, 106, 243, 134, 37, 74, 78, 144, 167, 8, 144, 229, 70],
  [171, 210, 205, 254, 55, 90, 181, 73, 80, 160, 175, 192, 117, 154, 106, 95],
  [212, 111, 79, 108, 85, 184, 150, 51, 126, 5, 187, 61, 121, 121, 222, 35],
  [4, 242, 202, 151, 7, 120, 40, 69, 226, 47, 1, 150, 73, 197, 215, 16],
  [183, 170, 228, 197, 29, 37, 45, 79, 108, 146, 15, 129, 148, 229, 129, 80],
  [35, 231, 140, 60, 19, 33, 99, 219, 170, 192, 198, 87, 46, 3, 203, 149],
  [127, 254, 14, 149, 81, 165, 102, 53, 14, 52, 124, 71, 41, 41, 236, 203],
  [102, 233, 75, 212, 239, 138, 44, 59, 136, 76, 250, 89, 202, 52, 43, 46]]
def zrAt (n : Nat) : Blk := listB (zrL.getD n [])
def zeAt (n : Nat) : Blk := listB (zeL.getD n [])
theorem zr_ok : ∀ n, n < 10 → ∀ i, i < 16 → nextKey (zrAt n) (xpow 1 n) i = zrAt (n + 1) i := by decide +kernel
theorem ze_ok : ∀ n, n < 10 → ∀ i, i < 16 → addKey (if n + 1 < 10 then mixCols (subShift (zeAt n)) else subShift (zeAt n)) (zrAt (n + 1)) i = zeAt (n + 1) i := by decide +kernel
theorem zr_zero : ∀ i, i < 16 → zk i = zrAt 0 i := by decide +kernel
theorem zr_known : ∀ n, n ≤ 10 → Same16 (roundKey zk n) (zrAt n)
  | 0, _ => zr_zero
  | n + 1, h => fun i hi => by
    rw [← zr_ok n (by omega) i hi]
    exact nextKey_congr (zr_known n (by omega)) _ i hi
theorem ze0_ok : ∀ i, i < 16 → addKey zk (zrAt 0) i = zeAt 0 i := by decide +kernel
theorem ze_known : ∀ n, n ≤ 10 → Same16 (encTo zk zk n) (zeAt n)
  | 0, _ => fun i hi => by
    rw [← ze0_ok i hi]
    exact addKey_congr (fun _ _ => rfl) zr_zero i hi
  | n + 1, h => fun i hi => by
    rw [← ze_ok n (by omega) i hi]
    refine addKey_congr ?_ (zr_known (n + 1) h) i hi
    by_cases h10 : n + 1 < 10
    · rw [if_pos h10, if_pos h10]; exact mixCols_congr (subShift_congr (ze_known n (by omega)))
    · rw [if_neg h10, if_neg h10]; exact subShift_congr (ze_known n (by omega))
theorem zero_num : num zk = 0 := by decide +kernel
theorem next_zero (i : Nat) : nextB zk 0 i = 0 := by
  unfold nextB
  rw [zero_num]
  simp
theorem next_zk : nextB zk 0 = zk := funext next_zero
theorem zero_0 : flipB zk zk zk 0 = 102 := by
  unfold flipB stream
  rw [show 0 / 16 = 0 from rfl, show 0 % 16 = 0 from rfl, next_zk]
  show 0 ^^^ encTo zk zk 10 0 = _
  rw [ze_known 10 (Nat.le_refl _) 0 (by omega)]
  decide +kernel
theorem zero_1 : flipB zk zk zk 1 = 233 := by
  unfold flipB stream
  rw [show 1 / 16 = 0 from rfl, show 1 % 16 = 1 from rfl, next_zk]
  show 0 ^^^ encTo zk zk 10 1 = _
  rw [ze_known 10 (Nat.le_refl _) 1 (by omega)]
  decide +kernel
/-- A counter at its end. -/
theorem full_num : num (fun _ => 255) = 256 ^ 16 - 1 := by decide +kernel
theorem full_next : ∀ i, i < 16 → nextB (fun _ => 255) 1 i = 0 := by
  intro i hi
  unfold nextB
  rw [full_num, show 256 ^ 16 - 1 + 1 = 256 ^ (15 - i) * 256 ^ (i + 1) by rw [← Nat.pow_add, show 15 - i + (i + 1) = 16 by omega], Nat.mul_div_cancel_left _ (Nat.pow_pos (by omega)), Nat.pow_succ]
  apply BitVec.eq_of_toNat_eq
  simp
end Go.Proofs.YtfjoflpidmjkbaaDoor.Ctr
