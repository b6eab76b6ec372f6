/-
  Counters and the key stream as plain functions: what the document's chapter on ctr says, and the laws of P4.2. No program is named here.
-/
import Derived.Test.YtcdgdoeegehjhaaAesPlain
namespace Go.Proofs.Ytcdgdoeegehjhaa.Ctr
open Go Go.Proofs.Ytcdgdoeegehjhaa.Aes

/-- The number of the last k bytes of a counter. -/
def valTo (at_ : Blk) : Nat → Nat
  | 0 => 0
  | k + 1 => valTo at_ k + (at_ (15 - k)).toNat * 256 ^ k
def num (at_ : Blk) : Nat := valTo at_ 16
/-- The counter by more. -/
def nextB (at_ : Blk) (by_ : Nat) (i : Nat) : BitVec 8 := BitVec.ofNat 8 ((num at_ + by_) / 256 ^ (15 - i))
/-- What is carried to byte 15 - k and beyond. -/
def acc (at_ : Blk) (by_ k : Nat) : Nat := (valTo at_ k + by_) / 256 ^ k

theorem valTo_lt (at_ : Blk) : ∀ k, valTo at_ k < 256 ^ k
  | 0 => by simp [valTo]
  | k + 1 => by
    have h1 := valTo_lt at_ k
    have h2 := (at_ (15 - k)).isLt
    show valTo at_ k + (at_ (15 - k)).toNat * 256 ^ k < 256 ^ (k + 1)
    have h3 : (at_ (15 - k)).toNat * 256 ^ k ≤ 255 * 256 ^ k := Nat.mul_le_mul_right _ (by omega)
    rw [Nat.pow_succ]
    omega
/-- The last k bytes, and the rest. -/
theorem valTo_split (at_ : Blk) (k : Nat) : ∀ d, ∃ q, valTo at_ (k + d) = valTo at_ k + 256 ^ k * q
  | 0 => ⟨0, by simp⟩
  | d + 1 => by
    obtain ⟨q, hq⟩ := valTo_split at_ k d
    refine ⟨q + (at_ (15 - (k + d))).toNat * 256 ^ d, ?_⟩
    show valTo at_ (k + d) + _ * 256 ^ (k + d) = _
    rw [hq, Nat.mul_add, Nat.pow_add, Nat.add_assoc]
    congr 2
    rw [Nat.mul_left_comm]
    rfl
theorem acc_zero (at_ : Blk) (by_ : Nat) : acc at_ by_ 0 = by_ := by simp [acc, valTo]
theorem acc_succ (at_ : Blk) (by_ k : Nat) : acc at_ by_ (k + 1) = (acc at_ by_ k + (at_ (15 - k)).toNat) / 256 := by
  unfold acc
  show (valTo at_ k + (at_ (15 - k)).toNat * 256 ^ k + by_) / 256 ^ (k + 1) = _
  rw [Nat.pow_succ, ← Nat.div_div_eq_div_mul, show valTo at_ k + (at_ (15 - k)).toNat * 256 ^ k + by_ = valTo at_ k + by_ + 256 ^ k * (at_ (15 - k)).toNat by rw [Nat.mul_comm (256 ^ k)]; omega,
    Nat.add_mul_div_left _ _ (Nat.pow_pos (by omega))]
theorem nextB_acc (at_ : Blk) (by_ k : Nat) (hk : k < 16) : nextB at_ by_ (15 - k) = BitVec.ofNat 8 (acc at_ by_ k + (at_ (15 - k)).toNat) := by
  unfold nextB
  rw [show 15 - (15 - k) = k by omega]
  obtain ⟨q, hq⟩ := valTo_split at_ (k + 1) (15 - k)
  rw [show k + 1 + (15 - k) = 16 by omega] at hq
  unfold num
  rw [hq, show valTo at_ (k + 1) + 256 ^ (k + 1) * q + by_ = valTo at_ k + by_ + 256 ^ k * ((at_ (15 - k)).toNat + 256 * q) by
    show valTo at_ k + (at_ (15 - k)).toNat * 256 ^ k + 256 ^ (k + 1) * q + by_ = _
    rw [Nat.mul_add, Nat.pow_succ, Nat.mul_assoc, Nat.mul_comm (256 ^ k) (at_ (15 - k)).toNat]; omega, Nat.add_mul_div_left _ _ (Nat.pow_pos (by omega))]
  apply BitVec.eq_of_toNat_eq
  simp only [BitVec.toNat_ofNat]
  unfold acc
  omega

theorem valTo_nextB (at_ : Blk) (by_ : Nat) : ∀ k, k ≤ 16 → valTo (nextB at_ by_) k = (num at_ + by_) % 256 ^ k
  | 0, _ => by simp [valTo, Nat.mod_one]
  | k + 1, hk => by
    show valTo (nextB at_ by_) k + (nextB at_ by_ (15 - k)).toNat * 256 ^ k = _
    rw [valTo_nextB at_ by_ k (by omega)]
    unfold nextB
    have h := @Nat.mod_mul (256 ^ k) 256 (num at_ + by_)
    rw [← Nat.pow_succ] at h
    rw [show 15 - (15 - k) = k by omega, BitVec.toNat_ofNat, h, Nat.mul_comm (256 ^ k)]
theorem num_nextB (at_ : Blk) (by_ : Nat) : num (nextB at_ by_) = (num at_ + by_) % 256 ^ 16 := valTo_nextB at_ by_ 16 (Nat.le_refl _)
/-- Counters add up. -/
theorem nextB_nextB (at_ : Blk) (m n i : Nat) : nextB (nextB at_ m) n i = nextB at_ (m + n) i := by
  show BitVec.ofNat 8 ((num (nextB at_ m) + n) / 256 ^ (15 - i)) = BitVec.ofNat 8 ((num at_ + (m + n)) / 256 ^ (15 - i))
  rw [num_nextB]
  apply BitVec.eq_of_toNat_eq
  simp only [BitVec.toNat_ofNat]
  have hd := Nat.div_add_mod (num at_ + m) (256 ^ 16)
  generalize (num at_ + m) / 256 ^ 16 = q at hd
  generalize (num at_ + m) % 256 ^ 16 = r at hd
  rw [show num at_ + (m + n) = r + n + 256 ^ 16 * q by omega]
  obtain ⟨d, hd15, he⟩ : ∃ d, d ≤ 15 ∧ 15 - i = d := ⟨15 - i, by omega, rfl⟩
  rw [he, show (256 : Nat) ^ 16 * q = 256 ^ d * (256 ^ (15 - d) * 256 * q) by rw [← Nat.pow_succ, ← Nat.mul_assoc, ← Nat.pow_add, show d + (15 - d).succ = 16 by omega], Nat.add_mul_div_left _ _ (Nat.pow_pos (by omega)),
    show 256 ^ (15 - d) * 256 * q = 256 * (256 ^ (15 - d) * q) by rw [Nat.mul_comm (256 ^ (15 - d)) 256, Nat.mul_assoc]]
  omega
theorem valTo_congr {x y : Blk} (h : Same16 x y) : ∀ k, k ≤ 16 → valTo x k = valTo y k
  | 0, _ => rfl
  | k + 1, hk => by
    show valTo x k + (x (15 - k)).toNat * _ = valTo y k + (y (15 - k)).toNat * _
    rw [valTo_congr h k (by omega), h (15 - k) (by omega)]
theorem nextB_congr {x y : Blk} (h : Same16 x y) (n i : Nat) : nextB x n i = nextB y n i := by
  unfold nextB num
  rw [valTo_congr h 16 (Nat.le_refl _)]

/-- Byte j of the key stream. -/
def stream (key at_ : Blk) (j : Nat) : BitVec 8 := enc key (nextB at_ (j / 16)) (j % 16)
def flipB (key at_ e : Nat → BitVec 8) (j : Nat) : BitVec 8 := e j ^^^ stream key at_ j
theorem flip_flip (key at_ e : Nat → BitVec 8) (j : Nat) : flipB key at_ (flipB key at_ e) j = e j := by
  unfold flipB
  rw [BitVec.xor_assoc, BitVec.xor_self, BitVec.xor_zero]
theorem stream_part (key at_ : Blk) (n j : Nat) : stream key (nextB at_ n) j = stream key at_ (16 * n + j) := by
  unfold stream
  rw [show (16 * n + j) / 16 = n + j / 16 by omega, show (16 * n + j) % 16 = j % 16 by omega]
  rw [show nextB (nextB at_ n) (j / 16) = nextB at_ (n + j / 16) from funext fun i => nextB_nextB at_ n (j / 16) i]
/-- A part from a block on, by its own counter. -/
theorem flip_part (key at_ e : Nat → BitVec 8) (n j : Nat) : flipB key (nextB at_ n) (fun i => e (16 * n + i)) j = flipB key at_ e (16 * n + j) := by
  unfold flipB
  rw [stream_part]
/-- What two flips part in is what the bytes part in. -/
theorem flip_turn (key at_ e f : Nat → BitVec 8) (j : Nat) : flipB key at_ e j ^^^ flipB key at_ f j = e j ^^^ f j := by
  unfold flipB
  have : e j ^^^ stream key at_ j ^^^ (f j ^^^ stream key at_ j) = e j ^^^ f j ^^^ (stream key at_ j ^^^ stream key at_ j) := by ac_rfl
  rw [this, BitVec.xor_self, BitVec.xor_zero]
end Go.Proofs.Ytcdgdoeegehjhaa.Ctr
