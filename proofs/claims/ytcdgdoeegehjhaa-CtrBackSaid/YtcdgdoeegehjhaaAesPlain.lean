/-
  AES-128 as plain functions over bytes: what the document's chapter on aes says, and that unlike blocks stay unlike (P3.3). No program is named here.
-/
import Derived.Test.YtcdgdoeegehjhaaAesField
namespace Go.Proofs.Ytcdgdoeegehjhaa.Aes
open Go

abbrev Blk := Nat → BitVec 8
/-- The first column of the next round key. -/
def keyFirst (was : Blk) (p : BitVec 8) (r : Nat) : BitVec 8 := was r ^^^ box (was (12 + (r + 1) % 4)) ^^^ (if r = 0 then p else 0)
def keyCol (was : Blk) (p : BitVec 8) : Nat → Nat → BitVec 8
  | 0, r => keyFirst was p r
  | c + 1, r => was (4 * (c + 1) + r) ^^^ keyCol was p c r
def nextKey (was : Blk) (p : BitVec 8) (i : Nat) : BitVec 8 := keyCol was p (i / 4) (i % 4)
/-- Round key n. -/
def roundKey (key : Blk) : Nat → Blk
  | 0 => key
  | n + 1 => nextKey (roundKey key n) (xpow 1 n)
def addKey (b k : Blk) (i : Nat) : BitVec 8 := b i ^^^ k i
def subShift (b : Blk) (i : Nat) : BitVec 8 := box (b (4 * ((i / 4 + i % 4) % 4) + i % 4))
def mixCols (t : Blk) (i : Nat) : BitVec 8 :=
  times 2 (t (4 * (i / 4) + i % 4)) ^^^ times 3 (t (4 * (i / 4) + (i % 4 + 1) % 4)) ^^^ t (4 * (i / 4) + (i % 4 + 2) % 4) ^^^ t (4 * (i / 4) + (i % 4 + 3) % 4)
/-- The block behind n rounds. -/
def encTo (key block : Blk) : Nat → Blk
  | 0 => addKey block (roundKey key 0)
  | n + 1 => addKey (if n + 1 < 10 then mixCols (subShift (encTo key block n)) else subShift (encTo key block n)) (roundKey key (n + 1))
def enc (key block : Blk) : Blk := encTo key block 10

/-! The same at all sixteen places. -/
def Same16 (x y : Blk) : Prop := ∀ i, i < 16 → x i = y i
theorem addKey_inj {x y k : Blk} (h : Same16 (addKey x k) (addKey y k)) : Same16 x y := fun i hi => by
  have h1 : x i ^^^ k i = y i ^^^ k i := h i hi
  have h2 : x i ^^^ k i ^^^ k i = y i ^^^ k i ^^^ k i := by rw [h1]
  rw [BitVec.xor_assoc, BitVec.xor_assoc, BitVec.xor_self, BitVec.xor_zero, BitVec.xor_zero] at h2
  exact h2
theorem subShift_inj {x y : Blk} (h : Same16 (subShift x) (subShift y)) : Same16 x y := fun i hi => by
  have h1 := h (4 * ((i / 4 + 4 - i % 4) % 4) + i % 4) (by omega)
  unfold subShift at h1
  have e : 4 * (((4 * ((i / 4 + 4 - i % 4) % 4) + i % 4) / 4 + (4 * ((i / 4 + 4 - i % 4) % 4) + i % 4) % 4) % 4) + (4 * ((i / 4 + 4 - i % 4) % 4) + i % 4) % 4 = i := by omega
  rw [e] at h1
  exact box_inj h1
theorem un_a : ∀ a : BitVec 8, times 14 (times 2 a) ^^^ times 11 a ^^^ times 13 a ^^^ times 9 (times 3 a) = a := by decide +kernel
theorem un_b : ∀ b : BitVec 8, times 14 (times 3 b) ^^^ times 11 (times 2 b) ^^^ times 13 b ^^^ times 9 b = 0 := by decide +kernel
theorem un_c : ∀ c : BitVec 8, times 14 c ^^^ times 11 (times 3 c) ^^^ times 13 (times 2 c) ^^^ times 9 c = 0 := by decide +kernel
theorem un_d : ∀ d : BitVec 8, times 14 d ^^^ times 11 d ^^^ times 13 (times 3 d) ^^^ times 9 (times 2 d) = 0 := by decide +kernel
theorem unmix (a b c d : BitVec 8) : times 14 (times 2 a ^^^ times 3 b ^^^ c ^^^ d) ^^^ times 11 (times 2 b ^^^ times 3 c ^^^ d ^^^ a) ^^^ times 13 (times 2 c ^^^ times 3 d ^^^ a ^^^ b) ^^^ times 9 (times 2 d ^^^ times 3 a ^^^ b ^^^ c) = a := by
  have h : times 14 (times 2 a ^^^ times 3 b ^^^ c ^^^ d) ^^^ times 11 (times 2 b ^^^ times 3 c ^^^ d ^^^ a) ^^^ times 13 (times 2 c ^^^ times 3 d ^^^ a ^^^ b) ^^^ times 9 (times 2 d ^^^ times 3 a ^^^ b ^^^ c) =
      (times 14 (times 2 a) ^^^ times 11 a ^^^ times 13 a ^^^ times 9 (times 3 a)) ^^^ (times 14 (times 3 b) ^^^ times 11 (times 2 b) ^^^ times 13 b ^^^ times 9 b) ^^^ (times 14 c ^^^ times 11 (times 3 c) ^^^ times 13 (times 2 c) ^^^ times 9 c) ^^^ (times 14 d ^^^ times 11 d ^^^ times 13 (times 3 d) ^^^ times 9 (times 2 d)) := by
    simp only [times_add_right]
    ac_rfl
  rw [h, un_a, un_b, un_c, un_d]
  simp
theorem mixCols_inj {x y : Blk} (h : Same16 (mixCols x) (mixCols y)) : Same16 x y := fun i hi => by
  have key : ∀ t : Blk, times 14 (mixCols t (4 * (i / 4) + i % 4)) ^^^ times 11 (mixCols t (4 * (i / 4) + (i % 4 + 1) % 4)) ^^^ times 13 (mixCols t (4 * (i / 4) + (i % 4 + 2) % 4)) ^^^ times 9 (mixCols t (4 * (i / 4) + (i % 4 + 3) % 4)) = t i := fun t => by
    have e : ∀ k, k < 4 → mixCols t (4 * (i / 4) + (i % 4 + k) % 4) = times 2 (t (4 * (i / 4) + (i % 4 + k) % 4)) ^^^ times 3 (t (4 * (i / 4) + (i % 4 + (k + 1)) % 4)) ^^^ t (4 * (i / 4) + (i % 4 + (k + 2)) % 4) ^^^ t (4 * (i / 4) + (i % 4 + (k + 3)) % 4) := fun k hk => by
      unfold mixCols
      have e1 : (4 * (i / 4) + (i % 4 + k) % 4) / 4 = i / 4 := by omega
      have e2 : (4 * (i / 4) + (i % 4 + k) % 4) % 4 = (i % 4 + k) % 4 := by omega
      rw [e1, e2, show ((i % 4 + k) % 4 + 1) % 4 = (i % 4 + (k + 1)) % 4 by omega, show ((i % 4 + k) % 4 + 2) % 4 = (i % 4 + (k + 2)) % 4 by omega, show ((i % 4 + k) % 4 + 3) % 4 = (i % 4 + (k + 3)) % 4 by omega]
    have e0 := e 0 (by omega)
    rw [show 4 * (i / 4) + (i % 4 + 0) % 4 = 4 * (i / 4) + i % 4 by omega] at e0
    rw [e0, e 1 (by omega), e 2 (by omega), e 3 (by omega)]
    simp only [Nat.zero_add, Nat.reduceAdd]
    rw [show (i % 4 + 4) % 4 = i % 4 by omega, show (i % 4 + 5) % 4 = (i % 4 + 1) % 4 by omega, show (i % 4 + 6) % 4 = (i % 4 + 2) % 4 by omega, unmix, show 4 * (i / 4) + i % 4 = i by omega]
  rw [← key x, ← key y, h _ (by omega), h _ (by omega), h _ (by omega), h _ (by omega)]
theorem encTo_inj (key b b' : Blk) : ∀ n, Same16 (encTo key b n) (encTo key b' n) → Same16 b b'
  | 0, h => addKey_inj h
  | n + 1, h => by
    have h1 := addKey_inj h
    refine encTo_inj key b b' n ?_
    by_cases h10 : n + 1 < 10
    · rw [if_pos h10, if_pos h10] at h1
      exact subShift_inj (mixCols_inj h1)
    · rw [if_neg h10, if_neg h10] at h1
      exact subShift_inj h1
theorem enc_inj (key b b' : Blk) (h : Same16 (enc key b) (enc key b')) : Same16 b b' := encTo_inj key b b' 10 h

/-! What a block's bytes beyond the sixteenth are does not matter. -/
theorem subShift_congr {x y : Blk} (h : Same16 x y) : Same16 (subShift x) (subShift y) := fun i hi => by unfold subShift; rw [h _ (by omega)]
theorem mixCols_congr {x y : Blk} (h : Same16 x y) : Same16 (mixCols x) (mixCols y) := fun i hi => by
  unfold mixCols
  rw [h _ (by omega), h (4 * (i / 4) + (i % 4 + 1) % 4) (by omega), h (4 * (i / 4) + (i % 4 + 2) % 4) (by omega), h (4 * (i / 4) + (i % 4 + 3) % 4) (by omega)]
theorem addKey_congr {x y k k' : Blk} (h : Same16 x y) (hk : Same16 k k') : Same16 (addKey x k) (addKey y k') := fun i hi => by unfold addKey; rw [h i hi, hk i hi]
theorem keyCol_congr {x y : Blk} (h : Same16 x y) (p : BitVec 8) : ∀ c r, c < 4 → r < 4 → keyCol x p c r = keyCol y p c r
  | 0, r, _, hr => by show keyFirst x p r = keyFirst y p r; unfold keyFirst; rw [h r (by omega), h _ (by omega)]
  | c + 1, r, hc, hr => by
    show x _ ^^^ keyCol x p c r = y _ ^^^ keyCol y p c r
    rw [h _ (by omega), keyCol_congr h p c r (by omega) hr]
theorem nextKey_congr {x y : Blk} (h : Same16 x y) (p : BitVec 8) : Same16 (nextKey x p) (nextKey y p) := fun i hi => keyCol_congr h p _ _ (by omega) (by omega)
theorem roundKey_congr {x y : Blk} (h : Same16 x y) : ∀ n, Same16 (roundKey x n) (roundKey y n)
  | 0 => h
  | n + 1 => nextKey_congr (roundKey_congr h n) _
theorem encTo_congr {k k' b b' : Blk} (hk : Same16 k k') (hb : Same16 b b') : ∀ n, Same16 (encTo k b n) (encTo k' b' n)
  | 0 => addKey_congr hb (roundKey_congr hk 0)
  | n + 1 => by
    refine addKey_congr ?_ (roundKey_congr hk (n + 1))
    by_cases h10 : n + 1 < 10
    · rw [if_pos h10, if_pos h10]; exact mixCols_congr (subShift_congr (encTo_congr hk hb n))
    · rw [if_neg h10, if_neg h10]; exact subShift_congr (encTo_congr hk hb n)
theorem enc_congr {k k' b b' : Blk} (hk : Same16 k k') (hb : Same16 b b') : Same16 (enc k b) (enc k' b') := encTo_congr hk hb 10

/-! Steps of the program's arithmetic. -/
theorem times_two : ∀ a : BitVec 8, times a 2 = xtime a := by decide +kernel
theorem two_times (a : BitVec 8) : times 2 a = xtime a := by rw [times_comm, times_two]
theorem three_times (a : BitVec 8) : times 3 a = xtime a ^^^ a := by
  rw [show (3 : BitVec 8) = 2 ^^^ 1 from rfl, times_add_left, two_times, times_one]
end Go.Proofs.Ytcdgdoeegehjhaa.Aes
