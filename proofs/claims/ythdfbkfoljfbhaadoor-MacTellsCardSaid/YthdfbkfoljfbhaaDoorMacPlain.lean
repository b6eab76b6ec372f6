/-
  HMAC and HKDF by SHA-256 as plain functions over bytes: what the document's chapter on mac says, and small facts. No program is named here.
-/
import Derived.Test.YthdfbkfoljfbhaaDoorShaSum
import Derived.Test.YthdfbkfoljfbhaaDoorOwn
namespace Go.Proofs.YthdfbkfoljfbhaaDoor.Mac
open Go Go.Proofs.YthdfbkfoljfbhaaDoor.Aid Go.Proofs.YthdfbkfoljfbhaaDoor.Sha

/-- A key of m bytes, filled up to 64; of a longer one its digest. -/
def padKey (K : Nat → BitVec 8) (m : Nat) (j : Nat) : BitVec 8 := if 64 < m then (if j < 32 then digest K m j else 0) else if j < m then K j else 0
def xorBy (P : Nat → BitVec 8) (x : BitVec 8) (j : Nat) : BitVec 8 := P j ^^^ x
def inner (P D : Nat → BitVec 8) (n : Nat) : Nat → BitVec 8 := digest (cat (xorBy P 54) 64 D) (64 + n)
/-- The code, by a key that is filled up. -/
def codeP (P D : Nat → BitVec 8) (n : Nat) : Nat → BitVec 8 := digest (cat (xorBy P 92) 64 (inner P D n)) 96
/-- The code of the first n bytes of D, by a key of m bytes. -/
def code (K : Nat → BitVec 8) (m : Nat) (D : Nat → BitVec 8) (n : Nat) : Nat → BitVec 8 := codeP (padKey K m) D n
theorem cat_lt (e f : Nat → BitVec 8) (n j : Nat) (h : j < n) : cat e n f j = e j := by unfold cat; rw [if_pos h]
theorem cat_ge (e f : Nat → BitVec 8) (n j : Nat) (h : n ≤ j) : cat e n f j = f (j - n) := by unfold cat; rw [if_neg (by omega)]
theorem inner_congr (P P' D D' : Nat → BitVec 8) (n : Nat) (hP : ∀ j, j < 64 → P j = P' j) (hD : ∀ j, j < n → D j = D' j) : inner P D n = inner P' D' n := by
  unfold inner
  refine digest_congr _ _ _ (fun j hj => ?_)
  by_cases h : j < 64
  · rw [cat_lt _ _ _ _ h, cat_lt _ _ _ _ h]; unfold xorBy; rw [hP j h]
  · rw [cat_ge _ _ _ _ (by omega), cat_ge _ _ _ _ (by omega), hD _ (by omega)]
theorem codeP_congr (P P' D D' : Nat → BitVec 8) (n : Nat) (hP : ∀ j, j < 64 → P j = P' j) (hD : ∀ j, j < n → D j = D' j) : codeP P D n = codeP P' D' n := by
  unfold codeP
  rw [inner_congr P P' D D' n hP hD]
  refine digest_congr _ _ _ (fun j hj => ?_)
  by_cases h : j < 64
  · rw [cat_lt _ _ _ _ h, cat_lt _ _ _ _ h]; unfold xorBy; rw [hP j h]
  · rw [cat_ge _ _ _ _ (by omega), cat_ge _ _ _ _ (by omega)]
theorem padKey_padded (P : Nat → BitVec 8) (j : Nat) (h : j < 64) : padKey P 64 j = P j := by
  unfold padKey
  rw [if_neg (by omega), if_pos h]
theorem code_padded (P D : Nat → BitVec 8) (n : Nat) : code P 64 D n = codeP P D n := codeP_congr _ _ _ _ _ (padKey_padded P) (fun _ _ => rfl)
theorem code_congr (K K' D D' : Nat → BitVec 8) (m n : Nat) (hK : ∀ j, j < m → K j = K' j) (hD : ∀ j, j < n → D j = D' j) : code K m D n = code K' m D' n := by
  refine codeP_congr _ _ _ _ _ (fun j _ => ?_) hD
  unfold padKey
  rw [digest_congr K K' m hK]
  by_cases h : 64 < m
  · rw [if_pos h, if_pos h]
  · rw [if_neg h, if_neg h]
    by_cases hj : j < m
    · rw [if_pos hj, if_pos hj, hK j hj]
    · rw [if_neg hj, if_neg hj]
/-- A key with bytes 0 behind it, up to 64, is the same key. -/
theorem code_longer (K K' D : Nat → BitVec 8) (m m' n : Nat) (hm : m' = m ∨ (m ≤ m' ∧ m' ≤ 64)) (hK : ∀ j, j < m → K' j = K j) (h0 : ∀ j, m ≤ j → j < m' → K' j = 0) : code K' m' D n = code K m D n := by
  rcases hm with rfl | ⟨h1, h2⟩
  · exact code_congr _ _ _ _ _ _ hK (fun _ _ => rfl)
  · refine codeP_congr _ _ _ _ _ (fun j _ => ?_) (fun _ _ => rfl)
    unfold padKey
    rw [if_neg (show ¬ 64 < m' by omega), if_neg (show ¬ 64 < m by omega)]
    by_cases hj : j < m
    · rw [if_pos hj, if_pos (show j < m' by omega), hK j hj]
    · rw [if_neg hj]
      by_cases hj' : j < m'
      · rw [if_pos hj', h0 j (by omega) hj']
      · rw [if_neg hj']

/-- How long the block before block n is. -/
def prevLen (n : Nat) : Nat := if n = 0 then 0 else 32
/-- Block n (from 1 on) of the output for a filled key and a purpose of s bytes. -/
def outBlock (P S : Nat → BitVec 8) (s : Nat) : Nat → Nat → BitVec 8
  | 0 => fun _ => 0
  | n + 1 => codeP P (cat (outBlock P S s n) (prevLen n) (cat S s (fun _ => BitVec.ofNat 8 (n + 1)))) (prevLen n + (s + 1))
def output (P S : Nat → BitVec 8) (s : Nat) (j : Nat) : BitVec 8 := outBlock P S s (j / 32 + 1) (j % 32)
theorem output_block (P S : Nat → BitVec 8) (s k j : Nat) (h : j < 32) : output P S s (32 * k + j) = outBlock P S s (k + 1) j := by
  unfold output
  rw [show (32 * k + j) / 32 = k by omega, show (32 * k + j) % 32 = j by omega]
theorem xor8 (x y : BitVec 8) : bits .xor .u8 (x.toNat : Int) (y.toNat : Int) = ((x ^^^ y).toNat : Int) := by
  have h8 : ∀ z : BitVec 8, BitVec.ofInt 8 (z.toNat : Int) = z := fun z => by
    apply BitVec.eq_of_toNat_eq
    rw [BitVec.toNat_ofInt]
    have := z.isLt
    omega
  show IntKind.u8.wrap ((BitVec.ofInt 8 (x.toNat : Int) ^^^ BitVec.ofInt 8 (y.toNat : Int)).toNat : Int) = _
  rw [h8, h8, IntKind.wrap_u8']
  have := (x ^^^ y).isLt
  omega
theorem or8 (x y : BitVec 8) : bits .or .u8 (x.toNat : Int) (y.toNat : Int) = ((x ||| y).toNat : Int) := by
  have h8 : ∀ z : BitVec 8, BitVec.ofInt 8 (z.toNat : Int) = z := fun z => by
    apply BitVec.eq_of_toNat_eq
    rw [BitVec.toNat_ofInt]
    have := z.isLt
    omega
  show IntKind.u8.wrap ((BitVec.ofInt 8 (x.toNat : Int) ||| BitVec.ofInt 8 (y.toNat : Int)).toNat : Int) = _
  rw [h8, h8, IntKind.wrap_u8']
  have := (x ||| y).isLt
  omega
end Go.Proofs.YthdfbkfoljfbhaaDoor.Mac
