/-
  SHA-256 as plain functions over bit vectors: what the document's chapter on sha says, and small facts on numbers. No program is named here.
-/
import Derived.Test.YthdfbkfoljfbhaaDoorAid
namespace Go.Proofs.YthdfbkfoljfbhaaDoor.Sha
open Go

def rotr (x : BitVec 32) (k : Nat) : BitVec 32 := x >>> k ||| x <<< (32 - k)
def low0 (x : BitVec 32) : BitVec 32 := rotr x 7 ^^^ rotr x 18 ^^^ x >>> 3
def low1 (x : BitVec 32) : BitVec 32 := rotr x 17 ^^^ rotr x 19 ^^^ x >>> 10
def high0 (x : BitVec 32) : BitVec 32 := rotr x 2 ^^^ rotr x 13 ^^^ rotr x 22
def high1 (x : BitVec 32) : BitVec 32 := rotr x 6 ^^^ rotr x 11 ^^^ rotr x 25
/-- Number i of a block's sixteen. -/
def word (b : Nat → BitVec 8) (i : Nat) : BitVec 32 :=
  (b (4 * i)).setWidth 32 <<< 24 ||| (b (4 * i + 1)).setWidth 32 <<< 16 ||| (b (4 * i + 2)).setWidth 32 <<< 8 ||| (b (4 * i + 3)).setWidth 32
def nextWord (b : Nat → BitVec 8) (l : List (BitVec 32)) (n : Nat) : BitVec 32 :=
  if n < 16 then word b n else l.getD (n - 16) 0 + l.getD (n - 7) 0 + low0 (l.getD (n - 15) 0) + low1 (l.getD (n - 2) 0)
def words (b : Nat → BitVec 8) : Nat → List (BitVec 32)
  | 0 => []
  | n + 1 => words b n ++ [nextWord b (words b n) n]
def sched (b : Nat → BitVec 8) (i : Nat) : BitVec 32 := (words b (i + 1)).getD i 0

theorem length_words (b : Nat → BitVec 8) (n : Nat) : (words b n).length = n := by
  induction n with
  | zero => rfl
  | succ n ih => simp [words, ih]
theorem words_at (b : Nat → BitVec 8) (n i : Nat) (h : i < n) : (words b n).getD i 0 = sched b i := by
  induction n with
  | zero => omega
  | succ n ih =>
    by_cases hi : i = n
    · subst hi; rfl
    · have hlt : i < n := by omega
      rw [← ih hlt]
      simp only [words, List.getD_eq_getElem?_getD]
      rw [List.getElem?_append_left (by rw [length_words]; exact hlt)]
theorem sched_next (b : Nat → BitVec 8) (n : Nat) : sched b n = nextWord b (words b n) n := by
  unfold sched
  simp only [words, List.getD_eq_getElem?_getD]
  rw [List.getElem?_append_right (by rw [length_words]; omega), length_words]
  simp
theorem sched_low (b : Nat → BitVec 8) (n : Nat) (h : n < 16) : sched b n = word b n := by
  rw [sched_next]; simp [nextWord, h]
theorem sched_high (b : Nat → BitVec 8) (n : Nat) (h : 16 ≤ n) :
    sched b n = sched b (n - 16) + sched b (n - 7) + low0 (sched b (n - 15)) + low1 (sched b (n - 2)) := by
  rw [sched_next]
  unfold nextWord
  rw [if_neg (by omega), words_at b n (n - 16) (by omega), words_at b n (n - 7) (by omega), words_at b n (n - 15) (by omega), words_at b n (n - 2) (by omega)]

structure St where
  a : BitVec 32
  b : BitVec 32
  c : BitVec 32
  d : BitVec 32
  e : BitVec 32
  f : BitVec 32
  g : BitVec 32
  h : BitVec 32
def St.get (s : St) : Nat → BitVec 32
  | 0 => s.a | 1 => s.b | 2 => s.c | 3 => s.d | 4 => s.e | 5 => s.f | 6 => s.g | _ => s.h
def tOf (s : St) (k w : BitVec 32) : BitVec 32 := s.h + high1 s.e + (s.e &&& s.f ^^^ ~~~ s.e &&& s.g) + k + w
def uOf (s : St) : BitVec 32 := high0 s.a + (s.a &&& s.b ^^^ s.a &&& s.c ^^^ s.b &&& s.c)
def St.round (s : St) (k w : BitVec 32) : St := ⟨tOf s k w + uOf s, s.a, s.b, s.c, s.d + tOf s k w, s.e, s.f, s.g⟩
def rounds (s : St) (k w : Nat → BitVec 32) : Nat → St
  | 0 => s
  | n + 1 => (rounds s k w n).round (k n) (w n)
def St.plus (s t : St) : St := ⟨s.a + t.a, s.b + t.b, s.c + t.c, s.d + t.d, s.e + t.e, s.f + t.f, s.g + t.g, s.h + t.h⟩
def kList : List (BitVec 32) := [
  0x428a2f98, 0x71374491, 0xb5c0fbcf, 0xe9b5dba5, 0x3956c25b, 0x59f111f1, 0x923f82a4, 0xab1c5ed5,
  0xd807aa98, 0x12835b01, 0x243185be, 0x550c7dc3, 0x72be5d74, 0x80deb1fe, 0x9bdc06a7, 0xc19bf174,
  0xe49b69c1, 0xefbe4786, 0x0fc19dc6, 0x240ca1cc, 0x2de92c6f, 0x4a7484aa, 0x5cb0a9dc, 0x76f988da,
  0x983e5152, 0xa831c66d, 0xb00327c8, 0xbf597fc7, 0xc6e00bf3, 0xd5a79147, 0x06ca6351, 0x14292967,
  0x27b70a85, 0x2e1b2138, 0x4d2c6dfc, 0x53380d13, 0x650a7354, 0x766a0abb, 0x81c2c92e, 0x92722c85,
  0xa2bfe8a1, 0xa81a664b, 0xc24b8b70, 0xc76c51a3, 0xd192e819, 0xd6990624, 0xf40e3585, 0x106aa070,
  0x19a4c116, 0x1e376c08, 0x2748774c, 0x34b0bcb5, 0x391c0cb3, 0x4ed8aa4a, 0x5b9cca4f, 0x682e6ff3,
  0x748f82ee, 0x78a5636f, 0x84c87814, 0x8cc70208, 0x90befffa, 0xa4506ceb, 0xbef9a3f7, 0xc67178f2]
def kOf (i : Nat) : BitVec 32 := kList.getD i 0
def start : St := ⟨0x6a09e667, 0xbb67ae85, 0x3c6ef372, 0xa54ff53a, 0x510e527f, 0x9b05688c, 0x1f83d9ab, 0x5be0cd19⟩
def mixOf (s : St) (b : Nat → BitVec 8) : St := (rounds s kOf (sched b) 64).plus s
/-- The state behind n blocks of bytes. -/
def after (d : Nat → BitVec 8) : Nat → St
  | 0 => start
  | n + 1 => mixOf (after d n) (fun j => d (64 * n + j))
/-- The digest's byte i, of a state. -/
def byteOf (s : St) (i : Nat) : BitVec 8 := (s.get (i / 4) >>> (24 - 8 * (i % 4))).setWidth 8

/-! Arrays as cells. -/
def byteCell (x : BitVec 8) : Value := .int .u8 (x.toNat : Int)
def wordCell (x : BitVec 32) : Value := .int .u32 (x.toNat : Int)
def byteCells (n : Nat) (b : Nat → BitVec 8) : Array Value := Aid.cellsOf n fun i => .int .u8 ((b i).toNat : Int)
def wordCells (n : Nat) (b : Nat → BitVec 32) : Array Value := Aid.cellsOf n fun i => .int .u32 ((b i).toNat : Int)
theorem size_byteCells (n : Nat) (b : Nat → BitVec 8) : (byteCells n b).size = n := Aid.size_cellsOf n _
theorem size_wordCells (n : Nat) (b : Nat → BitVec 32) : (wordCells n b).size = n := Aid.size_cellsOf n _
theorem byteCells_at (n : Nat) (b : Nat → BitVec 8) (i : Nat) (h : i < n) : (byteCells n b)[i]? = some (.int .u8 ((b i).toNat : Int)) := Aid.cellsOf_at n _ i h
theorem wordCells_at (n : Nat) (b : Nat → BitVec 32) (i : Nat) (h : i < n) : (wordCells n b)[i]? = some (.int .u32 ((b i).toNat : Int)) := Aid.cellsOf_at n _ i h

/-! Numbers as the walk writes them. -/
theorem ofInt_toNat32 (x : BitVec 32) : BitVec.ofInt 32 (x.toNat : Int) = x := by
  apply BitVec.eq_of_toNat_eq
  rw [BitVec.toNat_ofInt]
  have := x.isLt
  omega
theorem xor32 (x y : BitVec 32) : bits .xor .u32 (x.toNat : Int) (y.toNat : Int) = ((x ^^^ y).toNat : Int) := by
  show IntKind.u32.wrap ((BitVec.ofInt 32 (x.toNat : Int) ^^^ BitVec.ofInt 32 (y.toNat : Int)).toNat : Int) = _
  rw [ofInt_toNat32, ofInt_toNat32, IntKind.wrap_u32']
  have := (x ^^^ y).isLt
  omega
theorem and32 (x y : BitVec 32) : bits .and .u32 (x.toNat : Int) (y.toNat : Int) = ((x &&& y).toNat : Int) := by
  show IntKind.u32.wrap ((BitVec.ofInt 32 (x.toNat : Int) &&& BitVec.ofInt 32 (y.toNat : Int)).toNat : Int) = _
  rw [ofInt_toNat32, ofInt_toNat32, IntKind.wrap_u32']
  have := (x &&& y).isLt
  omega
theorem or32 (x y : BitVec 32) : bits .or .u32 (x.toNat : Int) (y.toNat : Int) = ((x ||| y).toNat : Int) := by
  show IntKind.u32.wrap ((BitVec.ofInt 32 (x.toNat : Int) ||| BitVec.ofInt 32 (y.toNat : Int)).toNat : Int) = _
  rw [ofInt_toNat32, ofInt_toNat32, IntKind.wrap_u32']
  have := (x ||| y).isLt
  omega
theorem not32 (x : BitVec 32) : bits .xor .u32 4294967295 (x.toNat : Int) = ((~~~ x).toNat : Int) := by
  have h := xor32 (BitVec.allOnes 32) x
  rw [BitVec.allOnes_xor] at h
  simpa using h
theorem add32 (x y : BitVec 32) : ((x.toNat : Int) + (y.toNat : Int)) % 4294967296 = ((x + y).toNat : Int) := by
  rw [BitVec.toNat_add]; omega
theorem shr32 (x : BitVec 32) (k : Nat) : (x.toNat : Int) / 2 ^ k = ((x >>> k).toNat : Int) := by
  rw [BitVec.toNat_ushiftRight, Nat.shiftRight_eq_div_pow]; simp
theorem shl32 (x : BitVec 32) (k : Nat) : (x.toNat : Int) * 2 ^ k % 4294967296 = ((x <<< k).toNat : Int) := by
  rw [BitVec.toNat_shiftLeft, Nat.shiftLeft_eq]
  have h : ((x.toNat * 2 ^ k % 2 ^ 32 : Nat) : Int) = ((x.toNat * 2 ^ k : Nat) : Int) % ((2 ^ 32 : Nat) : Int) := Int.natCast_emod _ _
  rw [h]; simp
theorem wide8 (x : BitVec 8) : (x.toNat : Int) = ((x.setWidth 32).toNat : Int) := by
  rw [BitVec.toNat_setWidth]
  have := x.isLt
  omega
theorem low8 (x : BitVec 32) : (x.toNat : Int) % 256 = ((x.setWidth 8).toNat : Int) := by
  rw [BitVec.toNat_setWidth]; omega
end Go.Proofs.YthdfbkfoljfbhaaDoor.Sha
