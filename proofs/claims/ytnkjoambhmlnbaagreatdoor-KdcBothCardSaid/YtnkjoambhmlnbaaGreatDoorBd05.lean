/-
  SHA-256 as plain functions over bit vectors: what the document's chapter on sha says, and small facts on numbers. No program is named here. What sha.rotr and sha.schedule do, for every argument and every world: rotr turns a number to the right; schedule gives the 64 numbers of a block. What sha.mix does, for every state, every block and every world that holds the constants: the state behind one more block. '==' and '!=' of texts: with the empty one, and of any two. Books in memory. Any book in memory, also one that no operations make.
-/
import Derived.Test.YtnkjoambhmlnbaaGreatDoorBd01
import Derived.Test.YtnkjoambhmlnbaaGreatDoorProg
import Derived.WalkMore
namespace Go.Proofs.YtnkjoambhmlnbaaGreatDoor.Sha
open Go

def rotr (x : BitVec 32) (k : Nat) : BitVec 32 := x >>> k ||| x <<< (32 - k)
def low0 (x : BitVec 32) : BitVec 32 := rotr x 7 ^^^ rotr x 18 ^^^ x >>> 3
def low1 (x : BitVec 32) : BitVec 32 := rotr x 17 ^^^ rotr x 19 ^^^ x >>> 10
def high0 (x : BitVec 32) : BitVec 32 := rotr x 2 ^^^ rotr x 13 ^^^ rotr x 22
def high1 (x : BitVec 32) : BitVec 32 := rotr x 6 ^^^ rotr x 11 ^^^ rotr x 25
/-- Number i of a block's sixteen. -/
def word (b : Nat → BitVec 8) (i : Nat) : BitVec 32 :=
  (b (4 * i)).setWidth 32 <<< 24 ||| (b (4 * i + 1)).setWidth 32 <<< 16 ||| (b (4 * i + 2)).setWidth 32 <<< 8 ||| (b (4 * i + 3)).setWidth 32
def nextWord (b : Nat → BitVec 8) (l : List (BitVec 32)) (n : Nat) : BitVec 32 :=
  if n < 16 then word b n else l.getD (n - 16) 0 + l.getD (n - 7) 0 + low0 (l.getD (n - 15) 0) + low1 (l.getD (n - 2) 0)
def words (b : Nat → BitVec 8) : Nat → List (BitVec 32)
  | 0 => []
  | n + 1 => words b n ++ [nextWord b (words b n) n]
def sched (b : Nat → BitVec 8) (i : Nat) : BitVec 32 := (words b (i + 1)).getD i 0

theorem length_words (b : Nat → BitVec 8) (n : Nat) : (words b n).length = n := by
  induction n with
  | zero => rfl
  | succ n ih => simp [words, ih]
theorem words_at (b : Nat → BitVec 8) (n i : Nat) (h : i < n) : (words b n).getD i 0 = sched b i := by
  induction n with
  | zero => omega
  | succ n ih =>
    by_cases hi : i = n
    · subst hi; rfl
    · have hlt : i < n := by omega
      rw [← ih hlt]
      simp only [words, List.getD_eq_getElem?_getD]
      rw [List.getElem?_append_left (by rw [length_words]; exact hlt)]
theorem sched_next (b : Nat → BitVec 8) (n : Nat) : sched b n = nextWord b (words b n) n := by
  unfold sched
  simp only [words, List.getD_eq_getElem?_getD]
  rw [List.getElem?_append_right (by rw [length_words]; omega), length_words]
  simp
theorem sched_low (b : Nat → BitVec 8) (n : Nat) (h : n < 16) : sched b n = word b n := by
  rw [sched_next]; simp [nextWord, h]
theorem sched_high (b : Nat → BitVec 8) (n : Nat) (h : 16 ≤ n) :
    sched b n = sched b (n - 16) + sched b (n - 7) + low0 (sched b (n - 15)) + low1 (sched b (n - 2)) := by
  rw [sched_next]
  unfold nextWord
  rw [if_neg (by omega), words_at b n (n - 16) (by omega), words_at b n (n - 7) (by omega), words_at b n (n - 15) (by omega), words_at b n (n - 2) (by omega)]

structure St where
  a : BitVec 32
  b : BitVec 32
  c : BitVec 32
  d : BitVec 32
  e : BitVec 32
  f : BitVec 32
  g : BitVec 32
  h : BitVec 32
def St.get (s : St) : Nat → BitVec 32
  | 0 => s.a | 1 => s.b | 2 => s.c | 3 => s.d | 4 => s.e | 5 => s.f | 6 => s.g | _ => s.h
def tOf (s : St) (k w : BitVec 32) : BitVec 32 := s.h + high1 s.e + (s.e &&& s.f ^^^ ~~~ s.e &&& s.g) + k + w
def uOf (s : St) : BitVec 32 := high0 s.a + (s.a &&& s.b ^^^ s.a &&& s.c ^^^ s.b &&& s.c)
def St.round (s : St) (k w : BitVec 32) : St := ⟨tOf s k w + uOf s, s.a, s.b, s.c, s.d + tOf s k w, s.e, s.f, s.g⟩
def rounds (s : St) (k w : Nat → BitVec 32) : Nat → St
  | 0 => s
  | n + 1 => (rounds s k w n).round (k n) (w n)
def St.plus (s t : St) : St := ⟨s.a + t.a, s.b + t.b, s.c + t.c, s.d + t.d, s.e + t.e, s.f + t.f, s.g + t.g, s.h + t.h⟩
def kList : List (BitVec 32) := [
  0x428a2f98, 0x71374491, 0xb5c0fbcf, 0xe9b5dba5, 0x3956c25b, 0x59f111f1, 0x923f82a4, 0xab1c5ed5,
  0xd807aa98, 0x12835b01, 0x243185be, 0x550c7dc3, 0x72be5d74, 0x80deb1fe, 0x9bdc06a7, 0xc19bf174,
  0xe49b69c1, 0xefbe4786, 0x0fc19dc6, 0x240ca1cc, 0x2de92c6f, 0x4a7484aa, 0x5cb0a9dc, 0x76f988da,
  0x983e5152, 0xa831c66d, 0xb00327c8, 0xbf597fc7, 0xc6e00bf3, 0xd5a79147, 0x06ca6351, 0x14292967,
  0x27b70a85, 0x2e1b2138, 0x4d2c6dfc, 0x53380d13, 0x650a7354, 0x766a0abb, 0x81c2c92e, 0x92722c85,
  0xa2bfe8a1, 0xa81a664b, 0xc24b8b70, 0xc76c51a3, 0xd192e819, 0xd6990624, 0xf40e3585, 0x106aa070,
  0x19a4c116, 0x1e376c08, 0x2748774c, 0x34b0bcb5, 0x391c0cb3, 0x4ed8aa4a, 0x5b9cca4f, 0x682e6ff3,
  0x748f82ee, 0x78a5636f, 0x84c87814, 0x8cc70208, 0x90befffa, 0xa4506ceb, 0xbef9a3f7, 0xc67178f2]
def kOf (i : Nat) : BitVec 32 := kList.getD i 0
def start : St := ⟨0x6a09e667, 0xbb67ae85, 0x3c6ef372, 0xa54ff53a, 0x510e527f, 0x9b05688c, 0x1f83d9ab, 0x5be0cd19⟩
def mixOf (s : St) (b : Nat → BitVec 8) : St := (rounds s kOf (sched b) 64).plus s
/-- The state behind n blocks of bytes. -/
def after (d : Nat → BitVec 8) : Nat → St
  | 0 => start
  | n + 1 => mixOf (after d n) (fun j => d (64 * n + j))
/-- The digest's byte i, of a state. -/
def byteOf (s : St) (i : Nat) : BitVec 8 := (s.get (i / 4) >>> (24 - 8 * (i % 4))).setWidth 8

/-! Arrays as cells. -/
def byteCell (x : BitVec 8) : Value := .int .u8 (x.toNat : Int)
def wordCell (x : BitVec 32) : Value := .int .u32 (x.toNat : Int)
def byteCells (n : Nat) (b : Nat → BitVec 8) : Array Value := Aid.cellsOf n fun i => .int .u8 ((b i).toNat : Int)
def wordCells (n : Nat) (b : Nat → BitVec 32) : Array Value := Aid.cellsOf n fun i => .int .u32 ((b i).toNat : Int)
theorem size_byteCells (n : Nat) (b : Nat → BitVec 8) : (byteCells n b).size = n := Aid.size_cellsOf n _
theorem size_wordCells (n : Nat) (b : Nat → BitVec 32) : (wordCells n b).size = n := Aid.size_cellsOf n _
theorem byteCells_at (n : Nat) (b : Nat → BitVec 8) (i : Nat) (h : i < n) : (byteCells n b)[i]? = some (.int .u8 ((b i).toNat : Int)) := Aid.cellsOf_at n _ i h
theorem wordCells_at (n : Nat) (b : Nat → BitVec 32) (i : Nat) (h : i < n) : (wordCells n b)[i]? = some (.int .u32 ((b i).toNat : Int)) := Aid.cellsOf_at n _ i h

/-! Numbers as the walk writes them. -/
theorem ofInt_toNat32 (x : BitVec 32) : BitVec.ofInt 32 (x.toNat : Int) = x := by
  apply BitVec.eq_of_toNat_eq
  rw [BitVec.toNat_ofInt]
  have := x.isLt
  omega
theorem xor32 (x y : BitVec 32) : bits .xor .u32 (x.toNat : Int) (y.toNat : Int) = ((x ^^^ y).toNat : Int) := by
  show IntKind.u32.wrap ((BitVec.ofInt 32 (x.toNat : Int) ^^^ BitVec.ofInt 32 (y.toNat : Int)).toNat : Int) = _
  rw [ofInt_toNat32, ofInt_toNat32, IntKind.wrap_u32']
  have := (x ^^^ y).isLt
  omega
theorem and32 (x y : BitVec 32) : bits .and .u32 (x.toNat : Int) (y.toNat : Int) = ((x &&& y).toNat : Int) := by
  show IntKind.u32.wrap ((BitVec.ofInt 32 (x.toNat : Int) &&& BitVec.ofInt 32 (y.toNat : Int)).toNat : Int) = _
  rw [ofInt_toNat32, ofInt_toNat32, IntKind.wrap_u32']
  have := (x &&& y).isLt
  omega
theorem or32 (x y : BitVec 32) : bits .or .u32 (x.toNat : Int) (y.toNat : Int) = ((x ||| y).toNat : Int) := by
  show IntKind.u32.wrap ((BitVec.ofInt 32 (x.toNat : Int) ||| BitVec.ofInt 32 (y.toNat : Int)).toNat : Int) = _
  rw [ofInt_toNat32, ofInt_toNat32, IntKind.wrap_u32']
  have := (x ||| y).isLt
  omega
theorem not32 (x : BitVec 32) : bits .xor .u32 4294967295 (x.toNat : Int) = ((~~~ x).toNat : Int) := by
  have h := xor32 (BitVec.allOnes 32) x
  rw [BitVec.allOnes_xor] at h
  simpa using h
theorem add32 (x y : BitVec 32) : ((x.toNat : Int) + (y.toNat : Int)) % 4294967296 = ((x + y).toNat : Int) := by
  rw [BitVec.toNat_add]; omega
theorem shr32 (x : BitVec 32) (k : Nat) : (x.toNat : Int) / 2 ^ k = ((x >>> k).toNat : Int) := by
  rw [BitVec.toNat_ushiftRight, Nat.shiftRight_eq_div_pow]; simp
theorem shl32 (x : BitVec 32) (k : Nat) : (x.toNat : Int) * 2 ^ k % 4294967296 = ((x <<< k).toNat : Int) := by
  rw [BitVec.toNat_shiftLeft, Nat.shiftLeft_eq]
  have h : ((x.toNat * 2 ^ k % 2 ^ 32 : Nat) : Int) = ((x.toNat * 2 ^ k : Nat) : Int) % ((2 ^ 32 : Nat) : Int) := Int.natCast_emod _ _
  rw [h]; simp
theorem wide8 (x : BitVec 8) : (x.toNat : Int) = ((x.setWidth 32).toNat : Int) := by
  rw [BitVec.toNat_setWidth]
  have := x.isLt
  omega
theorem low8 (x : BitVec 32) : (x.toNat : Int) % 256 = ((x.setWidth 8).toNat : Int) := by
  rw [BitVec.toNat_setWidth]; omega
end Go.Proofs.YtnkjoambhmlnbaaGreatDoor.Sha

namespace Go.Proofs.YtnkjoambhmlnbaaGreatDoor.Sha
open Go Go.RowKit Go.Proofs.YtnkjoambhmlnbaaGreatDoor.Aid

theorem rotr_still (x : BitVec 32) (k : Int) (h1 : 1 ≤ k) (h2 : k ≤ 31) (w : World) :
    Calls Tryz.prog 102 #[.int .u32 x.toNat, .int .u64 k] w fun e w' => e = .returned (.int .u32 (rotr x k.toNat).toNat) ∧ w' = w := by
  obtain ⟨n, rfl⟩ := Int.eq_ofNat_of_zero_le (show 0 ≤ k by omega)
  go_enter Tryz.func102, Tryz.ntmps102
  go_wp2
  go_ret
  refine ⟨?_, rfl⟩
  have e : bits BinOp.or IntKind.u32 (↑x.toNat / 2 ^ n) (↑x.toNat * 2 ^ (32 - n) % 4294967296) = ((rotr x (n : Int).toNat).toNat : Int) := by
    rw [shr32, shl32, or32]; rfl
  show Ending.returned (Value.int .u32 (bits BinOp.or IntKind.u32 (↑x.toNat / 2 ^ n) (↑x.toNat * 2 ^ (32 - n) % 4294967296))) = _
  rw [e]

theorem shl8 (x : BitVec 8) (m : Int) (k : Nat) (hm : m = 2 ^ k) (hk : k ≤ 24) : (x.toNat : Int) * m = ((x.setWidth 32 <<< k).toNat : Int) := by
  subst hm
  rw [BitVec.toNat_shiftLeft, BitVec.toNat_setWidth, Nat.shiftLeft_eq]
  have h1 := x.isLt
  have h2 : x.toNat % 2 ^ 32 = x.toNat := Nat.mod_eq_of_lt (by omega)
  have h3 : x.toNat * 2 ^ k < 2 ^ 32 := by
    have h4 : 2 ^ k ≤ 2 ^ 24 := Nat.pow_le_pow_right (by omega) hk
    have h5 : x.toNat * 2 ^ k ≤ 255 * 2 ^ 24 := Nat.mul_le_mul (by omega) h4
    omega
  rw [h2, Nat.mod_eq_of_lt h3]
  simp
theorem word_walk (b : Nat → BitVec 8) (k : Nat) :
    bits BinOp.or IntKind.u32 (bits BinOp.or IntKind.u32 (bits BinOp.or IntKind.u32 (((b (4 * k)).toNat : Int) * 16777216) (((b (4 * k + 1)).toNat : Int) * 65536)) (((b (4 * k + 2)).toNat : Int) * 256)) ((b (4 * k + 3)).toNat : Int) = ((word b k).toNat : Int) := by
  rw [shl8 (b (4 * k)) 16777216 24 (by decide) (by decide), shl8 (b (4 * k + 1)) 65536 16 (by decide) (by decide), shl8 (b (4 * k + 2)) 256 8 (by decide) (by decide), wide8 (b (4 * k + 3)), or32, or32, or32]
  rfl

def wordsTo (b : Nat → BitVec 8) (k : Nat) (j : Nat) : BitVec 32 := if j < k then sched b j else 0
theorem wordsTo_step (b : Nat → BitVec 8) (k j : Nat) : (if j = k then Value.int .u32 ((sched b k).toNat : Int) else Value.int .u32 ((wordsTo b k j).toNat : Int)) = Value.int .u32 ((wordsTo b (k + 1) j).toNat : Int) := by
  unfold wordsTo
  by_cases h : j = k
  · subst h; simp
  · by_cases h2 : j < k
    · simp [h, h2, Nat.lt_succ_of_lt h2]
    · have : ¬ j < k + 1 := by omega
      simp [h, h2, this]
theorem wordsTo_lt (b : Nat → BitVec 8) (k j : Nat) (h : j < k) : wordsTo b k j = sched b j := by simp [wordsTo, h]

/-- The three rows of schedule, in the loops. -/
structure SchedRows (b : Nat → BitVec 8) (w wr : World) (k : Nat) : Prop where
  r0 : wr.rowIs w.heap.size 117 64 (fun j => .int .u8 ((b j).toNat : Int))
  r1 : wr.rowIs (w.heap.size + 1) 149 64 (fun _ => .int .u32 0)
  r2 : wr.rowIs (w.heap.size + 1 + 1) 149 64 (fun j => .int .u32 ((wordsTo b k j).toNat : Int))
  hb : Below w.heap.size w wr
theorem SchedRows.drew {b : Nat → BitVec 8} {w wr : World} {k : Nat} (h : SchedRows b w wr k) : SchedRows b w wr.drew k := ⟨h.r0, h.r1, h.r2, h.hb.drew⟩
theorem SchedRows.next {b : Nat → BitVec 8} {w wr : World} {k : Nat} (h : SchedRows b w wr k) (v : Int) (hv : v = ((sched b k).toNat : Int)) :
    SchedRows b w (wr.setCell ⟨w.heap.size + 1 + 1, k, none⟩ (.int .u32 v)) (k + 1) := by
  subst hv
  refine ⟨h.r0.setOther (by simp; omega) _, h.r1.setOther (by simp) _, ?_, h.hb.setCell (by simp; omega) _⟩
  exact (h.r2.set k _).congr (fun j _ => wordsTo_step b k j)
theorem SchedRows.born (b : Nat → BitVec 8) (w : World) (C : Array Value) (hC : C.size = 64) (hc : ∀ i, i < 64 → C[i]? = some (.int .u8 ((b i).toNat : Int))) (Z : Array Value) (hZ : Z = Array.replicate 64 (.int .u32 0)) :
    SchedRows b w (((w.alloc (.cells C 117)).alloc (.cells Z 149)).alloc (.cells Z 149)) 0 := by
  have s1 : (w.alloc (.cells C 117)).heap.size = w.heap.size + 1 := by simp
  have s2 : ((w.alloc (.cells C 117)).alloc (.cells Z 149)).heap.size = w.heap.size + 1 + 1 := by simp
  have hz : ∀ i, i < Z.size → Z[i]? = some (.int .u32 0) := by subst hZ; intro i hi; simp at hi; simp [hi]
  have hzs : Z.size = 64 := by subst hZ; simp
  have a0 := (w.rowIs_alloc C 117 (fun j => .int .u8 ((b j).toNat : Int)) (by rw [hC]; exact hc))
  rw [hC] at a0
  have a1 := ((w.alloc (.cells C 117)).rowIs_alloc Z 149 (fun _ => .int .u32 0) hz)
  rw [hzs, s1] at a1
  have a2 := (((w.alloc (.cells C 117)).alloc (.cells Z 149)).rowIs_alloc Z 149 (fun _ => .int .u32 0) hz)
  rw [hzs, s2] at a2
  refine ⟨(a0.alloc _).alloc _, a1.alloc _, a2.congr (fun j _ => by simp [wordsTo]), ?_⟩
  exact (((Below.refl _ _).alloc (by simp) _).alloc (by simp) _).alloc (by simp; omega) _

theorem add4 (a b c d : BitVec 32) : ((a.toNat : Int) + (b.toNat : Int) + (c.toNat : Int) + (d.toNat : Int)) % (4294967296 : Int) = ((a + b + c + d).toNat : Int) := by
  simp only [BitVec.toNat_add]; omega
theorem shr3 (x : BitVec 32) : (x.toNat : Int) / (8 : Int) = ((x >>> 3).toNat : Int) := shr32 x 3
theorem shr10 (x : BitVec 32) : (x.toNat : Int) / (1024 : Int) = ((x >>> 10).toNat : Int) := shr32 x 10
theorem sched_walk (b : Nat → BitVec 8) (k : Nat) (h : 16 ≤ k) :
    (((sched b (k - 16)).toNat : Int) + ((sched b (k - 7)).toNat : Int) +
                  bits BinOp.xor IntKind.u32
                    (bits BinOp.xor IntKind.u32 ((rotr (sched b (k - 15)) 7).toNat : Int) ((rotr (sched b (k - 15)) 18).toNat : Int))
                    (((sched b (k - 15)).toNat : Int) / 8) +
                bits BinOp.xor IntKind.u32
                  (bits BinOp.xor IntKind.u32 ((rotr (sched b (k - 2)) 17).toNat : Int) ((rotr (sched b (k - 2)) 19).toNat : Int))
                  (((sched b (k - 2)).toNat : Int) / 1024)) % 4294967296 = ((sched b k).toNat : Int) := by
  rw [sched_high b k h, shr3, shr10, xor32, xor32, xor32, xor32, add4]
  rfl

set_option maxRecDepth 100000 in
set_option maxHeartbeats 1000000 in
theorem schedule_any (b : Nat → BitVec 8) (C : Array Value) (hC : C.size = 64) (hc : ∀ i, i < 64 → C[i]? = some (.int .u8 ((b i).toNat : Int))) (w : World) :
    Calls Tryz.prog 101 #[.agg C] w fun e w' => e = .returned (.agg (wordCells 64 (sched b))) ∧ Below w.heap.size w w' := by
  have HC := Lib.hid hC
  have Hc := Lib.hid hc
  clear hC hc
  go_enter Tryz.func101, Tryz.ntmps101
  go_wp2
  go_loopw [4, 8] (fun _ i wr => ∃ k : Nat, k ≤ 16 ∧ i = .int .i64 k ∧ SchedRows b w wr k) (fun _ i _ => 16 - (intOf i).toNat)
  case atStart => exact ⟨0, by omega, rfl, SchedRows.born b w C HC.out Hc.out _ rfl⟩
  case round =>
    obtain ⟨k, hk, rfl, h⟩ := hrel
    by_cases hlt : k < 16
    · have c0 := h.r0.cell (i := 4 * k) (by omega)
      have c1 := h.r0.cell (i := 4 * k + 1) (by omega)
      have c2 := h.r0.cell (i := 4 * k + 2) (by omega)
      have c3 := h.r0.cell (i := 4 * k + 3) (by omega)
      have c4 := h.r2.cell (i := k) (by omega)
      have f4 := h.r2.frozen k
      have e0 : IntKind.i64.wrap (4 * (k : Int)) = 4 * (k : Int) := IntWalk.i64_in _ (by omega)
      have e1 : IntKind.i64.wrap (4 * (k : Int) + 1) = 4 * (k : Int) + 1 := IntWalk.i64_in _ (by omega)
      have e2 : IntKind.i64.wrap (4 * (k : Int) + 2) = 4 * (k : Int) + 2 := IntWalk.i64_in _ (by omega)
      have e3 : IntKind.i64.wrap (4 * (k : Int) + 3) = 4 * (k : Int) + 3 := IntWalk.i64_in _ (by omega)
      have t0 : (4 * (k : Int)).toNat = 4 * k := by omega
      have t1 : (4 * (k : Int) + 1).toNat = 4 * k + 1 := by omega
      have t2 : (4 * (k : Int) + 2).toNat = 4 * k + 2 := by omega
      have t3 : (4 * (k : Int) + 3).toNat = 4 * k + 3 := by omega
      have p0 : 0 ≤ 4 * (k : Int) := by omega
      have p1 : 0 ≤ 4 * (k : Int) + 1 := by omega
      have p2 : 0 ≤ 4 * (k : Int) + 2 := by omega
      have p3 : 0 ≤ 4 * (k : Int) + 3 := by omega
      have q0 : 4 * (k : Int) < 64 := by omega
      have q1 : 4 * (k : Int) + 1 < 64 := by omega
      have q2 : 4 * (k : Int) + 2 < 64 := by omega
      have q3 : 4 * (k : Int) + 3 < 64 := by omega
      have q4 : (k : Int) < 64 := by omega
      go_wp2
      refine region_tail 31 (by kernel_rfl) (by kernel_rfl) ?_
      simp only [List.take_succ_cons, List.take_zero, List.drop_succ_cons, List.drop_zero]
      repeat still_step
      refine wpStill_nil ?_
      go_wp2
      go_roundw
      case rel => exact ⟨k + 1, by omega, by go_num, (h.next _ ((word_walk b k).trans (by rw [sched_low b k hlt]))).drew⟩
      case measure => simp [intOf]; omega
    · have h16 : SchedRows b w wr 16 := by
        have e : k = 16 := by omega
        rw [e] at h; exact h
      clear h
      go_wp2
      go_loopw [5, 6, 7] (fun i _ _ wr2 => ∃ k : Nat, 16 ≤ k ∧ k ≤ 64 ∧ i = .int .i64 k ∧ SchedRows b w wr2 k) (fun i _ _ _ => 64 - (intOf i).toNat)
      case atStart => exact ⟨16, by omega, by omega, rfl, h16⟩
      case round =>
        clear h16 hlt hk
        obtain ⟨k0, rfl⟩ : ∃ k0 : Nat, k0 = k := ⟨_, rfl⟩
        obtain ⟨k, hk1, hk2, rfl, h⟩ := hrel
        by_cases hlt : k < 64
        · have c0 := h.r2.cell (i := k - 16) (by omega)
          have c1 := h.r2.cell (i := k - 15) (by omega)
          have c2 := h.r2.cell (i := k - 7) (by omega)
          have c3 := h.r2.cell (i := k - 2) (by omega)
          have c4 := h.r2.cell (i := k) (by omega)
          have f4 := h.r2.frozen k
          rw [wordsTo_lt b k _ (by omega)] at c0 c1 c2 c3
          have e0 : IntKind.i64.wrap ((k : Int) - 16) = (k : Int) - 16 := IntWalk.i64_in _ (by omega)
          have e1 : IntKind.i64.wrap ((k : Int) - 15) = (k : Int) - 15 := IntWalk.i64_in _ (by omega)
          have e2 : IntKind.i64.wrap ((k : Int) - 7) = (k : Int) - 7 := IntWalk.i64_in _ (by omega)
          have e3 : IntKind.i64.wrap ((k : Int) - 2) = (k : Int) - 2 := IntWalk.i64_in _ (by omega)
          have t0 : ((k : Int) - 16).toNat = k - 16 := by omega
          have t1 : ((k : Int) - 15).toNat = k - 15 := by omega
          have t2 : ((k : Int) - 7).toNat = k - 7 := by omega
          have t3 : ((k : Int) - 2).toNat = k - 2 := by omega
          have p0 : 0 ≤ (k : Int) - 16 := by omega
          have p1 : 0 ≤ (k : Int) - 15 := by omega
          have p2 : 0 ≤ (k : Int) - 7 := by omega
          have p3 : 0 ≤ (k : Int) - 2 := by omega
          have q0 : (k : Int) - 16 < 64 := by omega
          have q1 : (k : Int) - 15 < 64 := by omega
          have q2 : (k : Int) - 7 < 64 := by omega
          have q3 : (k : Int) - 2 < 64 := by omega
          have q4 : (k : Int) < 64 := by omega
          have q5 : (16 : Int) ≤ (k : Int) := by omega
          have q6 : (15 : Int) ≤ (k : Int) := by omega
          have q7 : (7 : Int) ≤ (k : Int) := by omega
          have q8 : (2 : Int) ≤ (k : Int) := by omega
          go_wp2
          refine region_still (by kernel_rfl) (by kernel_rfl) ?_
          repeat still_step
          refine wpStill_nil ?_
          go_wp2
          refine region_tail 29 (by kernel_rfl) (by kernel_rfl) ?_
          simp only [List.take_succ_cons, List.take_zero, List.drop_succ_cons, List.drop_zero]
          repeat (first | still_call (rotr_still _ _ (by decide) (by decide) _) | still_step)
          refine wpStill_nil ?_
          go_wp2
          go_roundw
          case rel =>
            exact ⟨k + 1, by omega, by omega, by go_num, (h.next _ (sched_walk b k hk1)).drew.drew⟩
          case measure => simp [intOf]; omega
        · have hr1 := h.r1
          have hr2 : wr.rowIs (w.heap.size + 1 + 1) 149 64 (fun j => .int .u32 ((sched b j).toNat : Int)) :=
            h.r2.congr (fun j hj => by rw [wordsTo_lt b k j (by omega)])
          have hbl := h.hb
          clear h
          go_wp2_with (first
            | (refine load_whole (by rfl) 149 (.tmp 3) (by rfl) (w.heap.size + 1 + 1) _ _ _ hr2 (by rfl) _ Tryz.underlying149 rfl (by kernel_rfl) ?_)
            | (refine store_whole (by rfl) 149 (.tmp 2) (.tmp 84) (by rfl) (w.heap.size + 1) _ _ _ _ hr1 (by rfl) _ (by rfl) (by kernel_rfl) (size_cellsOf _ _) (cellsOf_at _ _) (fun _ _ => rfl) ?_
               intro w3 hr3 ho3))
          exact bodyPost_ret (results_row rfl _ (w.heap.size + 1) _ _ _ _ (by rfl) hr3 Tryz.underlying149 rfl (by kernel_rfl)) rfl ⟨rfl, ho3.below hbl (by omega)⟩
end Go.Proofs.YtnkjoambhmlnbaaGreatDoor.Sha

namespace Go.Proofs.YtnkjoambhmlnbaaGreatDoor.Sha
open Go Go.RowKit Go.Proofs.YtnkjoambhmlnbaaGreatDoor.Aid

/-- The world holds the two tables of package sha. -/
structure Consts (w : World) : Prop where
  k : ∀ i, i < 64 → w.cell? ⟨3, i, none⟩ = some (.int .u32 ((kOf i).toNat : Int))
  s : ∀ i, i < 8 → w.cell? ⟨2, i, none⟩ = some (.int .u32 ((start.get i).toNat : Int))
theorem Consts.lt {w : World} (h : Consts w) : 3 < w.heap.size ∧ 2 < w.heap.size :=
  ⟨block_lt_of_cell (h.k 0 (by omega)), block_lt_of_cell (h.s 0 (by omega))⟩
theorem Consts.below {w w' : World} (h : Consts w) {B : Nat} (hb : Below B w w') (hB : w.heap.size ≤ B) : Consts w' := by
  have hl := h.lt
  exact ⟨fun i hi => (hb.cell (p := ⟨3, i, none⟩) (by simp; omega)).trans (h.k i hi), fun i hi => (hb.cell (p := ⟨2, i, none⟩) (by simp; omega)).trans (h.s i hi)⟩
theorem Consts.drew {w : World} (h : Consts w) : Consts w.drew := ⟨h.k, h.s⟩
theorem Consts.alloc {w : World} (h : Consts w) (o : Obj) : Consts (w.alloc o) := h.below ((Below.refl w.heap.size w).alloc (Nat.le_refl _) o) (Nat.le_refl _)

/-- What mix holds in its first loop: from block B on. -/
structure MixRows (s : St) (b : Nat → BitVec 8) (B g : Nat) (w wr : World) : Prop where
  st : wr.rowIs B 139 8 (fun j => .int .u32 ((s.get j).toNat : Int))
  res : wr.rowIs (B + 1 + 1) 139 8 (fun _ => .int .u32 0)
  ws : wr.rowIs g 149 64 (fun j => .int .u32 ((sched b j).toNat : Int))
  hb : Below B w wr
  ks : Consts wr
theorem MixRows.drew {s : St} {b : Nat → BitVec 8} {B g : Nat} {w wr : World} (h : MixRows s b B g w wr) : MixRows s b B g w wr.drew := ⟨h.st, h.res, h.ws, h.hb.drew, h.ks.drew⟩

/-- What mix holds at its head. -/
structure MixHead (s : St) (b : Nat → BitVec 8) (w wr : World) : Prop where
  st : wr.rowIs w.heap.size 139 8 (fun j => .int .u32 ((s.get j).toNat : Int))
  bl : wr.rowIs (w.heap.size + 1) 117 64 (fun j => .int .u8 ((b j).toNat : Int))
  res : wr.rowIs (w.heap.size + 1 + 1) 139 8 (fun _ => .int .u32 0)
  hb : Below w.heap.size w wr
  ks : Consts wr
theorem MixHead.born (s : St) (b : Nat → BitVec 8) (w : World) (S C : Array Value) (hS : S.size = 8) (hs : ∀ i, i < 8 → S[i]? = some (.int .u32 ((s.get i).toNat : Int)))
    (hC : C.size = 64) (hc : ∀ i, i < 64 → C[i]? = some (.int .u8 ((b i).toNat : Int))) (hk : Consts w) (Z : Array Value) (hZ : Z = Array.replicate 8 (.int .u32 0)) :
    MixHead s b w (((w.alloc (.cells S 139)).alloc (.cells C 117)).alloc (.cells Z 139)) := by
  have s1 : (w.alloc (.cells S 139)).heap.size = w.heap.size + 1 := by simp
  have s2 : ((w.alloc (.cells S 139)).alloc (.cells C 117)).heap.size = w.heap.size + 1 + 1 := by simp
  have hz : ∀ i, i < 8 → Z[i]? = some (.int .u32 0) := by subst hZ; intro i hi; simp [hi]
  have a0 := row_new w S 139 8 _ hS hs
  have a1 := row_new (w.alloc (.cells S 139)) C 117 64 _ hC hc
  have a2 := row_new ((w.alloc (.cells S 139)).alloc (.cells C 117)) Z 139 8 _ (by subst hZ; simp) hz
  rw [s1] at a1
  rw [s2] at a2
  exact ⟨(a0.alloc _).alloc _, a1.alloc _, a2, (((Below.refl _ _).alloc (by simp) _).alloc (by simp) _).alloc (by simp; omega) _, ((hk.alloc _).alloc _).alloc _⟩
theorem MixHead.rows {s : St} {b : Nat → BitVec 8} {w w1 w2 w3 : World} (h : MixHead s b w w1) (hb : Below w1.heap.size w1 w2) (o : Obj) (ho : Only w2.heap.size (w2.alloc o) w3)
    (hr : w3.rowIs w2.heap.size 149 64 (fun j => .int .u32 ((sched b j).toNat : Int))) : MixRows s b w.heap.size w2.heap.size w w3 := by
  have l1 := h.st.lt
  have l2 := h.res.lt
  have hb2 : Below w.heap.size w1 w2 := hb.mono (by omega)
  have hs := hb.size
  have hb3 : Below w2.heap.size w2 w3 := ho.below ((Below.refl _ _).alloc (Nat.le_refl _) o) (Nat.le_refl _)
  refine ⟨(h.st.of_block (hb.block _ l1)).of_block (hb3.block _ (by omega)), (h.res.of_block (hb.block _ l2)).of_block (hb3.block _ (by omega)), hr, (h.hb.trans hb2).trans (hb3.mono (by omega)), (h.ks.below hb (Nat.le_refl _)).below hb3 (Nat.le_refl _)⟩
theorem zeros64 (Z : Array Value) (hZ : Z = Array.replicate 64 (.int .u32 0)) (i : Nat) (hi : i < 64) : Z[i]? = some (Value.int .u32 0) := by
  subst hZ; simp [hi]

def StIs (r : St) (a b c d e f g h : Value) : Prop :=
  a = .int .u32 (r.a.toNat : Int) ∧ b = .int .u32 (r.b.toNat : Int) ∧ c = .int .u32 (r.c.toNat : Int) ∧ d = .int .u32 (r.d.toNat : Int) ∧
  e = .int .u32 (r.e.toNat : Int) ∧ f = .int .u32 (r.f.toNat : Int) ∧ g = .int .u32 (r.g.toNat : Int) ∧ h = .int .u32 (r.h.toNat : Int)

theorem int_of {k : IntKind} {a b : Int} (h : a = b) : Value.int k a = Value.int k b := by rw [h]
theorem t_walk (r : St) (k x : BitVec 32) :
    ((((((r.h.toNat : Int) + bits BinOp.xor IntKind.u32 (bits BinOp.xor IntKind.u32 ((rotr r.e 6).toNat : Int) ((rotr r.e 11).toNat : Int)) ((rotr r.e 25).toNat : Int)) % 4294967296 +
      bits BinOp.xor IntKind.u32 (bits BinOp.and IntKind.u32 (r.e.toNat : Int) (r.f.toNat : Int)) (bits BinOp.and IntKind.u32 (bits BinOp.xor IntKind.u32 (if IntKind.u32.signed = true then -1 else IntKind.u32.max) (r.e.toNat : Int)) (r.g.toNat : Int))) % 4294967296 +
      (k.toNat : Int)) % 4294967296 + (x.toNat : Int)) % 4294967296) = ((tOf r k x).toNat : Int) := by
  have e : (if IntKind.u32.signed = true then -1 else IntKind.u32.max) = 4294967295 := by decide
  rw [e, not32, xor32, xor32, and32, and32, xor32, add32, add32, add32, add32]
  rfl
theorem u_walk (r : St) :
    (bits BinOp.xor IntKind.u32 (bits BinOp.xor IntKind.u32 ((rotr r.a 2).toNat : Int) ((rotr r.a 13).toNat : Int)) ((rotr r.a 22).toNat : Int) +
      bits BinOp.xor IntKind.u32 (bits BinOp.xor IntKind.u32 (bits BinOp.and IntKind.u32 (r.a.toNat : Int) (r.b.toNat : Int)) (bits BinOp.and IntKind.u32 (r.a.toNat : Int) (r.c.toNat : Int))) (bits BinOp.and IntKind.u32 (r.b.toNat : Int) (r.c.toNat : Int))) % 4294967296 = ((uOf r).toNat : Int) := by
  rw [xor32, xor32, and32, and32, and32, xor32, xor32, add32]
  rfl

def sumTo (r s : St) (k j : Nat) : BitVec 32 := if j < k then r.get j + s.get j else r.get j
theorem sumTo_step (r s : St) (k j : Nat) : (if j = k then Value.int .u32 ((r.get k + s.get k).toNat : Int) else Value.int .u32 ((sumTo r s k j).toNat : Int)) = Value.int .u32 ((sumTo r s (k + 1) j).toNat : Int) := by
  unfold sumTo
  by_cases h : j = k
  · subst h; simp
  · by_cases h2 : j < k
    · simp [h, h2, Nat.lt_succ_of_lt h2]
    · have : ¬ j < k + 1 := by omega
      simp [h, h2, this]
theorem sumTo_end (r s : St) (j : Nat) (h : j < 8) : sumTo r s 8 j = (r.plus s).get j := by
  unfold sumTo
  rw [if_pos h]
  match j, h with
  | 0, _ => rfl
  | 1, _ => rfl
  | 2, _ => rfl
  | 3, _ => rfl
  | 4, _ => rfl
  | 5, _ => rfl
  | 6, _ => rfl
  | 7, _ => rfl
theorem stCells_at (r : St) (i : Nat) (hi : i < 8) :
    (#[Value.int .u32 (r.a.toNat : Int), Value.int .u32 (r.b.toNat : Int), Value.int .u32 (r.c.toNat : Int), Value.int .u32 (r.d.toNat : Int), Value.int .u32 (r.e.toNat : Int), Value.int .u32 (r.f.toNat : Int), Value.int .u32 (r.g.toNat : Int), Value.int .u32 (r.h.toNat : Int)] : Array Value)[i]? = some (.int .u32 ((r.get i).toNat : Int)) := by
  match i, hi with
  | 0, _ => rfl
  | 1, _ => rfl
  | 2, _ => rfl
  | 3, _ => rfl
  | 4, _ => rfl
  | 5, _ => rfl
  | 6, _ => rfl
  | 7, _ => rfl
/-- What mix holds in its second loop. -/
structure EndRows (r s : St) (B g k : Nat) (w wr : World) : Prop where
  st : wr.rowIs B 139 8 (fun j => .int .u32 ((s.get j).toNat : Int))
  res : wr.rowIs (B + 1 + 1) 139 8 (fun _ => .int .u32 0)
  nx : wr.rowIs g 139 8 (fun j => .int .u32 ((sumTo r s k j).toNat : Int))
  hb : Below B w wr
  hg : B + 1 + 1 < g
theorem EndRows.born {s r : St} {b : Nat → BitVec 8} {B g : Nat} {w wr : World} (h : MixRows s b B g w wr) (R : Array Value) (hR : R.size = 8) (hr : ∀ i, i < 8 → R[i]? = some (.int .u32 ((r.get i).toNat : Int))) :
    EndRows r s B wr.heap.size 0 w (wr.alloc (.cells R 139)) := by
  have l1 := h.res.lt
  exact ⟨h.st.alloc _, h.res.alloc _, (row_new wr R 139 8 _ hR hr).congr (fun j _ => by simp [sumTo]), h.hb.alloc (by omega) _, l1⟩
theorem EndRows.next {s r : St} {B g k : Nat} {w wr : World} (h : EndRows r s B g k w wr) (v : Int) (hv : v = ((r.get k + s.get k).toNat : Int)) :
    EndRows r s B g (k + 1) w (wr.setCell ⟨g, k, none⟩ (.int .u32 v)).drew := by
  subst hv
  have := h.hg
  exact ⟨(h.st.setOther (by simp; omega) _).drew, (h.res.setOther (by simp; omega) _).drew, ((h.nx.set k _).congr (fun j _ => sumTo_step r s k j)).drew, (h.hb.setCell (by simp; omega) _).drew, h.hg⟩

theorem rotr_any (x : BitVec 32) (k : Int) (h1 : 1 ≤ k) (h2 : k ≤ 31) (w : World) :
    Calls Tryz.prog 102 #[.int .u32 x.toNat, .int .u64 k] w fun e w' => e = .returned (.int .u32 (rotr x k.toNat).toNat) ∧ w = w' :=
  (rotr_still x k h1 h2 w).mono fun _ _ ⟨he, hw⟩ => ⟨he, hw.symm⟩

set_option maxRecDepth 100000 in
set_option maxHeartbeats 2000000 in
theorem mix_any (s : St) (b : Nat → BitVec 8) (S C : Array Value) (hS : S.size = 8) (hs : ∀ i, i < 8 → S[i]? = some (.int .u32 ((s.get i).toNat : Int)))
    (hC : C.size = 64) (hc : ∀ i, i < 64 → C[i]? = some (.int .u8 ((b i).toNat : Int))) (w : World) (hk : Consts w) :
    Calls Tryz.prog 96 #[.agg S, .agg C] w fun e w' => e = .returned (.agg (wordCells 8 (mixOf s b).get)) ∧ Below w.heap.size w w' := by
  have HS := Lib.hid hS
  have Hs := Lib.hid hs
  have HC := Lib.hid hC
  have Hc := Lib.hid hc
  clear hS hs hC hc
  go_enter Tryz.func96, Tryz.ntmps96
  have hh := MixHead.born s b w S C HS.out Hs.out HC.out Hc.out hk _ rfl
  go_wp2_with (refine load_whole (by rfl) 117 (.tmp 3) (by rfl) (w.heap.size + 1) _ 64 (fun j => .int .u8 ((b j).toNat : Int)) (by exact hh.bl) (by rfl) _ Tryz.underlying117 rfl (by kernel_rfl) ?_)
  refine (schedule_any b _ (size_cellsOf _ _) (cellsOf_at _ _) _).mono ?_
  rintro e w2 ⟨rfl, hb2⟩
  have hz : Hid ((wordCells 64 (sched b)).size = 64) := size_wordCells _ _
  obtain ⟨Z, hZ⟩ : ∃ Z, Z = wordCells 64 (sched b) := ⟨_, rfl⟩
  have HZ := Lib.hid hZ
  rw [← hZ] at hz ⊢
  clear hZ
  have Hb2 := Lib.hid hb2
  clear hb2
  go_wp2_with (refine store_whole (by rfl) 149 (.tmp 5) (.tmp 20) (by rfl) w2.heap.size _ 64 _ (fun j => .int .u32 ((sched b j).toNat : Int)) (by exact row_new _ _ _ 64 (fun _ => .int .u32 0) (by rfl) (zeros64 _ (by rfl))) (by rfl) _ (by rfl) (by kernel_rfl) hz.out (by intro i hi; rw [HZ.out]; exact wordCells_at 64 _ i hi) (fun _ _ => rfl) ?_
               intro w3 hr3 ho3)
  have h := hh.rows Hb2.out _ ho3 hr3
  clear hh Hb2 hr3 ho3 hz HZ
  have c0 := h.st.cell (i := 0) (by omega)
  have c1 := h.st.cell (i := 1) (by omega)
  have c2 := h.st.cell (i := 2) (by omega)
  have c3 := h.st.cell (i := 3) (by omega)
  have c4 := h.st.cell (i := 4) (by omega)
  have c5 := h.st.cell (i := 5) (by omega)
  have c6 := h.st.cell (i := 6) (by omega)
  have c7 := h.st.cell (i := 7) (by omega)
  simp only [Act.put]
  refine region_still (by kernel_rfl) (by kernel_rfl) ?_
  repeat still_step
  refine wpStill_nil ?_
  clear c0 c1 c2 c3 c4 c5 c6 c7
  obtain ⟨w4, hw4⟩ : ∃ w4, w4 = w3.drew := ⟨_, rfl⟩
  rw [← hw4]
  have h4 : MixRows s b w.heap.size w2.heap.size w w4 := by rw [hw4]; exact h.drew
  clear hw4 h
  go_wp2
  go_loopw [6, 7, 8, 9, 10, 11, 12, 13, 37] (fun a0 a1 a2 a3 a4 a5 a6 a7 i wr => ∃ k : Nat, k ≤ 64 ∧ i = .int .i64 k ∧ StIs (rounds s kOf (sched b) k) a0 a1 a2 a3 a4 a5 a6 a7 ∧ MixRows s b w.heap.size w2.heap.size w wr) (fun _ _ _ _ _ _ _ _ i _ => 64 - (intOf i).toNat)
  case atStart => exact ⟨0, by omega, rfl, ⟨rfl, rfl, rfl, rfl, rfl, rfl, rfl, rfl⟩, h4⟩
  case round =>
    clear h4
    obtain ⟨k, hk, rfl, ⟨rfl, rfl, rfl, rfl, rfl, rfl, rfl, rfl⟩, h⟩ := hrel
    by_cases hlt : k < 64
    · obtain ⟨r, hr⟩ : ∃ r, r = rounds s kOf (sched b) k := ⟨_, rfl⟩
      rw [← hr]
      have Hr := Lib.hid hr
      clear hr
      have c0 := h.ks.k k hlt
      have c1 := h.ws.cell hlt
      have q0 : (0 : Int) ≤ (k : Int) := by omega
      have q1 : (k : Int) < 64 := by omega
      go_wp2
      refine region_still (by kernel_rfl) (by kernel_rfl) ?_
      repeat (first | still_call (rotr_still _ _ (by decide) (by decide) _) | still_step)
      refine wpStill_nil ?_
      go_wp2_with (go_at_call 102; refine (rotr_any _ _ (by decide) (by decide) _).mono ?_; rintro e w' ⟨rfl, rfl⟩)
      go_roundw
      case rel =>
        refine ⟨k + 1, by omega, by go_num, ?_, h.drew⟩
        show StIs ((rounds s kOf (sched b) k).round (kOf k) (sched b k)) _ _ _ _ _ _ _ _
        rw [← Hr.out]
        exact ⟨int_of (by rw [t_walk, u_walk, add32]; rfl), rfl, rfl, rfl, int_of (by rw [t_walk, add32]; rfl), rfl, rfl, rfl⟩
      case measure => simp [intOf]; omega
    · obtain ⟨r, hr⟩ : ∃ r, r = rounds s kOf (sched b) k := ⟨_, rfl⟩
      rw [← hr]
      have Hr : Hid (r = rounds s kOf (sched b) 64) := by
        have e : k = 64 := by omega
        rw [e] at hr; exact hr
      clear hr
      go_wp2
      go_loopw [18, 109] (fun _ i wr2 => ∃ k : Nat, k ≤ 8 ∧ i = .int .i64 k ∧ EndRows r s w.heap.size wr.heap.size k w wr2) (fun _ i _ => 8 - (intOf i).toNat)
      case atStart => exact ⟨0, by omega, rfl, EndRows.born h _ rfl (stCells_at r)⟩
      case round =>
        clear h hlt
        obtain ⟨g, hg⟩ : ∃ g : Nat, Hid (g = k) := ⟨_, rfl⟩
        obtain ⟨k, hk, rfl, h⟩ := hrel
        by_cases hlt : k < 8
        · have c0 := h.nx.cell (i := k) (by omega)
          have c1 := h.st.cell (i := k) (by omega)
          have f0 := h.nx.frozen k
          rw [show sumTo r s k k = r.get k by simp [sumTo]] at c0
          have q0 : (0 : Int) ≤ (k : Int) := by omega
          have q1 : (k : Int) < 8 := by omega
          go_wp2
          refine region_tail 8 (by kernel_rfl) (by kernel_rfl) ?_
          simp only [List.take_succ_cons, List.take_zero, List.drop_succ_cons, List.drop_zero]
          repeat still_step
          refine wpStill_nil ?_
          go_wp2
          go_roundw
          case rel => exact ⟨k + 1, by omega, by go_num, h.next _ (add32 _ _)⟩
          case measure => simp [intOf]; omega
        · have hr1 := h.res
          have hr2 : wr.rowIs _ 139 8 (fun j => .int .u32 (((mixOf s b).get j).toNat : Int)) := h.nx.congr (fun j hj => by
            have e : k = 8 := by omega
            rw [e, sumTo_end r s j hj, Hr.out]; rfl)
          have hbl := h.hb
          clear h
          go_wp2_with (first
            | (refine load_whole (by rfl) 139 (.tmp 17) (by rfl) _ _ _ _ hr2 (by rfl) _ Tryz.underlying139 rfl (by kernel_rfl) ?_)
            | (refine store_whole (by rfl) 139 (.tmp 4) (.tmp 121) (by rfl) (w.heap.size + 1 + 1) _ _ _ _ hr1 (by rfl) _ (by rfl) (by kernel_rfl) (size_cellsOf _ _) (cellsOf_at _ _) (fun _ _ => rfl) ?_
               intro w3 hr3 ho3))
          exact bodyPost_ret (results_row rfl _ (w.heap.size + 1 + 1) _ _ _ _ (by rfl) hr3 Tryz.underlying139 rfl (by kernel_rfl)) rfl ⟨rfl, ho3.below hbl (by omega)⟩
end Go.Proofs.YtnkjoambhmlnbaaGreatDoor.Sha
namespace Go.Proofs.YtnkjoambhmlnbaaGreatDoor.Note
open Go Go.RowKit Go.Proofs.YtnkjoambhmlnbaaGreatDoor.Aid

theorem toList_nil (s : ByteArray) : s.toList = [] ↔ s.size = 0 := by
  rw [ByteArray.toList_eq]
  constructor
  · intro h
    have := congrArg List.length h
    simpa using this
  · intro h
    exact List.eq_nil_of_length_eq_zero (by simpa using h)
theorem toList_empty (s : ByteArray) : (s.toList == (⟨#[]⟩ : ByteArray).toList) = decide (s.size = 0) := by
  have h0 : (⟨#[]⟩ : ByteArray).toList = [] := (toList_nil _).2 rfl
  rw [h0]
  by_cases h : s.size = 0
  · rw [(toList_nil s).2 h, decide_eq_true h]; rfl
  · rw [decide_eq_false h]
    have : s.toList ≠ [] := fun e => h ((toList_nil s).1 e)
    simpa using this
theorem run_eql_str (s t : ByteArray) (W : World) : (binOp .eql 9 (.string s) (.string t)).run Tryz.prog W = .ok (.bool (s.toList == t.toList)) W := by
  simp [binOp, Op.stringOp]
theorem run_eql_empty (s : ByteArray) (W : World) : (binOp .eql 9 (.string s) (.string ⟨#[]⟩)).run Tryz.prog W = .ok (.bool (decide (s.size = 0))) W := by
  rw [run_eql_str, toList_empty]
theorem run_neq_empty (s : ByteArray) (W : World) : (binOp .neq 9 (.string s) (.string ⟨#[]⟩)).run Tryz.prog W = .ok (.bool (decide (0 < s.size))) W := by
  have h : (!decide (s.size = 0)) = decide (0 < s.size) := by
    by_cases h : s.size = 0
    · rw [decide_eq_true h, decide_eq_false (by omega)]; rfl
    · rw [decide_eq_false h, decide_eq_true (by omega)]; rfl
  rw [← h, ← toList_empty]
  simp [binOp, Op.stringOp]
end Go.Proofs.YtnkjoambhmlnbaaGreatDoor.Note
namespace Go.Proofs.YtnkjoambhmlnbaaGreatDoor.Book
open Go Go.RowKit Go.Proofs.YtnkjoambhmlnbaaGreatDoor.Aid

def wordF (k : Wd) (j : Nat) : Value := .int .u8 ((k.getD j 0).toNat : Int)
def wordV (k : Wd) : Value := .agg (cellsOf 16 (wordF k))
def entF (p : ByteArray × Wd) (j : Nat) : Value := if j = 0 then .string p.1 else wordF p.2 (j - 1)
def opF (x : OpB) (j : Nat) : Value := if j = 0 then .int .i64 x.kind else if j = 1 then .string x.name else if j < 18 then wordF x.key (j - 2) else .int .i64 x.gen
def opV (x : OpB) : Value := .agg (cellsOf 19 (opF x))
def bookF (b : Bk) (Lv Rv : Value) (j : Nat) : Value := if j = 0 then Lv else if j = 1 then Rv else if j = 2 then .int .i64 b.gen else wordF b.own (j - 3)
def bookV (b : Bk) (Lv Rv : Value) : Value := .agg (cellsOf 19 (bookF b Lv Rv))
def entsL (b : Bk) (i : Nat) : List Value := (List.range 17).map (entF (b.L.getD i (nos, zw)))
def revsL (b : Bk) (i : Nat) : List Value := (List.range 16).map (wordF (b.rev.getD i zw))
/-- Neither slice lies in this block. -/
def Apart (Lv Rv : Value) (g : Nat) : Prop := Lv.ownBlock ≠ some g ∧ Rv.ownBlock ≠ some g
structure BookAt (W : World) (b : Bk) (Lv Rv : Value) : Prop where
  ents : RowsAt W 17 b.L.length (entsL b) Lv
  revs : RowsAt W 16 b.rev.length (revsL b) Rv
  reach : Reach b
  apart : ∀ g, W.heap.size ≤ g → Apart Lv Rv g
  cap : ∀ A n c, (Lv = .slice A n c ∨ Rv = .slice A n c) → n ≤ c
theorem rows_below {W W' : World} {s n : Nat} {V : Nat → List Value} {v : Value} (h : RowsAt W s n V v) (hb : Below W.heap.size W W') : RowsAt W' s n V v := by
  obtain ⟨A, c, hv, hr⟩ := h
  refine ⟨A, c, hv, fun h1 => ?_⟩
  obtain ⟨b, o, hA, hlt, hc⟩ := hr h1
  exact ⟨b, o, hA, Nat.lt_of_lt_of_le hlt hb.size, fun i hi j u hu => (hb.cell (p := ⟨b, o + i * s + j, none⟩) hlt).trans (hc i hi j u hu)⟩
theorem BookAt.below {W W' : World} {b : Bk} {Lv Rv : Value} (h : BookAt W b Lv Rv) (hb : Below W.heap.size W W') : BookAt W' b Lv Rv := ⟨rows_below h.ents hb, rows_below h.revs hb, h.reach, fun g hg => h.apart g (Nat.le_trans hb.size hg), h.cap⟩
theorem rows_only {W W' : World} {g s n : Nat} {V : Nat → List Value} {v : Value} (h : RowsAt W s n V v) (ha : v.ownBlock ≠ some g) (ho : Only g W W') : RowsAt W' s n V v := by
  obtain ⟨A, c, rfl, hr⟩ := h
  refine ⟨A, c, rfl, fun h1 => ?_⟩
  obtain ⟨b, o, rfl, hlt, hc⟩ := hr h1
  have hne : b ≠ g := fun e => ha (by rw [← e]; rfl)
  refine ⟨b, o, rfl, by rw [ho.size]; exact hlt, fun i hi j u hu => ?_⟩
  have := hc i hi j u hu
  unfold World.cell? at this ⊢
  rw [ho.block b hne]
  exact this
theorem BookAt.only {W W' : World} {g : Nat} {b : Bk} {Lv Rv : Value} (h : BookAt W b Lv Rv) (ha : Apart Lv Rv g) (ho : Only g W W') : BookAt W' b Lv Rv :=
  ⟨rows_only h.ents ha.1 ho, rows_only h.revs ha.2 ho, h.reach, fun k hk => h.apart k (by rw [← ho.size]; exact hk), h.cap⟩
theorem book_empty (W : World) : BookAt W bk0 (.slice none 0 0) (.slice none 0 0) := ⟨⟨none, 0, rfl, fun h => absurd h (by decide)⟩, ⟨none, 0, rfl, fun h => absurd h (by decide)⟩, reach0, fun _ _ => ⟨fun h => (by cases h), fun h => (by cases h)⟩, fun A n c h => by rcases h with h | h <;> (cases h; exact Nat.le_refl _)⟩
end Go.Proofs.YtnkjoambhmlnbaaGreatDoor.Book
namespace Go.Proofs.YtnkjoambhmlnbaaGreatDoor.Book
open Go Go.RowKit Go.Proofs.YtnkjoambhmlnbaaGreatDoor.Aid

/-- As it comes in: of any length. -/
structure BookRaw (W : World) (b : Bk) (Lv Rv : Value) : Prop where
  ents : RowsAt W 17 b.L.length (entsL b) Lv
  revs : RowsAt W 16 b.rev.length (revsL b) Rv
  keys : ∀ p ∈ b.L, p.2.length = 16
  words : ∀ k ∈ b.rev, k.length = 16
  own : b.own.length = 16
theorem BookRaw.below {W W' : World} {b : Bk} {Lv Rv : Value} (h : BookRaw W b Lv Rv) (hb : Below W.heap.size W W') : BookRaw W' b Lv Rv := ⟨rows_below h.ents hb, rows_below h.revs hb, h.keys, h.words, h.own⟩
structure BookIs (W : World) (b : Bk) (Lv Rv : Value) : Prop where
  ents : RowsAt W 17 b.L.length (entsL b) Lv
  revs : RowsAt W 16 b.rev.length (revsL b) Rv
  few : b.L.length ≤ 100000 ∧ b.rev.length ≤ 100000
  keys : ∀ p ∈ b.L, p.2.length = 16
  words : ∀ k ∈ b.rev, k.length = 16
  own : b.own.length = 16
theorem BookIs.below {W W' : World} {b : Bk} {Lv Rv : Value} (h : BookIs W b Lv Rv) (hb : Below W.heap.size W W') : BookIs W' b Lv Rv := ⟨rows_below h.ents hb, rows_below h.revs hb, h.few, h.keys, h.words, h.own⟩
theorem BookRaw.is_ {W : World} {b : Bk} {Lv Rv : Value} (h : BookRaw W b Lv Rv) (h1 : b.L.length ≤ 100000) (h2 : b.rev.length ≤ 100000) : BookIs W b Lv Rv := ⟨h.ents, h.revs, ⟨h1, h2⟩, h.keys, h.words, h.own⟩
theorem BookAt.is_ {W : World} {b : Bk} {Lv Rv : Value} (h : BookAt W b Lv Rv) : BookIs W b Lv Rv :=
  ⟨h.ents, h.revs, ⟨by have := h.reach.most; omega, by have := h.reach.revs; omega⟩, fun p hp => (h.reach.right p hp).2, h.reach.words, h.reach.ownLen⟩
end Go.Proofs.YtnkjoambhmlnbaaGreatDoor.Book
