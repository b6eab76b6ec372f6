/-
  The field of 256 and the S-box as plain functions over bytes: what the document's chapter on aes says, and the laws of P3.3. No program is named here.
  AES-128 as plain functions over bytes: what the document's chapter on aes says, and that unlike blocks stay unlike (P3.3). No program is named here.
  The block that the laws of layer 3 ask first: FIPS 197's appendix C.1, round by round.
-/
import Derived.Test.YtfjoflpidmjkbaaDoorAid
namespace Go.Proofs.YtfjoflpidmjkbaaDoor.Aes
open Go

def xtime (x : BitVec 8) : BitVec 8 := if x.getLsbD 7 then x <<< 1 ^^^ 27 else x <<< 1
def xpow (x : BitVec 8) : Nat → BitVec 8
  | 0 => x
  | n + 1 => xtime (xpow x n)
/-- The product by the first n bits of b. -/
def timesTo (a b : BitVec 8) : Nat → BitVec 8
  | 0 => 0
  | n + 1 => timesTo a b n ^^^ (if b.getLsbD n then xpow a n else 0)
def times (a b : BitVec 8) : BitVec 8 := timesTo a b 8

theorem xtime_add : ∀ x y : BitVec 8, xtime (x ^^^ y) = xtime x ^^^ xtime y := by
  intro x y
  unfold xtime
  have h1 : (x ^^^ y) <<< 1 = x <<< 1 ^^^ y <<< 1 := by
    apply BitVec.eq_of_getLsbD_eq
    intro i hi
    simp only [BitVec.getLsbD_xor, BitVec.getLsbD_shiftLeft]
    cases decide (i < 8) <;> cases decide (i < 1) <;> simp
  rw [BitVec.getLsbD_xor, h1]
  cases x.getLsbD 7 <;> cases y.getLsbD 7 <;> simp
  · rw [BitVec.xor_assoc]
  · rw [BitVec.xor_assoc, BitVec.xor_assoc, BitVec.xor_comm 27#8]
  · rw [BitVec.xor_assoc, BitVec.xor_comm 27#8, BitVec.xor_assoc, BitVec.xor_self, BitVec.xor_zero]
theorem xpow_add (x y : BitVec 8) : ∀ n, xpow (x ^^^ y) n = xpow x n ^^^ xpow y n
  | 0 => rfl
  | n + 1 => by
    show xtime (xpow (x ^^^ y) n) = _
    rw [xpow_add x y n, xtime_add]
    rfl
theorem xor4 (p q r s : BitVec 8) : p ^^^ q ^^^ (r ^^^ s) = p ^^^ r ^^^ (q ^^^ s) := by
  rw [BitVec.xor_assoc, BitVec.xor_assoc, ← BitVec.xor_assoc q, BitVec.xor_comm q r, BitVec.xor_assoc r]
theorem times_add_left (a a' b : BitVec 8) : times (a ^^^ a') b = times a b ^^^ times a' b := by
  have h : ∀ n, timesTo (a ^^^ a') b n = timesTo a b n ^^^ timesTo a' b n := by
    intro n
    induction n with
    | zero => simp [timesTo]
    | succ n ih =>
      show timesTo (a ^^^ a') b n ^^^ _ = (timesTo a b n ^^^ _) ^^^ (timesTo a' b n ^^^ _)
      rw [ih, xor4, xpow_add]
      congr 1
      cases b.getLsbD n <;> simp
  exact h 8
theorem times_add_right (a b b' : BitVec 8) : times a (b ^^^ b') = times a b ^^^ times a b' := by
  have h : ∀ n, timesTo a (b ^^^ b') n = timesTo a b n ^^^ timesTo a b' n := by
    intro n
    induction n with
    | zero => simp [timesTo]
    | succ n ih =>
      show timesTo a (b ^^^ b') n ^^^ _ = (timesTo a b n ^^^ _) ^^^ (timesTo a b' n ^^^ _)
      rw [ih, xor4, BitVec.getLsbD_xor]
      congr 1
      cases b.getLsbD n <;> cases b'.getLsbD n <;> simp
  exact h 8

/-! Two functions over bytes that respect sums are the same if they are the same at the eight powers of x. -/
def Additive (f : BitVec 8 → BitVec 8) : Prop := ∀ x y, f (x ^^^ y) = f x ^^^ f y
theorem Additive.zero {f : BitVec 8 → BitVec 8} (h : Additive f) : f 0 = 0 := by
  have := h 0 0
  rw [BitVec.xor_self, BitVec.xor_self] at this
  exact this
def bitOf (x : BitVec 8) (i : Nat) : BitVec 8 := if x.getLsbD i then 1 <<< i else 0
theorem bits_of : ∀ x : BitVec 8, x = bitOf x 0 ^^^ (bitOf x 1 ^^^ (bitOf x 2 ^^^ (bitOf x 3 ^^^ (bitOf x 4 ^^^ (bitOf x 5 ^^^ (bitOf x 6 ^^^ bitOf x 7)))))) := by decide +kernel
theorem Additive.bit {f g : BitVec 8 → BitVec 8} (hf : Additive f) (hg : Additive g) (x : BitVec 8) (i : Nat) (h : f (1 <<< i) = g (1 <<< i)) : f (bitOf x i) = g (bitOf x i) := by
  unfold bitOf
  cases x.getLsbD i
  · exact hf.zero.trans hg.zero.symm
  · exact h
theorem Additive.ext {f g : BitVec 8 → BitVec 8} (hf : Additive f) (hg : Additive g) (h : ∀ i, i < 8 → f (1 <<< i) = g (1 <<< i)) (x : BitVec 8) : f x = g x := by
  rw [bits_of x, hf, hf, hf, hf, hf, hf, hf, hg, hg, hg, hg, hg, hg, hg,
    hf.bit hg x 0 (h 0 (by omega)), hf.bit hg x 1 (h 1 (by omega)), hf.bit hg x 2 (h 2 (by omega)), hf.bit hg x 3 (h 3 (by omega)), hf.bit hg x 4 (h 4 (by omega)), hf.bit hg x 5 (h 5 (by omega)), hf.bit hg x 6 (h 6 (by omega)), hf.bit hg x 7 (h 7 (by omega))]
theorem add_left (b : BitVec 8) : Additive (fun a => times a b) := fun x y => times_add_left x y b
theorem add_right (a : BitVec 8) : Additive (fun b => times a b) := fun x y => times_add_right a x y
theorem Additive.comp {f g : BitVec 8 → BitVec 8} (hf : Additive f) (hg : Additive g) : Additive (fun x => f (g x)) := fun x y => by
  show f (g (x ^^^ y)) = _
  rw [hg, hf]

theorem times_comm (a b : BitVec 8) : times a b = times b a := by
  have h0 : ∀ i, i < 8 → ∀ j, j < 8 → times ((1 : BitVec 8) <<< i) ((1 : BitVec 8) <<< j) = times ((1 : BitVec 8) <<< j) ((1 : BitVec 8) <<< i) := by decide +kernel
  refine (add_left b).ext (add_right b) (fun i hi => ?_) a
  exact (add_right _).ext (add_left _) (fun j hj => h0 i hi j hj) b
theorem times_assoc (a b c : BitVec 8) : times (times a b) c = times a (times b c) := by
  have h0 : ∀ i, i < 8 → ∀ j, j < 8 → ∀ k, k < 8 → times (times ((1 : BitVec 8) <<< i) ((1 : BitVec 8) <<< j)) ((1 : BitVec 8) <<< k) = times ((1 : BitVec 8) <<< i) (times ((1 : BitVec 8) <<< j) ((1 : BitVec 8) <<< k)) := by decide +kernel
  refine ((add_left c).comp (add_left b)).ext (add_left (times b c)) (fun i hi => ?_) a
  refine ((add_left c).comp (add_right _)).ext ((add_right _).comp (add_left c)) (fun j hj => ?_) b
  exact (add_right _).ext ((add_right _).comp (add_right _)) (fun k hk => h0 i hi j hj k hk) c
theorem times_one (a : BitVec 8) : times 1 a = a := by
  have h0 : ∀ i, i < 8 → times 1 ((1 : BitVec 8) <<< i) = (1 : BitVec 8) <<< i := by decide +kernel
  exact (add_right 1).ext (g := fun x => x) (fun _ _ => rfl) (fun i hi => h0 i hi) a
theorem one_times (a : BitVec 8) : times a 1 = a := by rw [times_comm, times_one]
theorem times_zero (a : BitVec 8) : times a 0 = 0 := (add_right a).zero
theorem zero_times (a : BitVec 8) : times 0 a = 0 := (add_left a).zero

/-- The published S-box. -/
def boxL : List (BitVec 8) := [99, 124, 119, 123, 242, 107, 111, 197, 48, 1, 103, 43, 254, 215, 171, 118, 202, 130, 201, 125, 250, 89, 71, 240, 173, 212, 162, 175, 156, 164, 114, 192, 183, 253, 147, 38, 54, 63, 247, 204, 52, 165, 229, 241, 113, 216, 49, 21, 4, 199, 35, 195, 24, 150, 5, 154, 7, 18, 128, 226, 235, 39, 178, 117, 9, 131, 44, 26, 27, 110, 90, 160, 82, 59, 214, 179, 41, 227, 47, 132, 83, 209, 0, 237, 32, 252, 177, 91, 106, 203, 190, 57, 74, 76, 88, 207, 208, 239, 170, 251, 67, 77, 51, 133, 69, 249, 2, 127, 80, 60, 159, 168, 81, 163, 64, 143, 146, 157, 56, 245, 188, 182, 218, 33, 16, 255, 243, 210, 205, 12, 19, 236, 95, 151, 68, 23, 196, 167, 126, 61, 100, 93, 25, 115, 96, 129, 79, 220, 34, 42, 144, 136, 70, 238, 184, 20, 222, 94, 11, 219, 224, 50, 58, 10, 73, 6, 36, 92, 194, 211, 172, 98, 145, 149, 228, 121, 231, 200, 55, 109, 141, 213, 78, 169, 108, 86, 244, 234, 101, 122, 174, 8, 186, 120, 37, 46, 28, 166, 180, 198, 232, 221, 116, 31, 75, 189, 139, 138, 112, 62, 181, 102, 72, 3, 246, 14, 97, 53, 87, 185, 134, 193, 29, 158, 225, 248, 152, 17, 105, 217, 142, 148, 155, 30, 135, 233, 206, 85, 40, 223, 140, 161, 137, 13, 191, 230, 66, 104, 65, 153, 45, 15, 176, 84, 187, 22]
def box (b : BitVec 8) : BitVec 8 := boxL.getD b.toNat 0
/-- The inverses (0 for 0). -/
def invL : List (BitVec 8) := [0, 1, 141, 246, 203, 82, 123, 209, 232, 79, 41, 192, 176, 225, 229, 199, 116, 180, 170, 75, 153, 43, 96, 95, 88, 63, 253, 204, 255, 64, 238, 178, 58, 110, 90, 241, 85, 77, 168, 201, 193, 10, 152, 21, 48, 68, 162, 194, 44, 69, 146, 108, 243, 57, 102, 66, 242, 53, 32, 111, 119, 187, 89, 25, 29, 254, 55, 103, 45, 49, 245, 105, 167, 100, 171, 19, 84, 37, 233, 9, 237, 92, 5, 202, 76, 36, 135, 191, 24, 62, 34, 240, 81, 236, 97, 23, 22, 94, 175, 211, 73, 166, 54, 67, 244, 71, 145, 223, 51, 147, 33, 59, 121, 183, 151, 133, 16, 181, 186, 60, 182, 112, 208, 6, 161, 250, 129, 130, 131, 126, 127, 128, 150, 115, 190, 86, 155, 158, 149, 217, 247, 2, 185, 164, 222, 106, 50, 109, 216, 138, 132, 114, 42, 20, 159, 136, 249, 220, 137, 154, 251, 124, 46, 195, 143, 184, 101, 72, 38, 200, 18, 74, 206, 231, 210, 98, 12, 224, 31, 239, 17, 117, 120, 113, 165, 142, 118, 61, 189, 188, 134, 87, 11, 40, 47, 163, 218, 212, 228, 15, 169, 39, 83, 4, 27, 252, 172, 230, 122, 7, 174, 99, 197, 219, 226, 234, 148, 139, 196, 213, 157, 248, 144, 107, 177, 13, 214, 235, 198, 14, 207, 173, 8, 78, 215, 227, 93, 80, 30, 179, 91, 35, 56, 52, 104, 70, 3, 140, 221, 156, 125, 160, 205, 26, 65, 28]
def inv (b : BitVec 8) : BitVec 8 := invL.getD b.toNat 0
/-- The way back. -/
def unboxL : List (BitVec 8) := [82, 9, 106, 213, 48, 54, 165, 56, 191, 64, 163, 158, 129, 243, 215, 251, 124, 227, 57, 130, 155, 47, 255, 135, 52, 142, 67, 68, 196, 222, 233, 203, 84, 123, 148, 50, 166, 194, 35, 61, 238, 76, 149, 11, 66, 250, 195, 78, 8, 46, 161, 102, 40, 217, 36, 178, 118, 91, 162, 73, 109, 139, 209, 37, 114, 248, 246, 100, 134, 104, 152, 22, 212, 164, 92, 204, 93, 101, 182, 146, 108, 112, 72, 80, 253, 237, 185, 218, 94, 21, 70, 87, 167, 141, 157, 132, 144, 216, 171, 0, 140, 188, 211, 10, 247, 228, 88, 5, 184, 179, 69, 6, 208, 44, 30, 143, 202, 63, 15, 2, 193, 175, 189, 3, 1, 19, 138, 107, 58, 145, 17, 65, 79, 103, 220, 234, 151, 242, 207, 206, 240, 180, 230, 115, 150, 172, 116, 34, 231, 173, 53, 133, 226, 249, 55, 232, 28, 117, 223, 110, 71, 241, 26, 113, 29, 41, 197, 137, 111, 183, 98, 14, 170, 24, 190, 27, 252, 86, 62, 75, 198, 210, 121, 32, 154, 219, 192, 254, 120, 205, 90, 244, 31, 221, 168, 51, 136, 7, 199, 49, 177, 18, 16, 89, 39, 128, 236, 95, 96, 81, 127, 169, 25, 181, 74, 13, 45, 229, 122, 159, 147, 201, 156, 239, 160, 224, 59, 77, 174, 42, 245, 176, 200, 235, 187, 60, 131, 83, 153, 97, 23, 43, 4, 126, 186, 119, 214, 38, 225, 105, 20, 99, 85, 33, 12, 125]
def unbox (b : BitVec 8) : BitVec 8 := unboxL.getD b.toNat 0
theorem unbox_box : ∀ b : BitVec 8, unbox (box b) = b := by decide +kernel
theorem box_inj {a b : BitVec 8} (h : box a = box b) : a = b := by rw [← unbox_box a, h, unbox_box]
theorem box_eq (a b : BitVec 8) : (box a = box b) ↔ a = b := ⟨box_inj, fun h => by rw [h]⟩
theorem times_inv : ∀ b : BitVec 8, b ≠ 0 → times b (inv b) = 1 := by decide +kernel
theorem inv_of_times {b i : BitVec 8} (h : times b i = 1) : i = inv b := by
  have hb : b ≠ 0 := fun h0 => by rw [h0, zero_times] at h; exact absurd h (by decide)
  rw [← times_one i, ← times_inv b hb, times_comm b, times_assoc, h, one_times]
/-- The S-box's second half: bit by bit of the inverse. -/
def aff (r : BitVec 8) (i : Nat) : Bool := (((r.getLsbD i ^^ r.getLsbD ((i + 4) % 8)) ^^ r.getLsbD ((i + 5) % 8)) ^^ r.getLsbD ((i + 6) % 8)) ^^ r.getLsbD ((i + 7) % 8) ^^ (99 : BitVec 8).getLsbD i
theorem box_aff : ∀ b : BitVec 8, ∀ i, i < 8 → (box b).getLsbD i = aff (inv b) i := by decide +kernel
end Go.Proofs.YtfjoflpidmjkbaaDoor.Aes

namespace Go.Proofs.YtfjoflpidmjkbaaDoor.Aes
open Go

abbrev Blk := Nat → BitVec 8
/-- The first column of the next round key. -/
def keyFirst (was : Blk) (p : BitVec 8) (r : Nat) : BitVec 8 := was r ^^^ box (was (12 + (r + 1) % 4)) ^^^ (if r = 0 then p else 0)
def keyCol (was : Blk) (p : BitVec 8) : Nat → Nat → BitVec 8
  | 0, r => keyFirst was p r
  | c + 1, r => was (4 * (c + 1) + r) ^^^ keyCol was p c r
def nextKey (was : Blk) (p : BitVec 8) (i : Nat) : BitVec 8 := keyCol was p (i / 4) (i % 4)
/-- Round key n. -/
def roundKey (key : Blk) : Nat → Blk
  | 0 => key
  | n + 1 => nextKey (roundKey key n) (xpow 1 n)
def addKey (b k : Blk) (i : Nat) : BitVec 8 := b i ^^^ k i
def subShift (b : Blk) (i : Nat) : BitVec 8 := box (b (4 * ((i / 4 + i % 4) % 4) + i % 4))
def mixCols (t : Blk) (i : Nat) : BitVec 8 :=
  times 2 (t (4 * (i / 4) + i % 4)) ^^^ times 3 (t (4 * (i / 4) + (i % 4 + 1) % 4)) ^^^ t (4 * (i / 4) + (i % 4 + 2) % 4) ^^^ t (4 * (i / 4) + (i % 4 + 3) % 4)
/-- The block behind n rounds. -/
def encTo (key block : Blk) : Nat → Blk
  | 0 => addKey block (roundKey key 0)
  | n + 1 => addKey (if n + 1 < 10 then mixCols (subShift (encTo key block n)) else subShift (encTo key block n)) (roundKey key (n + 1))
def enc (key block : Blk) : Blk := encTo key block 10

/-! The same at all sixteen places. -/
def Same16 (x y : Blk) : Prop := ∀ i, i < 16 → x i = y i
theorem addKey_inj {x y k : Blk} (h : Same16 (addKey x k) (addKey y k)) : Same16 x y := fun i hi => by
  have h1 : x i ^^^ k i = y i ^^^ k i := h i hi
  have h2 : x i ^^^ k i ^^^ k i = y i ^^^ k i ^^^ k i := by rw [h1]
  rw [BitVec.xor_assoc, BitVec.xor_assoc, BitVec.xor_self, BitVec.xor_zero, BitVec.xor_zero] at h2
  exact h2
theorem subShift_inj {x y : Blk} (h : Same16 (subShift x) (subShift y)) : Same16 x y := fun i hi => by
  have h1 := h (4 * ((i / 4 + 4 - i % 4) % 4) + i % 4) (by omega)
  unfold subShift at h1
  have e : 4 * (((4 * ((i / 4 + 4 - i % 4) % 4) + i % 4) / 4 + (4 * ((i / 4 + 4 - i % 4) % 4) + i % 4) % 4) % 4) + (4 * ((i / 4 + 4 - i % 4) % 4) + i % 4) % 4 = i := by omega
  rw [e] at h1
  exact box_inj h1
theorem un_a : ∀ a : BitVec 8, times 14 (times 2 a) ^^^ times 11 a ^^^ times 13 a ^^^ times 9 (times 3 a) = a := by decide +kernel
theorem un_b : ∀ b : BitVec 8, times 14 (times 3 b) ^^^ times 11 (times 2 b) ^^^ times 13 b ^^^ times 9 b = 0 := by decide +kernel
theorem un_c : ∀ c : BitVec 8, times 14 c ^^^ times 11 (times 3 c) ^^^ times 13 (times 2 c) ^^^ times 9 c = 0 := by decide +kernel
theorem un_d : ∀ d : BitVec 8, times 14 d ^^^ times 11 d ^^^ times 13 (times 3 d) ^^^ times 9 (times 2 d) = 0 := by decide +kernel
theorem unmix (a b c d : BitVec 8) : times 14 (times 2 a ^^^ times 3 b ^^^ c ^^^ d) ^^^ times 11 (times 2 b ^^^ times 3 c ^^^ d ^^^ a) ^^^ times 13 (times 2 c ^^^ times 3 d ^^^ a ^^^ b) ^^^ times 9 (times 2 d ^^^ times 3 a ^^^ b ^^^ c) = a := by
  have h : times 14 (times 2 a ^^^ times 3 b ^^^ c ^^^ d) ^^^ times 11 (times 2 b ^^^ times 3 c ^^^ d ^^^ a) ^^^ times 13 (times 2 c ^^^ times 3 d ^^^ a ^^^ b) ^^^ times 9 (times 2 d ^^^ times 3 a ^^^ b ^^^ c) =
      (times 14 (times 2 a) ^^^ times 11 a ^^^ times 13 a ^^^ times 9 (times 3 a)) ^^^ (times 14 (times 3 b) ^^^ times 11 (times 2 b) ^^^ times 13 b ^^^ times 9 b) ^^^ (times 14 c ^^^ times 11 (times 3 c) ^^^ times 13 (times 2 c) ^^^ times 9 c) ^^^ (times 14 d ^^^ times 11 d ^^^ times 13 (times 3 d) ^^^ times 9 (times 2 d)) := by
    simp only [times_add_right]
    ac_rfl
  rw [h, un_a, un_b, un_c, un_d]
  simp
theorem mixCols_inj {x y : Blk} (h : Same16 (mixCols x) (mixCols y)) : Same16 x y := fun i hi => by
  have key : ∀ t : Blk, times 14 (mixCols t (4 * (i / 4) + i % 4)) ^^^ times 11 (mixCols t (4 * (i / 4) + (i % 4 + 1) % 4)) ^^^ times 13 (mixCols t (4 * (i / 4) + (i % 4 + 2) % 4)) ^^^ times 9 (mixCols t (4 * (i / 4) + (i % 4 + 3) % 4)) = t i := fun t => by
    have e : ∀ k, k < 4 → mixCols t (4 * (i / 4) + (i % 4 + k) % 4) = times 2 (t (4 * (i / 4) + (i % 4 + k) % 4)) ^^^ times 3 (t (4 * (i / 4) + (i % 4 + (k + 1)) % 4)) ^^^ t (4 * (i / 4) + (i % 4 + (k + 2)) % 4) ^^^ t (4 * (i / 4) + (i % 4 + (k + 3)) % 4) := fun k hk => by
      unfold mixCols
      have e1 : (4 * (i / 4) + (i % 4 + k) % 4) / 4 = i / 4 := by omega
      have e2 : (4 * (i / 4) + (i % 4 + k) % 4) % 4 = (i % 4 + k) % 4 := by omega
      rw [e1, e2, show ((i % 4 + k) % 4 + 1) % 4 = (i % 4 + (k + 1)) % 4 by omega, show ((i % 4 + k) % 4 + 2) % 4 = (i % 4 + (k + 2)) % 4 by omega, show ((i % 4 + k) % 4 + 3) % 4 = (i % 4 + (k + 3)) % 4 by omega]
    have e0 := e 0 (by omega)
    rw [show 4 * (i / 4) + (i % 4 + 0) % 4 = 4 * (i / 4) + i % 4 by omega] at e0
    rw [e0, e 1 (by omega), e 2 (by omega), e 3 (by omega)]
    simp only [Nat.zero_add, Nat.reduceAdd]
    rw [show (i % 4 + 4) % 4 = i % 4 by omega, show (i % 4 + 5) % 4 = (i % 4 + 1) % 4 by omega, show (i % 4 + 6) % 4 = (i % 4 + 2) % 4 by omega, unmix, show 4 * (i / 4) + i % 4 = i by omega]
  rw [← key x, ← key y, h _ (by omega), h _ (by omega), h _ (by omega), h _ (by omega)]
theorem encTo_inj (key b b' : Blk) : ∀ n, Same16 (encTo key b n) (encTo key b' n) → Same16 b b'
  | 0, h => addKey_inj h
  | n + 1, h => by
    have h1 := addKey_inj h
    refine encTo_inj key b b' n ?_
    by_cases h10 : n + 1 < 10
    · rw [if_pos h10, if_pos h10] at h1
      exact subShift_inj (mixCols_inj h1)
    · rw [if_neg h10, if_neg h10] at h1
      exact subShift_inj h1
theorem enc_inj (key b b' : Blk) (h : Same16 (enc key b) (enc key b')) : Same16 b b' := encTo_inj key b b' 10 h

/-! What a block's bytes beyond the sixteenth are does not matter. -/
theorem subShift_congr {x y : Blk} (h : Same16 x y) : Same16 (subShift x) (subShift y) := fun i hi => by unfold subShift; rw [h _ (by omega)]
theorem mixCols_congr {x y : Blk} (h : Same16 x y) : Same16 (mixCols x) (mixCols y) := fun i hi => by
  unfold mixCols
  rw [h _ (by omega), h (4 * (i / 4) + (i % 4 + 1) % 4) (by omega), h (4 * (i / 4) + (i % 4 + 2) % 4) (by omega), h (4 * (i / 4) + (i % 4 + 3) % 4) (by omega)]
theorem addKey_congr {x y k k' : Blk} (h : Same16 x y) (hk : Same16 k k') : Same16 (addKey x k) (addKey y k') := fun i hi => by unfold addKey; rw [h i hi, hk i hi]
theorem keyCol_congr {x y : Blk} (h : Same16 x y) (p : BitVec 8) : ∀ c r, c < 4 → r < 4 → keyCol x p c r = keyCol y p c r
  | 0, r, _, hr => by show keyFirst x p r = keyFirst y p r; unfold keyFirst; rw [h r (by omega), h _ (by omega)]
  | c + 1, r, hc, hr => by
    show x _ ^^^ keyCol x p c r = y _ ^^^ keyCol y p c r
    rw [h _ (by omega), keyCol_congr h p c r (by omega) hr]
theorem nextKey_congr {x y : Blk} (h : Same16 x y) (p : BitVec 8) : Same16 (nextKey x p) (nextKey y p) := fun i hi => keyCol_congr h p _ _ (by omega) (by omega)
theorem roundKey_congr {x y : Blk} (h : Same16 x y) : ∀ n, Same16 (roundKey x n) (roundKey y n)
  | 0 => h
  | n + 1 => nextKey_congr (roundKey_congr h n) _
theorem encTo_congr {k k' b b' : Blk} (hk : Same16 k k') (hb : Same16 b b') : ∀ n, Same16 (encTo k b n) (encTo k' b' n)
  | 0 => addKey_congr hb (roundKey_congr hk 0)
  | n + 1 => by
    refine addKey_congr ?_ (roundKey_congr hk (n + 1))
    by_cases h10 : n + 1 < 10
    · rw [if_pos h10, if_pos h10]; exact mixCols_congr (subShift_congr (encTo_congr hk hb n))
    · rw [if_neg h10, if_neg h10]; exact subShift_congr (encTo_congr hk hb n)
theorem enc_congr {k k' b b' : Blk} (hk : Same16 k k') (hb : Same16 b b') : Same16 (enc k b) (enc k' b') := encTo_congr hk hb 10

/-! Steps of the program's arithmetic. -/
theorem times_two : ∀ a : BitVec 8, times a 2 = xtime a := by decide +kernel
theorem two_times (a : BitVec 8) : times 2 a = xtime a := by rw [times_comm, times_two]
theorem three_times (a : BitVec 8) : times 3 a = xtime a ^^^ a := by
  rw [show (3 : BitVec 8) = 2 ^^^ 1 from rfl, times_add_left, two_times, times_one]
end Go.Proofs.YtfjoflpidmjkbaaDoor.Aes

namespace Go.Proofs.YtfjoflpidmjkbaaDoor.Aes
open Go

def listB (l : List (BitVec 8)) (i : Nat) : BitVec 8 := l.getD i 0
def key0 : List (BitVec 8) := [0, 1, 2, 3, 4, 5, 6, 7, 8, 9, 10, 11, 12, 13, 14, 15]
def block0 : List (BitVec 8) := [0, 17, 34, 51, 68, 85, 102, 119, 136, 153, 170, 187, 204, 221, 238, 255]
def rkL : List (List (BitVec 8)) := [[0, 1, 2, 3, 4, 5, 6, 7, 8, 9, 10, 11, 12, 13, 14, 15],
  [214, 170, 116, 253, 210, 175, 114, 250, 218, 166, 120, 241, 214, 171, 118, 254],
  [182, 146, 207, 11, 100, 61, 189, 241, 190, 155, 197, 0, 104, 48, 179, 254],
  [182, 255, 116, 78, 210, 194, 201, 191, 108, 89, 12, 191, 4, 105, 191, 65],
  [71, 247, 247, 188, 149, 53, 62, 3, 249, 108, 50, 188, 253, 5, 141, 253],
  [60, 170, 163, 232, 169, 159, 157, 235, 80, 243, 175, 87, 173, 246, 34, 170],
  [94, 57, 15, 125, 247, 166, 146, 150, 167, 85, 61, 193, 10, 163, 31, 107],
  [20, 249, 112, 26, 227, 95, 226, 140, 68, 10, 223, 77, 78, 169, 192, 38],
  [71, 67, 135, 53, 164, 28, 101, 185, 224, 22, 186, 244, 174, 191, 122, 210],
  [84, 153, 50, 209, 240, 133, 87, 104, 16, 147, 237, 156, 190, 44, 151, 78],
  [19, 17, 29, 127, 227, 148, 74, 23, 243, 7, 167, 139, 77, 43, 48, 197]]
def encL : List (List (BitVec 8)) := [[0, 16, 32, 48, 64, 80, 96, 112, 128, 144, 160, 176, 192, 208, 224, 240],
  [137, 216, 16, 232, 133, 90, 206, 104, 45, 24, 67, 216, 203, 18, 143, 228],
  [73, 21, 89, 143, 85, 229, 215, 160, 218, 202, 148, 250, 31, 10, 99, 247],
  [250, 99, 106, 40, 37, 179, 57, 201, 64, 102, 138, 49, 87, 36, 77, 23],
  [36, 114, 64, 35, 105, 102, 179, 250, 110, 210, 117, 50, 136, 66, 91, 108],
  [200, 22, 119, 188, 155, 122, 201, 59, 37, 2, 121, 146, 176, 38, 25, 150],
  [198, 47, 225, 9, 247, 94, 237, 195, 204, 121, 57, 93, 132, 249, 207, 93],
  [209, 135, 108, 15, 121, 196, 48, 10, 180, 85, 148, 173, 214, 111, 244, 31],
  [253, 227, 186, 210, 5, 229, 208, 215, 53, 71, 150, 78, 241, 254, 55, 241],
  [189, 110, 124, 61, 242, 181, 119, 158, 11, 97, 33, 110, 139, 16, 182, 137],
  [105, 196, 224, 216, 106, 123, 4, 48, 216, 205, 183, 128, 112, 180, 197, 90]]
def rkAt (n : Nat) : Blk := listB (rkL.getD n [])
def encAt (n : Nat) : Blk := listB (encL.getD n [])
theorem rk_ok : ∀ n, n < 10 → ∀ i, i < 16 → nextKey (rkAt n) (xpow 1 n) i = rkAt (n + 1) i := by decide +kernel
theorem enc_ok : ∀ n, n < 10 → ∀ i, i < 16 → addKey (if n + 1 < 10 then mixCols (subShift (encAt n)) else subShift (encAt n)) (rkAt (n + 1)) i = encAt (n + 1) i := by decide +kernel
theorem rk_known : ∀ n, n ≤ 10 → Same16 (roundKey (listB key0) n) (rkAt n)
  | 0, _ => by intro i hi; rfl
  | n + 1, h => fun i hi => by
    rw [← rk_ok n (by omega) i hi]
    exact nextKey_congr (rk_known n (by omega)) _ i hi
theorem enc0_ok : ∀ i, i < 16 → addKey (listB block0) (rkAt 0) i = encAt 0 i := by decide +kernel
theorem enc_known : ∀ n, n ≤ 10 → Same16 (encTo (listB key0) (listB block0) n) (encAt n)
  | 0, _ => fun i hi => by rw [← enc0_ok i hi]; rfl
  | n + 1, h => fun i hi => by
    rw [← enc_ok n (by omega) i hi]
    refine addKey_congr ?_ (rk_known (n + 1) h) i hi
    by_cases h10 : n + 1 < 10
    · rw [if_pos h10, if_pos h10]; exact mixCols_congr (subShift_congr (enc_known n (by omega)))
    · rw [if_neg h10, if_neg h10]; exact subShift_congr (enc_known n (by omega))
theorem known_0 : enc (listB key0) (listB block0) 0 = 0x69 := (enc_known 10 (Nat.le_refl _) 0 (by omega)).trans (by decide +kernel)
theorem known_15 : enc (listB key0) (listB block0) 15 = 0x5a := (enc_known 10 (Nat.le_refl _) 15 (by omega)).trans (by decide +kernel)
theorem known_key : roundKey (listB key0) 10 15 = 0xc5 := (rk_known 10 (Nat.le_refl _) 15 (by omega)).trans (by decide +kernel)
theorem known_box : box 0 = 99 := by decide +kernel
theorem known_times : times 2 128 = 27 := by decide +kernel
end Go.Proofs.YtfjoflpidmjkbaaDoor.Aes
